/-
  Parts of one proof, one behind the other: CheckS, TreeS6, IntsL, FnE.
-/
import Derived.Test.YtmloocbbcnhooaaGreatDoorP14
import Derived.Test.YtmloocbbcnhooaaGreatDoorP7
import Derived.Test.YtmloocbbcnhooaaGreatDoorP11
import Derived.Test.YtmloocbbcnhooaaGreatDoorP12
import Derived.Test.YtmloocbbcnhooaaGreatDoorP2
import Derived.Test.YtmloocbbcnhooaaGreatDoorP13

/-! The contracts of chapter 9's specification: what a call is told. -/
namespace Go.Proofs.YtmloocbbcnhooaaGreatDoor
open Go.RowKit

theorem node_new (V : World) (a b c d : Value) (t : TypeId) : ((V.alloc (.cells #[a, b, c, d] t)).cell? ⟨V.heap.size, 0, none⟩ = some a ∧ (V.alloc (.cells #[a, b, c, d] t)).cell? ⟨V.heap.size, 1, none⟩ = some b ∧ (V.alloc (.cells #[a, b, c, d] t)).cell? ⟨V.heap.size, 2, none⟩ = some c ∧ (V.alloc (.cells #[a, b, c, d] t)).cell? ⟨V.heap.size, 3, none⟩ = some d) ∧ Below V.heap.size V (V.alloc (.cells #[a, b, c, d] t)) := by
  have hb : Below V.heap.size V (V.alloc (.cells #[a, b, c, d] t)) := (Below.refl _ _).alloc (Nat.le_refl _) _
  have hA := heap_alloc_new V (.cells #[a, b, c, d] t)
  generalize V.alloc (.cells #[a, b, c, d] t) = W at hb hA ⊢
  exact ⟨⟨by simp [World.cell?, hA], by simp [World.cell?, hA], by simp [World.cell?, hA], by simp [World.cell?, hA]⟩, hb⟩

set_option maxHeartbeats 8000000 in
set_option maxRecDepth 100000 in
theorem specCall9 (a : Option Addr) (len cap : Nat) (ps : List Pk) (nm : List UInt8) (ia : Option Addr) (il ic : Nat) (fa : Option Addr) (fl fc : Nat) (ims : List (List UInt8)) (fs : List Fn) (at_ : Int) (n : Nd) (w : World)
    (hl : PkgsIn w a len ps) (hi : TextsIn w ia il ims) (hf : FuncsIn w fa fl fs) (hlen : len ≤ 1048576) (hil : il ≤ 1048576) (hfl : fl ≤ 1048576) (hsh : ShortPs ps) :
    Calls Tryz.prog 110 #[.slice a len cap, .agg #[.string ⟨nm.toArray⟩, .slice ia il ic, .slice fa fl fc], .int .i64 at_, nodeVal n] w fun e w' => e = .returned (.int .i64 (call9 ps (nm, ims, fs) at_ n)) ∧ Below w.heap.size w w' := by
  obtain ⟨k, A, x, fn⟩ := n
  unfold nodeVal
  simp only
  obtain ⟨bx, hbx⟩ := Box3.new w (.string ⟨nm.toArray⟩) (.slice ia il ic) (.slice fa fl fc) 36
  obtain ⟨W1, hW1⟩ : ∃ W1, w.alloc (.cells #[.string ⟨nm.toArray⟩, .slice ia il ic, .slice fa fl fc] 36) = W1 := ⟨_, rfl⟩
  have hs1 : W1.heap.size = w.heap.size + 1 := by rw [← hW1]; simp
  rw [hW1] at bx hbx
  obtain ⟨⟨n0, n1, n2, n3⟩, hb2⟩ := node_new W1 (.int .i64 k) (.int .i64 A) (.string ⟨x.toArray⟩) (.string ⟨fn.toArray⟩) 39
  obtain ⟨W2, hW2⟩ : ∃ W2, W1.alloc (.cells #[.int .i64 k, .int .i64 A, .string ⟨x.toArray⟩, .string ⟨fn.toArray⟩] 39) = W2 := ⟨_, rfl⟩
  have hs2 : W2.heap.size = w.heap.size + 1 + 1 := by rw [← hW2]; simp [hs1]
  rw [hW2, hs1] at n0 n1 n2 n3
  rw [hW2] at hb2
  have bx2 := bx.below hb2
  have hbw : Below w.heap.size w W2 := hbx.trans (hb2.mono (by omega))
  have p0 := bx2.c0
  have p1 := bx2.c1
  have p2 := bx2.c2
  have HI2 : Hid (TextsIn W2 ia il ims) := hi.below hbw
  have HF2 : Hid (FuncsIn W2 fa fl fs) := hf.below hbw
  have HP2 : Hid (PkgsIn W2 a len ps) := hl.below hbw
  have HB2 : Hid (Below w.heap.size w W2) := hbw
  have HBp2 : Hid (Box3 W2 w.heap.size (.string ⟨nm.toArray⟩) (.slice ia il ic) (.slice fa fl fc)) := bx2
  clear bx hbx bx2 hb2 hbw hi hf
  by_cases hxn : x = nm
  · subst hxn
    have hself : (x == x) = true := by simp
    have hselfn : (x != x) = false := by simp
    have HV : Hid (call9 ps (x, ims, fs) at_ (k, A, x, fn) = if atV fs fn < 0 ∨ (x = x ∧ at_ ≤ atV fs fn) then 2 else if (fs.getD (atV fs fn).toNat fn0).2.1 ≠ A then 3 else 0) := by exact (by
      unfold call9
      have h1 : farB ps (x, ims, fs) x = false := by unfold farB; exact decide_eq_false (fun h => h.1 rfl)
      have h2 : ofPk ps (x, ims, fs) x = (x, ims, fs) := by unfold ofPk; rw [if_pos rfl]
      simp only
      rw [h1, h2, if_neg (by simp)] : call9 ps (x, ims, fs) at_ (k, A, x, fn) = if atV fs fn < 0 ∨ (x = x ∧ at_ ≤ atV fs fn) then 2 else if (fs.getD (atV fs fn).toNat fn0).2.1 ≠ A then 3 else 0)
    obtain ⟨bq, hbq⟩ := Box3.new W2 (.string ⟨x.toArray⟩) (.slice ia il ic) (.slice fa fl fc) 36
    obtain ⟨W3, hW3⟩ : ∃ W3, W2.alloc (.cells #[.string ⟨x.toArray⟩, .slice ia il ic, .slice fa fl fc] 36) = W3 := ⟨_, rfl⟩
    rw [hW3] at bq hbq
    rw [hs2] at bq
    have HBq : Hid (Box3 W3 (w.heap.size + 1 + 1) (.string ⟨x.toArray⟩) (.slice ia il ic) (.slice fa fl fc)) := bq
    have HBp : Hid (Box3 W3 w.heap.size (.string ⟨x.toArray⟩) (.slice ia il ic) (.slice fa fl fc)) := HBp2.out.below hbq
    have HGn : Hid (w.heap.size + 1 < W3.heap.size) := by have := hbq.size; exact (by omega : w.heap.size + 1 < W3.heap.size)
    have HN2 : Hid (W3.cell? ⟨w.heap.size + 1, 2, none⟩ = some (.string ⟨x.toArray⟩)) := (hbq.cell (p := ⟨w.heap.size + 1, 2, none⟩) (by rw [hs2]; simp)).trans n2
    have HN1 : Hid (W3.cell? ⟨w.heap.size + 1, 1, none⟩ = some (.int .i64 A)) := (hbq.cell (p := ⟨w.heap.size + 1, 1, none⟩) (by rw [hs2]; simp)).trans n1
    have e3 := (hbq.cell (p := ⟨w.heap.size + 1, 3, none⟩) (by rw [hs2]; simp)).trans n3
    have e2 := HN2.out
    have q0 := bq.c0
    have q1 := bq.c1
    have q2 := bq.c2
    have pp0 := HBp.out.c0
    have HBW : Hid (Below w.heap.size w W3) := HB2.out.trans (hbq.mono HB2.out.size)
    have hqf := HF2.out.below hbq
    have HAt : Hid (_) := specAt x fn ia il ic fa fl fc fs W3 hqf hfl
    clear bq hbq
    go_enter Tryz.func110, Tryz.ntmps110
    obtain ⟨qfa, hqfa⟩ : ∃ qfa, qfa = fa := ⟨_, rfl⟩
    obtain ⟨qfl, hqfl⟩ : ∃ qfl, qfl = fl := ⟨_, rfl⟩
    obtain ⟨qfs, hqfs⟩ : ∃ qfs, qfs = fs := ⟨_, rfl⟩
    subst hqfa
    subst hqfl
    subst hqfs
    have HQ : Hid (FuncsIn W3 qfa qfl qfs) := hqf
    rcases at7_is qfs fn with eK | ⟨j, hj, eK, hjn⟩
    · have HR : Hid (call9 ps (x, ims, qfs) at_ (k, A, x, fn) = 2) := by exact (by rw [HV.out, eK, if_pos (Or.inl (by omega))] : call9 ps (x, ims, qfs) at_ (k, A, x, fn) = 2)
      rw [eK] at HAt
      go_wp2_with fail
      refine Calls.mono HAt.out ?_
      rintro e w5 ⟨rfl, hb5⟩
      have HB5 : Hid (Below w.heap.size w w5) := HBW.out.trans (hb5.mono HBW.out.size)
      have g0 := (HBq.out.below hb5).c0
      have g1 := (HBq.out.below hb5).c1
      have g2 := (HBq.out.below hb5).c2
      have m0 := (HBp.out.below hb5).c0
      have m2 := (hb5.cell (p := ⟨w.heap.size + 1, 2, none⟩) HGn.out).trans HN2.out
      have m1 := (hb5.cell (p := ⟨w.heap.size + 1, 1, none⟩) HGn.out).trans HN1.out
      clear hb5 hqf eK
      go_wp2
      go_ret
      exact ⟨by rw [HR.out]; rfl, HB5.out⟩
    · rw [eK] at HAt
      have hj0 : ¬ (j : Int) < 0 := by omega
      have hjl : j < qfl := by rw [← HQ.out.1]; exact hj
      have hjz : (j : Int) < (qfl : Int) := by omega
      by_cases hat : at_ ≤ (j : Int)
      · have HR : Hid (call9 ps (x, ims, qfs) at_ (k, A, x, fn) = 2) := by exact (by rw [HV.out, eK, if_pos (Or.inr ⟨rfl, hat⟩)] : call9 ps (x, ims, qfs) at_ (k, A, x, fn) = 2)
        go_wp2_with fail
        refine Calls.mono HAt.out ?_
        rintro e w5 ⟨rfl, hb5⟩
        have HB5 : Hid (Below w.heap.size w w5) := HBW.out.trans (hb5.mono HBW.out.size)
        have g0 := (HBq.out.below hb5).c0
        have g1 := (HBq.out.below hb5).c1
        have g2 := (HBq.out.below hb5).c2
        have m0 := (HBp.out.below hb5).c0
        have m2 := (hb5.cell (p := ⟨w.heap.size + 1, 2, none⟩) HGn.out).trans HN2.out
        have m1 := (hb5.cell (p := ⟨w.heap.size + 1, 1, none⟩) HGn.out).trans HN1.out
        clear hb5 hqf eK
        go_wp2
        go_ret
        exact ⟨by rw [HR.out]; rfl, HB5.out⟩
      · have HC7 : Hid (¬ ((j : Int) < 0 ∨ (x = x ∧ at_ ≤ (j : Int)))) := fun h => h.elim hj0 (fun h => hat h.2)
        go_wp2_with fail
        refine Calls.mono HAt.out ?_
        rintro e w5 ⟨rfl, hb5⟩
        have HB5 : Hid (Below w.heap.size w w5) := HBW.out.trans (hb5.mono HBW.out.size)
        have g0 := (HBq.out.below hb5).c0
        have g1 := (HBq.out.below hb5).c1
        have g2 := (HBq.out.below hb5).c2
        have m0 := (HBp.out.below hb5).c0
        have m2 := (hb5.cell (p := ⟨w.heap.size + 1, 2, none⟩) HGn.out).trans HN2.out
        have m1 := (hb5.cell (p := ⟨w.heap.size + 1, 1, none⟩) HGn.out).trans HN1.out
        have hq5 := HQ.out.below hb5
        obtain ⟨bq, oq, rfl, _, _, r1, _⟩ := hq5.2 j hjl
        obtain ⟨B, hB⟩ : ∃ B, (qfs.getD j fn0).2.1 = B := ⟨_, rfl⟩
        rw [hB] at r1
        clear hb5 hqf hq5
        by_cases hBA : B = A
        · have HR : Hid (call9 ps (x, ims, qfs) at_ (k, A, x, fn) = 0) := by exact (by rw [HV.out, eK, if_neg HC7.out, Int.toNat_natCast, hB, if_neg (by simpa using hBA)] : call9 ps (x, ims, qfs) at_ (k, A, x, fn) = 0)
          have hne : (B != A) = false := by simp [hBA]
          subst hBA
          have hne2 : (B == B) = true := by simp
          clear eK hB
          go_wp2_with fail
          go_quiet (fail)
          go_wp2
          go_ret
          exact ⟨by rw [HR.out]; rfl, HB5.out.trans ⟨rfl, rfl, rfl, Nat.le_refl _, fun _ _ => rfl⟩⟩
        · have HR : Hid (call9 ps (x, ims, qfs) at_ (k, A, x, fn) = 3) := by exact (by rw [HV.out, eK, if_neg HC7.out, Int.toNat_natCast, hB, if_pos hBA] : call9 ps (x, ims, qfs) at_ (k, A, x, fn) = 3)
          have hne : (B != A) = true := by rw [bne_iff_ne]; exact hBA
          have hne2 : (B == A) = false := beq_eq_false_iff_ne.2 hBA
          have hne3 : ¬ B = A := hBA
          clear eK hB
          go_wp2_with fail
          go_quiet (fail)
          go_wp2
          go_ret
          exact ⟨by rw [HR.out]; rfl, HB5.out.trans ⟨rfl, rfl, rfl, Nat.le_refl _, fun _ _ => rfl⟩⟩
  · have hne : (x != nm) = true := by rw [bne_iff_ne]; exact hxn
    have hne2 : (x == nm) = false := beq_eq_false_iff_ne.2 hxn
    by_cases hin : x ∈ ims
    · have HH : Hid (_) := specHas ia il ic ims x W2 HI2.out (by omega)
      rw [decide_eq_true hin] at HH
      have HA8 : Hid (∀ W, PkgsIn W a len ps → Calls Tryz.prog 27 #[.slice a len cap, .string ⟨x.toArray⟩] W fun e w' => e = .returned (.int .i64 (at8 ps x)) ∧ w' = W) := fun W hW => specAt8 a len cap ps x W hW hlen
      rcases at8_is ps x with ⟨e8, _⟩ | ⟨j0, hj0, e8, hjn, _⟩
      · have HR : Hid (call9 ps (nm, ims, fs) at_ (k, A, x, fn) = 1) := by exact (by
          unfold call9
          rw [if_pos (by unfold farB; exact decide_eq_true ⟨hxn, Or.inr (by show at8 ps x < 0; omega)⟩)] : call9 ps (nm, ims, fs) at_ (k, A, x, fn) = 1)
        rw [e8] at HA8
        clear e8 hin
        go_enter Tryz.func110, Tryz.ntmps110
        go_wp2_with fail
        refine Calls.mono HH.out ?_
        rintro e w5 ⟨rfl, hw5⟩
        obtain rfl := hw5.symm
        go_wp2_with fail
        refine Calls.mono (HA8.out W2 HP2.out) ?_
        rintro e w5 ⟨rfl, hw5⟩
        obtain rfl := hw5.symm
        go_wp2
        go_ret
        exact ⟨by rw [HR.out]; rfl, HB2.out⟩
      · rw [e8] at HA8
        have hjz0 : ¬ (j0 : Int) < 0 := by omega
        have hl0 : ps.length = len := hl.1
        have hjlen : (j0 : Int) < (len : Int) := by omega
        obtain ⟨b, off, rfl, hbl, c0, qia, qil, qic, qfa, qfl, qfc, c1, c2, _, hqf2⟩ := HP2.out.2 j0 (by omega)
        have hqsh := (hsh j0).2.2.2.1
        have hqfl : qfl ≤ 1048576 := by rw [← hqf2.1]; exact hqsh
        obtain ⟨q, hq⟩ : ∃ q, ps.getD j0 pk0 = q := ⟨_, rfl⟩
        have HV : Hid (call9 ps (nm, ims, fs) at_ (k, A, x, fn) = if atV q.2.2 fn < 0 ∨ (x = nm ∧ at_ ≤ atV q.2.2 fn) then 2 else if (q.2.2.getD (atV q.2.2 fn).toNat fn0).2.1 ≠ A then 3 else 0) := by exact (by
          unfold call9
          have h1 : farB ps (nm, ims, fs) x = false := by unfold farB; exact decide_eq_false (fun h => h.2.elim (fun e => e hin) (fun e => by omega))
          have h2 : ofPk ps (nm, ims, fs) x = q := by unfold ofPk; rw [if_neg hxn, e8, Int.toNat_natCast, hq]
          simp only
          rw [h1, h2, if_neg (by simp)] : call9 ps (nm, ims, fs) at_ (k, A, x, fn) = if atV q.2.2 fn < 0 ∨ (x = nm ∧ at_ ≤ atV q.2.2 fn) then 2 else if (q.2.2.getD (atV q.2.2 fn).toNat fn0).2.1 ≠ A then 3 else 0)
        rw [hq] at c0 hqf2
        obtain ⟨qn, qims, qfs⟩ := q
        simp only at c0 hqf2
        -- q, first as p is, then as the one that is called
        obtain ⟨bq, hbq⟩ := Box3.new W2 (.string ⟨nm.toArray⟩) (.slice ia il ic) (.slice fa fl fc) 36
        obtain ⟨W3, hW3⟩ : ∃ W3, W2.alloc (.cells #[.string ⟨nm.toArray⟩, .slice ia il ic, .slice fa fl fc] 36) = W3 := ⟨_, rfl⟩
        rw [hW3] at bq hbq
        rw [hs2] at bq
        have hfz : ∀ i, W3.frozen? ⟨w.heap.size + 1 + 1, i, none⟩ = false := fun i => by rw [← hW3, ← hs2]; exact World.frozen?_alloc_at _ _ _ _ rfl
        obtain ⟨W4, hW4, q0, q1, q2, hg4⟩ := set3 (.string ⟨qn.toArray⟩) (.slice qia qil qic) (.slice qfa qfl qfc) bq.c0 bq.c1 bq.c2
        have hb24 : Below W2.heap.size W2 W4 := hbq.grown hg4 hbq.size (fun q e => by injection e with e; have e5 : w.heap.size + 1 + 1 = q := e; omega)
        have HBq : Hid (Box3 W4 (w.heap.size + 1 + 1) (.string ⟨qn.toArray⟩) (.slice qia qil qic) (.slice qfa qfl qfc)) := ⟨q0, q1, q2⟩
        have HBp : Hid (Box3 W4 w.heap.size (.string ⟨nm.toArray⟩) (.slice ia il ic) (.slice fa fl fc)) := HBp2.out.below hb24
        have HGn : Hid (w.heap.size + 1 < W4.heap.size) := by have := hb24.size; exact (by omega : w.heap.size + 1 < W4.heap.size)
        have HN2 : Hid (W4.cell? ⟨w.heap.size + 1, 2, none⟩ = some (.string ⟨x.toArray⟩)) := (hb24.cell (p := ⟨w.heap.size + 1, 2, none⟩) (by rw [hs2]; simp)).trans n2
        have HN1 : Hid (W4.cell? ⟨w.heap.size + 1, 1, none⟩ = some (.int .i64 A)) := (hb24.cell (p := ⟨w.heap.size + 1, 1, none⟩) (by rw [hs2]; simp)).trans n1
        have e3 := (hb24.cell (p := ⟨w.heap.size + 1, 3, none⟩) (by rw [hs2]; simp)).trans n3
        have b30 := bq.c0
        have b31 := bq.c1
        have b32 := bq.c2
        have n32 := (hbq.cell (p := ⟨w.heap.size + 1, 2, none⟩) (by rw [hs2]; simp)).trans n2
        have pp0 := (HBp2.out.below hbq).c0
        have d0 := (hbq.cell (p := ⟨b, off + j0 * 3, none⟩) hbl).trans c0
        have d1 := (hbq.cell (p := ⟨b, off + j0 * 3 + 1, none⟩) hbl).trans c1
        have d2 := (hbq.cell (p := ⟨b, off + j0 * 3 + 2, none⟩) hbl).trans c2
        have hz0 := hfz 0
        have hz1 := hfz 1
        have hz2 := hfz 2
        have HBW : Hid (Below w.heap.size w W4) := HB2.out.trans (hb24.mono HB2.out.size)
        have HP3 : Hid (PkgsIn W3 (some ⟨b, off, none⟩) len ps) := HP2.out.below hbq
        have hqf := hqf2.below hb24
        have HAt : Hid (_) := specAt qn fn qia qil qic qfa qfl qfc qfs W4 hqf hqfl
        simp only at HV
        clear bq hbq hb24 hfz hq hqf2 e8 hin hg4 hsh hqsh hl
        go_enter Tryz.func110, Tryz.ntmps110
        go_wp2_with fail
        refine Calls.mono HH.out ?_
        rintro e w5 ⟨rfl, hw5⟩
        obtain rfl := hw5.symm
        go_wp2_with fail
        refine Calls.mono (HA8.out W2 HP2.out) ?_
        rintro e w5 ⟨rfl, hw5⟩
        obtain rfl := hw5.symm
        go_wp2_with fail
        refine Calls.mono (HA8.out W3 HP3.out) ?_
        rintro e w5 ⟨rfl, hw5⟩
        obtain rfl := hw5.symm
        have HQ : Hid (FuncsIn W4 qfa qfl qfs) := hqf
        rcases at7_is qfs fn with eK | ⟨j, hj, eK, hjn⟩
        · have HR : Hid (call9 ps (nm, ims, fs) at_ (k, A, x, fn) = 2) := by exact (by rw [HV.out, eK, if_pos (Or.inl (by omega))] : call9 ps (nm, ims, fs) at_ (k, A, x, fn) = 2)
          rw [eK] at HAt
          go_wp2_with fail
          refine Calls.mono HAt.out ?_
          rintro e w5 ⟨rfl, hb5⟩
          have HB5 : Hid (Below w.heap.size w w5) := HBW.out.trans (hb5.mono HBW.out.size)
          have g0 := (HBq.out.below hb5).c0
          have g1 := (HBq.out.below hb5).c1
          have g2 := (HBq.out.below hb5).c2
          have m0 := (HBp.out.below hb5).c0
          have m2 := (hb5.cell (p := ⟨w.heap.size + 1, 2, none⟩) HGn.out).trans HN2.out
          have m1 := (hb5.cell (p := ⟨w.heap.size + 1, 1, none⟩) HGn.out).trans HN1.out
          clear hb5 hqf eK
          go_wp2
          go_ret
          exact ⟨by rw [HR.out]; rfl, HB5.out⟩
        · rw [eK] at HAt
          have hj0 : ¬ (j : Int) < 0 := by omega
          have hjl : j < qfl := by rw [← HQ.out.1]; exact hj
          have hjz : (j : Int) < (qfl : Int) := by omega
          have HC7 : Hid (¬ ((j : Int) < 0 ∨ (x = nm ∧ at_ ≤ (j : Int)))) := fun h => h.elim hj0 (fun h => hxn h.1)
          go_wp2_with fail
          refine Calls.mono HAt.out ?_
          rintro e w5 ⟨rfl, hb5⟩
          have HB5 : Hid (Below w.heap.size w w5) := HBW.out.trans (hb5.mono HBW.out.size)
          have g0 := (HBq.out.below hb5).c0
          have g1 := (HBq.out.below hb5).c1
          have g2 := (HBq.out.below hb5).c2
          have m0 := (HBp.out.below hb5).c0
          have m2 := (hb5.cell (p := ⟨w.heap.size + 1, 2, none⟩) HGn.out).trans HN2.out
          have m1 := (hb5.cell (p := ⟨w.heap.size + 1, 1, none⟩) HGn.out).trans HN1.out
          have hq5 := HQ.out.below hb5
          obtain ⟨bq, oq, rfl, _, _, r1, _⟩ := hq5.2 j hjl
          obtain ⟨B, hB⟩ : ∃ B, (qfs.getD j fn0).2.1 = B := ⟨_, rfl⟩
          rw [hB] at r1
          clear hb5 hqf hq5
          by_cases hBA : B = A
          · have HR : Hid (call9 ps (nm, ims, fs) at_ (k, A, x, fn) = 0) := by exact (by rw [HV.out, eK, if_neg HC7.out, Int.toNat_natCast, hB, if_neg (by simpa using hBA)] : call9 ps (nm, ims, fs) at_ (k, A, x, fn) = 0)
            have hne : (B != A) = false := by simp [hBA]
            subst hBA
            have hne2 : (B == B) = true := by simp
            clear eK hB
            go_wp2_with fail
            go_quiet (fail)
            go_wp2
            go_ret
            exact ⟨by rw [HR.out]; rfl, HB5.out.trans ⟨rfl, rfl, rfl, Nat.le_refl _, fun _ _ => rfl⟩⟩
          · have HR : Hid (call9 ps (nm, ims, fs) at_ (k, A, x, fn) = 3) := by exact (by rw [HV.out, eK, if_neg HC7.out, Int.toNat_natCast, hB, if_pos hBA] : call9 ps (nm, ims, fs) at_ (k, A, x, fn) = 3)
            have hne : (B != A) = true := by rw [bne_iff_ne]; exact hBA
            have hne2 : (B == A) = false := beq_eq_false_iff_ne.2 hBA
            have hne3 : ¬ B = A := hBA
            clear eK hB
            go_wp2_with fail
            go_quiet (fail)
            go_wp2
            go_ret
            exact ⟨by rw [HR.out]; rfl, HB5.out.trans ⟨rfl, rfl, rfl, Nat.le_refl _, fun _ _ => rfl⟩⟩
    · have HH : Hid (_) := specHas ia il ic ims x W2 HI2.out (by omega)
      rw [decide_eq_false hin] at HH
      have HR : Hid (call9 ps (nm, ims, fs) at_ (k, A, x, fn) = 1) := by exact (by
        unfold call9
        rw [if_pos (by unfold farB; exact decide_eq_true ⟨hxn, Or.inl hin⟩)] : call9 ps (nm, ims, fs) at_ (k, A, x, fn) = 1)
      clear hin
      go_enter Tryz.func110, Tryz.ntmps110
      go_wp2_with (go_at_call 50; refine Calls.mono HH.out ?_; rintro e w5 ⟨rfl, hw5⟩; obtain rfl := hw5.symm)
      go_ret
      exact ⟨by rw [HR.out]; rfl, HB2.out⟩

end Go.Proofs.YtmloocbbcnhooaaGreatDoor

/-! The contracts of chapter 6's specification: l6Parts, PartsOf. -/
namespace Go.Proofs.YtmloocbbcnhooaaGreatDoor
open Go.RowKit

/-- What a row of numbers holds. -/
def intsV (l : List Int) : List Value := l.map (fun i => Value.int .i64 i)
theorem intsV_len (l : List Int) : (intsV l).length = l.length := by simp [intsV]
theorem intsV_append (x y : List Int) : intsV (x ++ y) = intsV x ++ intsV y := by simp [intsV]
theorem intsV_one (l : List Int) : ∀ u ∈ intsV l, u.oneCell' = true := by
  intro u hu
  simp only [intsV, List.mem_map] at hu
  obtain ⟨i, _, rfl⟩ := hu
  rfl
theorem infoInt : (Tryz.prog.info? 2).map (fun i => (i.zero, i.size, i.bytes)) = some (some (.int .i64 0), 1, 8) := by kernel_rfl

theorem new_int (w : World) (n : Int) : ∀ j u, (intsV [n])[j]? = some u → (w.alloc (.cells #[.int .i64 n] 2)).cell? ((⟨w.heap.size, 0, none⟩ : Addr).add j) = some u := by
  intro j u hu
  have e : (⟨w.heap.size, 0, none⟩ : Addr).add j = ⟨w.heap.size, j, none⟩ := by unfold Addr.add; split <;> simp_all
  rw [e]
  match j, hu with
  | 0, hu => simp [intsV] at hu; subst hu; simp
  | j + 1, hu => simp [intsV] at hu

theorem endV_le (l : List Nd) (a : Int) : -1 ≤ endV l a ∧ endV l a ≤ l.length := by
  by_cases h : 0 ≤ endV l a
  · by_cases ha : a < 0 ∨ (l.length : Int) ≤ a
    · rw [endV_out l a ha] at h; omega
    · obtain ⟨k, rfl⟩ : ∃ k : Nat, a = (k : Int) := Int.eq_ofNat_of_zero_le (by omega)
      have := end_parts h
      omega
  · by_cases ha : a < 0 ∨ (l.length : Int) ≤ a
    · rw [endV_out l a ha]; omega
    · obtain ⟨k, rfl⟩ : ∃ k : Nat, a = (k : Int) := Int.eq_ofNat_of_zero_le (by omega)
      rw [endV_nat] at h ⊢
      unfold endN at h ⊢
      rw [if_pos (by omega)] at h ⊢
      cases he : endGo (l.drop k) 1 with
      | none => simp only; omega
      | some d => rw [he] at h; simp only at h; omega

set_option maxHeartbeats 2000000 in
set_option maxRecDepth 100000 in
theorem specParts (a : Option Addr) (cap : Nat) (ns : List Nd) (k0 : Nat) (w : World) (hin : NodesIn w a ns.length ns) (hsh : ShortT ns) (hlen : ns.length ≤ 1048576) (hk0 : k0 < ns.length) (hnb : nodeB (ns.getD k0 nd0) = true) :
    Calls Tryz.prog 65 #[.slice a ns.length cap, .int .i64 k0] w fun e w' => ∃ v, e = .returned v ∧ w'.ownsRow w.heap.size 2 1 v (kidsN (ns.getD k0 nd0)) (intsV (partsGo ns (kidsN (ns.getD k0 nd0)) ((k0 : Int) + 1))) ∧ Below w.heap.size w w' := by
  have hown0 := (World.ownsRow_lit (base := w.heap.size) (e := 2) (size := 1) w #[] 0 (Nat.le_refl _) (by decide) rfl)
  obtain ⟨i0, hi, hz0, hz1, hz2⟩ := info_parts infoInt
  obtain ⟨b, off, rfl, hbl, hcells⟩ := hin.at (by omega)
  obtain ⟨c0, c1, c2, c3⟩ := hcells k0 hk0
  obtain ⟨n, hn⟩ : ∃ n, ns.getD k0 nd0 = n := ⟨_, rfl⟩
  rw [hn] at c0 c1 c2 c3 hnb ⊢
  have HK : Hid (_) := fun W : World => specKids n W
  obtain ⟨hk1, hk3⟩ := @kidsV_ok n hnb
  have HI : Hid (NodesIn w (some ⟨b, off, none⟩) ns.length ns) := hin
  have HE : Hid (_) := fun (j : Int) (W : World) (h : NodesIn W (some ⟨b, off, none⟩) ns.length ns) => specEndOf (some ⟨b, off, none⟩) ns.length cap ns j W h hsh hlen
  have hk0i : (k0 : Int) < 1048576 := by omega
  obtain ⟨kd, aa, p, f⟩ := n
  unfold nodeVal at HK
  simp only at c0 c1 c2 c3 HK
  clear hn hcells hin hsh hnb
  go_enter Tryz.func65, Tryz.ntmps65
  go_wp2_with fail
  refine Calls.mono (HK.out _) ?_
  rintro e w1 ⟨rfl, hb1⟩
  rw [hk1]
  obtain ⟨q, hq⟩ : ∃ q, kidsN (kd, aa, p, f) = q := ⟨_, rfl⟩
  rw [hq] at hk3 ⊢
  have HQ : Hid (kidsN (kd, aa, p, f) = q) := hq
  have hB1 := below_boxed hb1
  have hown1 := own_below hown0 hb1
  clear hk1 hq hb1 hown0 HK c0 c1 c2 c3
  go_wp2
  go_loopw [5, 6, 7] (fun v nx kv wr => ∃ (ds : List Int) (r : Nat) (t : Int), kv = .int .i64 r ∧ nx = .int .i64 t ∧ ds.length + r = q ∧ -1 ≤ t ∧ t ≤ 1048576 ∧ Hid (ds ++ partsGo ns r t = partsGo ns q ((k0 : Int) + 1)) ∧ Hid (wr.ownsRow w.heap.size 2 1 v ds.length (intsV ds)) ∧ Below w.heap.size w wr) (fun _ _ kv _ => (intOf kv).toNat)
  case atStart => exact ⟨[], q, (k0 : Int) + 1, rfl, by go_num, by simp, by omega, by omega, (rfl : [] ++ partsGo ns q ((k0 : Int) + 1) = _), hown1, hB1⟩
  case round =>
    obtain ⟨ds, r, t, rfl, rfl, hr, ht0, ht1, HP, HV, hb⟩ := hrel
    clear hown1 hB1
    by_cases hrz : r = 0
    · subst hrz
      have HF : Hid (ds = partsGo ns q ((k0 : Int) + 1) ∧ ds.length = q) := by
        have h := HP.out
        rw [partsGo, List.append_nil] at h
        exact (⟨h, by omega⟩ : ds = partsGo ns q ((k0 : Int) + 1) ∧ ds.length = q)
      go_wp2
      go_ret
      exact ⟨_, rfl, by rw [HQ.out, ← HF.out.1, ← HF.out.2]; exact HV.out, hb⟩
    · obtain ⟨r', rfl⟩ : ∃ r', r = r' + 1 := ⟨r - 1, by omega⟩
      have hr1 : (0 : Int) < ((r' + 1 : Nat) : Int) := by omega
      have hnc := new_int wr t
      have hV := HV.out
      have hB0 := hb
      clear hrz HV
      go_wp2_with (at_builtin; refine wpList_append_own_at _ rfl _ _ 25 rfl w.heap.size 2 i0 _ 1 8 Tryz.underlying25 hi hz0 hz1 hz2 rfl (by decide) _ _ _ rfl (hV.alloc _) ⟨wr.heap.size, 0, none⟩ 1 1 (intsV [t]) rfl rfl ?c1 ?c2 ?c3 ?c4 ?c5 ?_)
      first | (case c1 => exact hnc) | skip
      first | (case c2 => exact intsV_one _) | skip
      first | (case c3 => unfold maxLen; omega) | skip
      first | (case c4 => omega) | skip
      first | (case c5 => have := hB0.size; simp; try omega) | skip
      intro v' w3 hown3 hgrow3 hnil3 hat3
      have HV3 : Hid (w3.ownsRow w.heap.size 2 1 v' (ds ++ [t]).length (intsV (ds ++ [t]))) := by
        exact (by rw [intsV_append, List.length_append]; exact hown3 : w3.ownsRow w.heap.size 2 1 v' (ds ++ [t]).length (intsV (ds ++ [t])))
      have hb3 : Below w.heap.size w w3 := (hB0.alloc hB0.size _).grown hgrow3 (by have := hB0.size; simp; omega) (fun q e => (hV.lt q e).1)
      clear hown3 hgrow3 hnil3 hat3 hV hB0 hnc hb
      have HP2 : Hid ((ds ++ [t]) ++ partsGo ns r' (endV ns t) = partsGo ns q ((k0 : Int) + 1)) := by
        exact (by rw [← HP.out, partsGo, List.append_assoc]; rfl : (ds ++ [t]) ++ partsGo ns r' (endV ns t) = partsGo ns q ((k0 : Int) + 1))
      have he := endV_le ns t
      go_wp2_with fail
      refine Calls.mono (HE.out t _ (HI.out.below hb3)) ?_
      rintro e w4 ⟨rfl, hb4⟩
      have hB4 := hb3.trans (hb4.mono hb3.size)
      have HV4 : Hid (w4.ownsRow w.heap.size 2 1 v' (ds ++ [t]).length (intsV (ds ++ [t]))) := own_below HV3.out hb4
      obtain ⟨t', htt⟩ : ∃ t', endV ns t = t' := ⟨_, rfl⟩
      rw [htt] at HP2 he ⊢
      have hdl : (ds ++ [t]).length + r' = q := by simp; omega
      clear htt hb4 hb3 HV3 HP
      go_wp2
      go_roundw
      case rel => exact ⟨ds ++ [t], r', t', by go_num, rfl, hdl, by omega, by omega, HP2, HV4, hB4⟩
      case measure => simp [intOf]


end Go.Proofs.YtmloocbbcnhooaaGreatDoor

/-! The laws' own helpers over rows of numbers: eqInt64S, markInt64S, heldInt64S, likeInts. -/
namespace Go.Proofs.YtmloocbbcnhooaaGreatDoor
open Go.RowKit

theorem intsV_at (l : List Int) (j : Nat) (h : j < l.length) : (intsV l)[j]? = some (.int .i64 l[j]) := by
  unfold intsV; rw [List.getElem?_map, List.getElem?_eq_getElem h]; rfl

/-- The marks from k on. -/
def marksI (k : Nat) : Nat → List Int
  | 0 => []
  | n + 1 => marksI k n ++ [((k + n : Nat) : Int)]
theorem marksI_len (k n : Nat) : (marksI k n).length = n := by
  induction n with
  | zero => rfl
  | succ n ih => simp [marksI, ih]
theorem marksI_at (k n j : Nat) (h : j < n) : (intsV (marksI k n))[j]? = some (.int .i64 ((k + j : Nat) : Int)) := by
  induction n with
  | zero => omega
  | succ n ih =>
    unfold marksI
    rw [intsV_append]
    by_cases hj : j < n
    · rw [List.getElem?_append_left (by rw [intsV_len, marksI_len]; exact hj)]; exact ih hj
    · obtain rfl : j = n := by omega
      rw [List.getElem?_append_right (by rw [intsV_len, marksI_len]; omega), intsV_len, marksI_len]
      simp [intsV]
theorem marksI_set (k i : Nat) (xs : List Value) (h : i < xs.length) : (intsV (marksI k i) ++ xs.drop i).set i (.int .i64 ((k + i : Nat) : Int)) = intsV (marksI k (i + 1)) ++ xs.drop (i + 1) := by
  rw [List.set_append, if_neg (by rw [intsV_len, marksI_len]; omega), intsV_len, marksI_len, Nat.sub_self]
  rw [List.drop_eq_getElem_cons h, List.set_cons_zero]
  conv => rhs; unfold marksI
  rw [intsV_append, List.append_assoc]; rfl

set_option maxHeartbeats 1000000 in
set_option maxRecDepth 100000 in
theorem eqIntC (w : World) (ba bb ga gb ca cb : Nat) (ls : List Int) (hn : ls.length ≤ 1100000)
    (ha : w.ownsRow ba 2 1 (.slice (some ⟨ga, 0, none⟩) ls.length ca) ls.length (intsV ls)) (hb : w.ownsRow bb 2 1 (.slice (some ⟨gb, 0, none⟩) ls.length cb) ls.length (intsV ls)) :
    Calls Tryz.prog 21 #[.slice (some ⟨ga, 0, none⟩) ls.length ca, .slice (some ⟨gb, 0, none⟩) ls.length cb] w fun e w' => e = .returned (.bool true) ∧ w.grownBy w' none := by
  have hself : ∀ n : Int, (n != n) = false := by simp
  have HA : Hid (∀ j (hj : j < ls.length), w.cell? ⟨ga, j, none⟩ = some (.int .i64 ls[j])) := fun j hj => by rw [ha.cellAt j (by omega), intsV_at ls j hj]
  have HB : Hid (∀ j (hj : j < ls.length), w.cell? ⟨gb, j, none⟩ = some (.int .i64 ls[j])) := fun j hj => by rw [hb.cellAt j (by omega), intsV_at ls j hj]
  clear ha hb
  go_enter Tryz.func21, Tryz.ntmps21
  go_wp2
  go_loopw [5] (fun i wr => ∃ k : Nat, k ≤ ls.length ∧ i = .int .i64 k ∧ w.grownBy wr none) (fun i _ => ls.length - (intOf i).toNat)
  case atStart => exact ⟨0, Nat.zero_le _, rfl, World.grownBy.refl _ _⟩
  case round =>
    obtain ⟨k, hk, rfl, hg⟩ := hrel
    by_cases hlt : k < ls.length
    · obtain ⟨t, ht⟩ : ∃ t, ls[k] = t := ⟨_, rfl⟩
      have hca : wr.cell? ⟨ga, k, none⟩ = some (.int .i64 t) := by rw [← ht]; exact hg.cell (HA.out k hlt) (by simp)
      have hcb : wr.cell? ⟨gb, k, none⟩ = some (.int .i64 t) := by rw [← ht]; exact hg.cell (HB.out k hlt) (by simp)
      clear ht
      go_wp2
      go_region
      all_goals (try go_wp2)
      go_roundw
      case rel => exact ⟨k + 1, by omega, by go_num, hg.trans (grown_drew _ _)⟩
      case measure => simp [intOf]; omega
    · go_wp2
      go_ret
      exact ⟨rfl, hg⟩

set_option maxHeartbeats 400000 in
set_option maxRecDepth 100000 in
theorem eqIntEmpty (w : World) (aa ab : Option Addr) (ca cb : Nat) :
    Calls Tryz.prog 21 #[.slice aa 0 ca, .slice ab 0 cb] w fun e w' => e = .returned (.bool true) ∧ w.grownBy w' none := by
  go_enter Tryz.func21, Tryz.ntmps21
  go_wp2
  refine wp_loop_rounds 1 ?_
  rw [rounds_succ]
  go_wp2
  go_ret
  exact ⟨rfl, World.grownBy.refl _ _⟩

theorem eqIntV (w : World) (ba bb : Nat) (va vb : Value) (ls : List Int) (hn : ls.length ≤ 1100000)
    (ha : w.ownsRow ba 2 1 va ls.length (intsV ls)) (hb : w.ownsRow bb 2 1 vb ls.length (intsV ls)) :
    Calls Tryz.prog 21 #[va, vb] w fun e w' => e = .returned (.bool true) ∧ w.grownBy w' none := by
  rcases own_forms ha with ⟨rfl, h0, _⟩ | ⟨ga, ca, rfl⟩
  · rcases own_forms hb with ⟨rfl, _, _⟩ | ⟨gb, cb, rfl⟩
    · exact eqIntEmpty w none none 0 0
    · rw [h0]; exact eqIntEmpty w none (some ⟨gb, 0, none⟩) 0 cb
  · rcases own_forms hb with ⟨rfl, h0, _⟩ | ⟨gb, cb, rfl⟩
    · rw [h0]; exact eqIntEmpty w (some ⟨ga, 0, none⟩) none ca 0
    · exact eqIntC w ba bb ga gb ca cb ls hn ha hb




end Go.Proofs.YtmloocbbcnhooaaGreatDoor

/-! The laws' own helpers over functions and packages: eqFunc, eqFuncS, eqStringS over texts that can be read, eqPackage. -/
namespace Go.Proofs.YtmloocbbcnhooaaGreatDoor
open Go.RowKit

set_option maxHeartbeats 1000000 in
set_option maxRecDepth 100000 in
theorem eqFuncC (s : List UInt8) (n : Int) (t : List Nd) (ta tb : Option Addr) (tl ca cb : Nat) (w : World) (ha : NodesIn w ta tl t) (hb : NodesIn w tb tl t) (hlen : tl ≤ 4194304) :
    Calls Tryz.prog 72 #[.agg #[.string ⟨s.toArray⟩, .int .i64 n, .slice ta tl ca], .agg #[.string ⟨s.toArray⟩, .int .i64 n, .slice tb tl cb]] w fun e w' => e = .returned (.bool true) ∧ Below w.heap.size w w' := by
  have h1 : ∀ n : Int, (n != n) = false := by simp
  have h2 : ∀ l : List UInt8, (l != l) = false := by simp
  have hbW : Below w.heap.size w ((w.alloc (.cells #[.string ⟨s.toArray⟩, .int .i64 n, .slice ta tl ca] 42)).alloc (.cells #[.string ⟨s.toArray⟩, .int .i64 n, .slice tb tl cb] 42)) := ((Below.refl _ _).alloc (Nat.le_refl _) _).alloc (by simp) _
  have HC := eqNodeSC ta tb tl ca cb t _ (ha.below hbW) (hb.below hbW) hlen
  clear ha hb
  go_enter Tryz.func72, Tryz.ntmps72
  go_wp2_with fail
  refine HC.mono ?_
  rintro e w1 ⟨rfl, hb1⟩
  have hbd : Below w.heap.size w w1 := hbW.trans (hb1.mono hbW.size)
  clear HC hb1 hbW
  go_wp2
  go_ret
  exact ⟨rfl, hbd⟩

set_option maxHeartbeats 2000000 in
set_option maxRecDepth 100000 in
theorem eqFuncSC (a b : Option Addr) (len ca cb : Nat) (fs : List Fn) (w : World) (ha : FuncsIn w a len fs) (hb : FuncsIn w b len fs) (hlen : len ≤ 4194304) (hsh : ∀ j, (fs.getD j fn0).2.2.length ≤ 4194304) :
    Calls Tryz.prog 56 #[.slice a len ca, .slice b len cb] w fun e w' => e = .returned (.bool true) ∧ Below w.heap.size w w' := by
  have HA : Hid (FuncsIn w a len fs) := ha
  have HB : Hid (FuncsIn w b len fs) := hb
  have HSH : Hid (∀ j, (fs.getD j fn0).2.2.length ≤ 4194304) := hsh
  clear ha hb hsh
  have h1 : ((len : Int) != (len : Int)) = false := by simp
  go_enter Tryz.func56, Tryz.ntmps56
  go_wp2
  go_loopw [5] (fun i wr => ∃ k : Nat, k ≤ len ∧ i = .int .i64 k ∧ Below w.heap.size w wr) (fun i _ => len - (intOf i).toNat)
  case atStart => exact ⟨0, Nat.zero_le _, rfl, Below.refl _ _⟩
  case round =>
    obtain ⟨k, hk, rfl, hB⟩ := hrel
    by_cases hkl : (k : Int) < (len : Int)
    · obtain ⟨b1, o1, rfl, hb1, x0, x1, ta, tl, tc, x2, _, hn1⟩ := (HA.out.below hB).2 k (by omega)
      obtain ⟨b2, o2, rfl, hb2, y0, y1, tb, tl2, tc2, y2, _, hn2⟩ := (HB.out.below hB).2 k (by omega)
      have hts := HSH.out k
      obtain ⟨f, hf⟩ : ∃ f, fs.getD k fn0 = f := ⟨_, rfl⟩
      rw [hf] at x0 x1 y0 y1 hn1 hn2 hts
      obtain ⟨s, n, t⟩ := f
      simp only at x0 x1 y0 y1 hn1 hn2 hts
      obtain rfl : t.length = tl := hn1.1
      obtain rfl : t.length = tl2 := hn2.1
      have hn1' : NodesIn wr.drew ta t.length t := hn1.below ⟨rfl, rfl, rfl, Nat.le_refl _, fun _ _ => rfl⟩
      have hn2' : NodesIn wr.drew tb t.length t := hn2.below ⟨rfl, rfl, rfl, Nat.le_refl _, fun _ _ => rfl⟩
      clear hf hn1 hn2
      go_wp2
      go_region_held3 (fun w' => w'.cell? ⟨b1, o1 + k * 3, none⟩ = some (.string ⟨s.toArray⟩) ∧ w'.cell? ⟨b1, o1 + k * 3 + 1, none⟩ = some (.int .i64 n) ∧ w'.cell? ⟨b1, o1 + k * 3 + 2, none⟩ = some (.slice ta t.length tc) ∧ w'.cell? ⟨b2, o2 + k * 3, none⟩ = some (.string ⟨s.toArray⟩) ∧ w'.cell? ⟨b2, o2 + k * 3 + 1, none⟩ = some (.int .i64 n) ∧ w'.cell? ⟨b2, o2 + k * 3 + 2, none⟩ = some (.slice tb t.length tc2)) (go_keep) (first | (go_at_call 72; refine (eqFuncC s n t ta tb t.length tc tc2 _ hn1' hn2' hts).mono ?_; rintro e w1 ⟨rfl, hw1⟩; have d0 : w1.cell? ⟨b1, o1 + k * 3, none⟩ = some (.string ⟨s.toArray⟩) := (hw1.cell (p := ⟨b1, o1 + k * 3, none⟩) hb1).trans x0; have d1 : w1.cell? ⟨b1, o1 + k * 3 + 1, none⟩ = some (.int .i64 n) := (hw1.cell (p := ⟨b1, o1 + k * 3 + 1, none⟩) hb1).trans x1; have d2 : w1.cell? ⟨b1, o1 + k * 3 + 2, none⟩ = some (.slice ta t.length tc) := (hw1.cell (p := ⟨b1, o1 + k * 3 + 2, none⟩) hb1).trans x2; have e0 : w1.cell? ⟨b2, o2 + k * 3, none⟩ = some (.string ⟨s.toArray⟩) := (hw1.cell (p := ⟨b2, o2 + k * 3, none⟩) hb2).trans y0; have e1 : w1.cell? ⟨b2, o2 + k * 3 + 1, none⟩ = some (.int .i64 n) := (hw1.cell (p := ⟨b2, o2 + k * 3 + 1, none⟩) hb2).trans y1; have e2 : w1.cell? ⟨b2, o2 + k * 3 + 2, none⟩ = some (.slice tb t.length tc2) := (hw1.cell (p := ⟨b2, o2 + k * 3 + 2, none⟩) hb2).trans y2))
      all_goals go_wp2
      go_roundw
      case rel => exact ⟨k + 1, by omega, by go_num, hB.trans ⟨hw1.os, hw1.tape, hw1.output, hw1.size, fun q hq => hw1.block q (by have := hB.size; show q < wr.heap.size; omega)⟩⟩
      case measure => simp [intOf]; omega
    · go_wp2
      go_ret
      exact ⟨rfl, hB⟩

set_option maxHeartbeats 1000000 in
set_option maxRecDepth 100000 in
theorem eqTextsC (a b : Option Addr) (len ca cb : Nat) (ts : List (List UInt8)) (w : World) (ha : TextsIn w a len ts) (hb : TextsIn w b len ts) (hlen : len ≤ 4194304) :
    Calls Tryz.prog 55 #[.slice a len ca, .slice b len cb] w fun e w' => e = .returned (.bool true) ∧ Below w.heap.size w w' := by
  have hne : ((len : Int) != (len : Int)) = false := by simp
  have hself : ∀ l : List UInt8, (l != l) = false := by simp
  have HA : Hid (TextsIn w a len ts) := ha
  have HB : Hid (TextsIn w b len ts) := hb
  clear ha hb
  go_enter Tryz.func55, Tryz.ntmps55
  go_wp2
  go_loopw [5] (fun i wr => ∃ k : Nat, k ≤ len ∧ i = .int .i64 k ∧ Below w.heap.size w wr) (fun i _ => len - (intOf i).toNat)
  case atStart => exact ⟨0, Nat.zero_le _, rfl, Below.refl _ _⟩
  case round =>
    obtain ⟨k, hk, rfl, hB⟩ := hrel
    by_cases hkl : (k : Int) < (len : Int)
    · obtain ⟨b1, o1, rfl, hb1, hca⟩ := (HA.out.below hB).2 k (by omega)
      obtain ⟨b2, o2, rfl, hb2, hcb⟩ := (HB.out.below hB).2 k (by omega)
      obtain ⟨t, ht⟩ : ∃ t, ts.getD k [] = t := ⟨_, rfl⟩
      rw [ht] at hca hcb
      clear ht
      go_wp2
      go_region
      all_goals (try go_wp2)
      go_roundw
      case rel => exact ⟨k + 1, by omega, by go_num, hB.drew⟩
      case measure => simp [intOf]; omega
    · go_wp2
      go_ret
      exact ⟨rfl, hB⟩

set_option maxHeartbeats 2000000 in
set_option maxRecDepth 100000 in
theorem eqPackageC (nm : List UInt8) (ia ib fa fb : Option Addr) (il ica icb fl fca fcb : Nat) (ims : List (List UInt8)) (fs : List Fn) (w : World) (hia : TextsIn w ia il ims) (hib : TextsIn w ib il ims) (hfa : FuncsIn w fa fl fs) (hfb : FuncsIn w fb fl fs) (hil : il ≤ 4194304) (hfl : fl ≤ 4194304) (hsh : ∀ j, (fs.getD j fn0).2.2.length ≤ 4194304) :
    Calls Tryz.prog 37 #[.agg #[.string ⟨nm.toArray⟩, .slice ia il ica, .slice fa fl fca], .agg #[.string ⟨nm.toArray⟩, .slice ib il icb, .slice fb fl fcb]] w fun e w' => e = .returned (.bool true) ∧ Below w.heap.size w w' := by
  have h2 : ∀ l : List UInt8, (l != l) = false := by simp
  obtain ⟨sa, hBa⟩ := PkIn.new (w := w) (nm := nm) (ic := ica) (fc := fca) hia hfa
  obtain ⟨W1, hW1⟩ : ∃ W, w.alloc (.cells #[.string ⟨nm.toArray⟩, .slice ia il ica, .slice fa fl fca] 36) = W := ⟨_, rfl⟩
  rw [hW1] at sa hBa
  obtain ⟨sb, hBb⟩ := PkIn.new (w := W1) (nm := nm) (ic := icb) (fc := fcb) (hib.below hBa) (hfb.below hBa)
  obtain ⟨W, hW⟩ : ∃ W, W1.alloc (.cells #[.string ⟨nm.toArray⟩, .slice ib il icb, .slice fb fl fcb] 36) = W := ⟨_, rfl⟩
  rw [hW] at sb hBb
  have hs1 : W1.heap.size = w.heap.size + 1 := by rw [← hW1]; simp
  have sa2 := sa.below hBb
  have hB : Below w.heap.size w W := hBa.trans (hBb.mono hBa.size)
  rw [hs1] at sb
  have HC := eqTextsC ia ib il ica icb ims W sa2.i sb.i hil
  have k0 := sa2.k0
  have k1 := sa2.k1
  have k2 := sa2.k2
  have j0 := sb.k0
  have j1 := sb.k1
  have j2 := sb.k2
  clear hia hib hfa hfb sa hBa hBb
  go_enter Tryz.func37, Tryz.ntmps37
  go_wp2_with fail
  refine HC.mono ?_
  rintro e w1 ⟨rfl, hb1⟩
  have ta := sa2.below hb1
  have tb := sb.below hb1
  have HC2 := eqFuncSC fa fb fl fca fcb fs w1 ta.f tb.f hfl hsh
  have hB1 : Below w.heap.size w w1 := hB.trans (hb1.mono hB.size)
  replace k0 := ta.k0
  replace k1 := ta.k1
  replace k2 := ta.k2
  replace j0 := tb.k0
  replace j1 := tb.k1
  replace j2 := tb.k2
  clear HC hb1 sa2 sb hB
  go_wp2_with fail
  refine HC2.mono ?_
  rintro e w2 ⟨rfl, hb2⟩
  have hB2 : Below w.heap.size w w2 := hB1.trans (hb2.mono hB1.size)
  clear HC2 hb2 ta tb hB1 k0 k1 k2 j0 j1 j2
  go_wp2
  go_ret
  exact ⟨rfl, hB2⟩

end Go.Proofs.YtmloocbbcnhooaaGreatDoor
