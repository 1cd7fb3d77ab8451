/-
  Parts of one proof, one behind the other: CheckS, IntsL, FnE, ProjL, FnT, NodeM, FnMS, FnMP, ProjT, ProjM, ProjK, MeanS.
-/
import Derived.Test.YtkjojhkpoooimaaGreatP15
import Derived.Test.YtkjojhkpoooimaaGreatP12
import Derived.Test.YtkjojhkpoooimaaGreatP7
import Derived.Test.YtkjojhkpoooimaaGreatP13
import Derived.Test.YtkjojhkpoooimaaGreatP1
import Derived.Test.YtkjojhkpoooimaaGreatP6
import Derived.Test.YtkjojhkpoooimaaGreatP2
import Derived.Deep.RegionWith
import Derived.Deep.RegionHeld3

/-! The contracts of chapter 9's specification: what a call is told. -/
namespace Go.Proofs.YtkjojhkpoooimaaGreat
open Go.RowKit

theorem node_new (V : World) (a b c d : Value) (t : TypeId) : ((V.alloc (.cells #[a, b, c, d] t)).cell? ⟨V.heap.size, 0, none⟩ = some a ∧ (V.alloc (.cells #[a, b, c, d] t)).cell? ⟨V.heap.size, 1, none⟩ = some b ∧ (V.alloc (.cells #[a, b, c, d] t)).cell? ⟨V.heap.size, 2, none⟩ = some c ∧ (V.alloc (.cells #[a, b, c, d] t)).cell? ⟨V.heap.size, 3, none⟩ = some d) ∧ Below V.heap.size V (V.alloc (.cells #[a, b, c, d] t)) := by
  have hb : Below V.heap.size V (V.alloc (.cells #[a, b, c, d] t)) := (Below.refl _ _).alloc (Nat.le_refl _) _
  have hA := heap_alloc_new V (.cells #[a, b, c, d] t)
  generalize V.alloc (.cells #[a, b, c, d] t) = W at hb hA ⊢
  exact ⟨⟨by simp [World.cell?, hA], by simp [World.cell?, hA], by simp [World.cell?, hA], by simp [World.cell?, hA]⟩, hb⟩

set_option maxHeartbeats 8000000 in
set_option maxRecDepth 100000 in
theorem specCall9 (a : Option Addr) (len cap : Nat) (ps : List Pk) (nm : List UInt8) (ia : Option Addr) (il ic : Nat) (fa : Option Addr) (fl fc : Nat) (ims : List (List UInt8)) (fs : List Fn) (at_ : Int) (n : Nd) (w : World)
    (hl : PkgsIn w a len ps) (hi : TextsIn w ia il ims) (hf : FuncsIn w fa fl fs) (hlen : len ≤ 1048576) (hil : il ≤ 1048576) (hfl : fl ≤ 1048576) (hsh : ShortPs ps) :
    Calls Tryz.prog 98 #[.slice a len cap, .agg #[.string ⟨nm.toArray⟩, .slice ia il ic, .slice fa fl fc], .int .i64 at_, nodeVal n] w fun e w' => e = .returned (.int .i64 (call9 ps (nm, ims, fs) at_ n)) ∧ Below w.heap.size w w' := by
  obtain ⟨k, A, x, fn⟩ := n
  unfold nodeVal
  simp only
  obtain ⟨bx, hbx⟩ := Box3.new w (.string ⟨nm.toArray⟩) (.slice ia il ic) (.slice fa fl fc) 30
  obtain ⟨W1, hW1⟩ : ∃ W1, w.alloc (.cells #[.string ⟨nm.toArray⟩, .slice ia il ic, .slice fa fl fc] 30) = W1 := ⟨_, rfl⟩
  have hs1 : W1.heap.size = w.heap.size + 1 := by rw [← hW1]; simp
  rw [hW1] at bx hbx
  obtain ⟨⟨n0, n1, n2, n3⟩, hb2⟩ := node_new W1 (.int .i64 k) (.int .i64 A) (.string ⟨x.toArray⟩) (.string ⟨fn.toArray⟩) 46
  obtain ⟨W2, hW2⟩ : ∃ W2, W1.alloc (.cells #[.int .i64 k, .int .i64 A, .string ⟨x.toArray⟩, .string ⟨fn.toArray⟩] 46) = W2 := ⟨_, rfl⟩
  have hs2 : W2.heap.size = w.heap.size + 1 + 1 := by rw [← hW2]; simp [hs1]
  rw [hW2, hs1] at n0 n1 n2 n3
  rw [hW2] at hb2
  have bx2 := bx.below hb2
  have hbw : Below w.heap.size w W2 := hbx.trans (hb2.mono (by omega))
  have p0 := bx2.c0
  have p1 := bx2.c1
  have p2 := bx2.c2
  have HI2 : Hid (TextsIn W2 ia il ims) := hi.below hbw
  have HF2 : Hid (FuncsIn W2 fa fl fs) := hf.below hbw
  have HP2 : Hid (PkgsIn W2 a len ps) := hl.below hbw
  have HB2 : Hid (Below w.heap.size w W2) := hbw
  have HBp2 : Hid (Box3 W2 w.heap.size (.string ⟨nm.toArray⟩) (.slice ia il ic) (.slice fa fl fc)) := bx2
  clear bx hbx bx2 hb2 hbw hi hf
  by_cases hxn : x = nm
  · subst hxn
    have hself : (x == x) = true := by simp
    have hselfn : (x != x) = false := by simp
    have HV : Hid (call9 ps (x, ims, fs) at_ (k, A, x, fn) = if atV fs fn < 0 ∨ (x = x ∧ at_ ≤ atV fs fn) then 2 else if (fs.getD (atV fs fn).toNat fn0).2.1 ≠ A then 3 else 0) := by exact (by
      unfold call9
      have h1 : farB ps (x, ims, fs) x = false := by unfold farB; exact decide_eq_false (fun h => h.1 rfl)
      have h2 : ofPk ps (x, ims, fs) x = (x, ims, fs) := by unfold ofPk; rw [if_pos rfl]
      simp only
      rw [h1, h2, if_neg (by simp)] : call9 ps (x, ims, fs) at_ (k, A, x, fn) = if atV fs fn < 0 ∨ (x = x ∧ at_ ≤ atV fs fn) then 2 else if (fs.getD (atV fs fn).toNat fn0).2.1 ≠ A then 3 else 0)
    obtain ⟨bq, hbq⟩ := Box3.new W2 (.string ⟨x.toArray⟩) (.slice ia il ic) (.slice fa fl fc) 30
    obtain ⟨W3, hW3⟩ : ∃ W3, W2.alloc (.cells #[.string ⟨x.toArray⟩, .slice ia il ic, .slice fa fl fc] 30) = W3 := ⟨_, rfl⟩
    rw [hW3] at bq hbq
    rw [hs2] at bq
    have HBq : Hid (Box3 W3 (w.heap.size + 1 + 1) (.string ⟨x.toArray⟩) (.slice ia il ic) (.slice fa fl fc)) := bq
    have HBp : Hid (Box3 W3 w.heap.size (.string ⟨x.toArray⟩) (.slice ia il ic) (.slice fa fl fc)) := HBp2.out.below hbq
    have HGn : Hid (w.heap.size + 1 < W3.heap.size) := by have := hbq.size; exact (by omega : w.heap.size + 1 < W3.heap.size)
    have HN2 : Hid (W3.cell? ⟨w.heap.size + 1, 2, none⟩ = some (.string ⟨x.toArray⟩)) := (hbq.cell (p := ⟨w.heap.size + 1, 2, none⟩) (by rw [hs2]; simp)).trans n2
    have HN1 : Hid (W3.cell? ⟨w.heap.size + 1, 1, none⟩ = some (.int .i64 A)) := (hbq.cell (p := ⟨w.heap.size + 1, 1, none⟩) (by rw [hs2]; simp)).trans n1
    have e3 := (hbq.cell (p := ⟨w.heap.size + 1, 3, none⟩) (by rw [hs2]; simp)).trans n3
    have e2 := HN2.out
    have q0 := bq.c0
    have q1 := bq.c1
    have q2 := bq.c2
    have pp0 := HBp.out.c0
    have HBW : Hid (Below w.heap.size w W3) := HB2.out.trans (hbq.mono HB2.out.size)
    have hqf := HF2.out.below hbq
    have HAt : Hid (_) := specAt x fn ia il ic fa fl fc fs W3 hqf hfl
    clear bq hbq
    go_enter Tryz.func98, Tryz.ntmps98
    obtain ⟨qfa, hqfa⟩ : ∃ qfa, qfa = fa := ⟨_, rfl⟩
    obtain ⟨qfl, hqfl⟩ : ∃ qfl, qfl = fl := ⟨_, rfl⟩
    obtain ⟨qfs, hqfs⟩ : ∃ qfs, qfs = fs := ⟨_, rfl⟩
    subst hqfa
    subst hqfl
    subst hqfs
    have HQ : Hid (FuncsIn W3 qfa qfl qfs) := hqf
    rcases at7_is qfs fn with eK | ⟨j, hj, eK, hjn⟩
    · have HR : Hid (call9 ps (x, ims, qfs) at_ (k, A, x, fn) = 2) := by exact (by rw [HV.out, eK, if_pos (Or.inl (by omega))] : call9 ps (x, ims, qfs) at_ (k, A, x, fn) = 2)
      rw [eK] at HAt
      go_wp2_with fail
      refine Calls.mono HAt.out ?_
      rintro e w5 ⟨rfl, hb5⟩
      have HB5 : Hid (Below w.heap.size w w5) := HBW.out.trans (hb5.mono HBW.out.size)
      have g0 := (HBq.out.below hb5).c0
      have g1 := (HBq.out.below hb5).c1
      have g2 := (HBq.out.below hb5).c2
      have m0 := (HBp.out.below hb5).c0
      have m2 := (hb5.cell (p := ⟨w.heap.size + 1, 2, none⟩) HGn.out).trans HN2.out
      have m1 := (hb5.cell (p := ⟨w.heap.size + 1, 1, none⟩) HGn.out).trans HN1.out
      clear hb5 hqf eK
      go_wp2
      go_ret
      exact ⟨by rw [HR.out]; rfl, HB5.out⟩
    · rw [eK] at HAt
      have hj0 : ¬ (j : Int) < 0 := by omega
      have hjl : j < qfl := by rw [← HQ.out.1]; exact hj
      have hjz : (j : Int) < (qfl : Int) := by omega
      by_cases hat : at_ ≤ (j : Int)
      · have HR : Hid (call9 ps (x, ims, qfs) at_ (k, A, x, fn) = 2) := by exact (by rw [HV.out, eK, if_pos (Or.inr ⟨rfl, hat⟩)] : call9 ps (x, ims, qfs) at_ (k, A, x, fn) = 2)
        go_wp2_with fail
        refine Calls.mono HAt.out ?_
        rintro e w5 ⟨rfl, hb5⟩
        have HB5 : Hid (Below w.heap.size w w5) := HBW.out.trans (hb5.mono HBW.out.size)
        have g0 := (HBq.out.below hb5).c0
        have g1 := (HBq.out.below hb5).c1
        have g2 := (HBq.out.below hb5).c2
        have m0 := (HBp.out.below hb5).c0
        have m2 := (hb5.cell (p := ⟨w.heap.size + 1, 2, none⟩) HGn.out).trans HN2.out
        have m1 := (hb5.cell (p := ⟨w.heap.size + 1, 1, none⟩) HGn.out).trans HN1.out
        clear hb5 hqf eK
        go_wp2
        go_ret
        exact ⟨by rw [HR.out]; rfl, HB5.out⟩
      · have HC7 : Hid (¬ ((j : Int) < 0 ∨ (x = x ∧ at_ ≤ (j : Int)))) := fun h => h.elim hj0 (fun h => hat h.2)
        go_wp2_with fail
        refine Calls.mono HAt.out ?_
        rintro e w5 ⟨rfl, hb5⟩
        have HB5 : Hid (Below w.heap.size w w5) := HBW.out.trans (hb5.mono HBW.out.size)
        have g0 := (HBq.out.below hb5).c0
        have g1 := (HBq.out.below hb5).c1
        have g2 := (HBq.out.below hb5).c2
        have m0 := (HBp.out.below hb5).c0
        have m2 := (hb5.cell (p := ⟨w.heap.size + 1, 2, none⟩) HGn.out).trans HN2.out
        have m1 := (hb5.cell (p := ⟨w.heap.size + 1, 1, none⟩) HGn.out).trans HN1.out
        have hq5 := HQ.out.below hb5
        obtain ⟨bq, oq, rfl, _, _, r1, _⟩ := hq5.2 j hjl
        obtain ⟨B, hB⟩ : ∃ B, (qfs.getD j fn0).2.1 = B := ⟨_, rfl⟩
        rw [hB] at r1
        clear hb5 hqf hq5
        by_cases hBA : B = A
        · have HR : Hid (call9 ps (x, ims, qfs) at_ (k, A, x, fn) = 0) := by exact (by rw [HV.out, eK, if_neg HC7.out, Int.toNat_natCast, hB, if_neg (by simpa using hBA)] : call9 ps (x, ims, qfs) at_ (k, A, x, fn) = 0)
          have hne : (B != A) = false := by simp [hBA]
          subst hBA
          have hne2 : (B == B) = true := by simp
          clear eK hB
          go_wp2_with fail
          go_quiet (fail)
          go_wp2
          go_ret
          exact ⟨by rw [HR.out]; rfl, HB5.out.trans ⟨rfl, rfl, rfl, Nat.le_refl _, fun _ _ => rfl⟩⟩
        · have HR : Hid (call9 ps (x, ims, qfs) at_ (k, A, x, fn) = 3) := by exact (by rw [HV.out, eK, if_neg HC7.out, Int.toNat_natCast, hB, if_pos hBA] : call9 ps (x, ims, qfs) at_ (k, A, x, fn) = 3)
          have hne : (B != A) = true := by rw [bne_iff_ne]; exact hBA
          have hne2 : (B == A) = false := beq_eq_false_iff_ne.2 hBA
          have hne3 : ¬ B = A := hBA
          clear eK hB
          go_wp2_with fail
          go_quiet (fail)
          go_wp2
          go_ret
          exact ⟨by rw [HR.out]; rfl, HB5.out.trans ⟨rfl, rfl, rfl, Nat.le_refl _, fun _ _ => rfl⟩⟩
  · have hne : (x != nm) = true := by rw [bne_iff_ne]; exact hxn
    have hne2 : (x == nm) = false := beq_eq_false_iff_ne.2 hxn
    by_cases hin : x ∈ ims
    · have HH : Hid (_) := specHas ia il ic ims x W2 HI2.out (by omega)
      rw [decide_eq_true hin] at HH
      have HA8 : Hid (∀ W, PkgsIn W a len ps → Calls Tryz.prog 42 #[.slice a len cap, .string ⟨x.toArray⟩] W fun e w' => e = .returned (.int .i64 (at8 ps x)) ∧ w' = W) := fun W hW => specAt8 a len cap ps x W hW hlen
      rcases at8_is ps x with ⟨e8, _⟩ | ⟨j0, hj0, e8, hjn, _⟩
      · have HR : Hid (call9 ps (nm, ims, fs) at_ (k, A, x, fn) = 1) := by exact (by
          unfold call9
          rw [if_pos (by unfold farB; exact decide_eq_true ⟨hxn, Or.inr (by show at8 ps x < 0; omega)⟩)] : call9 ps (nm, ims, fs) at_ (k, A, x, fn) = 1)
        rw [e8] at HA8
        clear e8 hin
        go_enter Tryz.func98, Tryz.ntmps98
        go_wp2_with fail
        refine Calls.mono HH.out ?_
        rintro e w5 ⟨rfl, hw5⟩
        obtain rfl := hw5.symm
        go_wp2_with fail
        refine Calls.mono (HA8.out W2 HP2.out) ?_
        rintro e w5 ⟨rfl, hw5⟩
        obtain rfl := hw5.symm
        go_wp2
        go_ret
        exact ⟨by rw [HR.out]; rfl, HB2.out⟩
      · rw [e8] at HA8
        have hjz0 : ¬ (j0 : Int) < 0 := by omega
        have hl0 : ps.length = len := hl.1
        have hjlen : (j0 : Int) < (len : Int) := by omega
        obtain ⟨b, off, rfl, hbl, c0, qia, qil, qic, qfa, qfl, qfc, c1, c2, _, hqf2⟩ := HP2.out.2 j0 (by omega)
        have hqsh := (hsh j0).2.2.2.1
        have hqfl : qfl ≤ 1048576 := by rw [← hqf2.1]; exact hqsh
        obtain ⟨q, hq⟩ : ∃ q, ps.getD j0 pk0 = q := ⟨_, rfl⟩
        have HV : Hid (call9 ps (nm, ims, fs) at_ (k, A, x, fn) = if atV q.2.2 fn < 0 ∨ (x = nm ∧ at_ ≤ atV q.2.2 fn) then 2 else if (q.2.2.getD (atV q.2.2 fn).toNat fn0).2.1 ≠ A then 3 else 0) := by exact (by
          unfold call9
          have h1 : farB ps (nm, ims, fs) x = false := by unfold farB; exact decide_eq_false (fun h => h.2.elim (fun e => e hin) (fun e => by omega))
          have h2 : ofPk ps (nm, ims, fs) x = q := by unfold ofPk; rw [if_neg hxn, e8, Int.toNat_natCast, hq]
          simp only
          rw [h1, h2, if_neg (by simp)] : call9 ps (nm, ims, fs) at_ (k, A, x, fn) = if atV q.2.2 fn < 0 ∨ (x = nm ∧ at_ ≤ atV q.2.2 fn) then 2 else if (q.2.2.getD (atV q.2.2 fn).toNat fn0).2.1 ≠ A then 3 else 0)
        rw [hq] at c0 hqf2
        obtain ⟨qn, qims, qfs⟩ := q
        simp only at c0 hqf2
        -- q, first as p is, then as the one that is called
        obtain ⟨bq, hbq⟩ := Box3.new W2 (.string ⟨nm.toArray⟩) (.slice ia il ic) (.slice fa fl fc) 30
        obtain ⟨W3, hW3⟩ : ∃ W3, W2.alloc (.cells #[.string ⟨nm.toArray⟩, .slice ia il ic, .slice fa fl fc] 30) = W3 := ⟨_, rfl⟩
        rw [hW3] at bq hbq
        rw [hs2] at bq
        have hfz : ∀ i, W3.frozen? ⟨w.heap.size + 1 + 1, i, none⟩ = false := fun i => by rw [← hW3, ← hs2]; exact World.frozen?_alloc_at _ _ _ _ rfl
        obtain ⟨W4, hW4, q0, q1, q2, hg4⟩ := set3 (.string ⟨qn.toArray⟩) (.slice qia qil qic) (.slice qfa qfl qfc) bq.c0 bq.c1 bq.c2
        have hb24 : Below W2.heap.size W2 W4 := hbq.grown hg4 hbq.size (fun q e => by injection e with e; have e5 : w.heap.size + 1 + 1 = q := e; omega)
        have HBq : Hid (Box3 W4 (w.heap.size + 1 + 1) (.string ⟨qn.toArray⟩) (.slice qia qil qic) (.slice qfa qfl qfc)) := ⟨q0, q1, q2⟩
        have HBp : Hid (Box3 W4 w.heap.size (.string ⟨nm.toArray⟩) (.slice ia il ic) (.slice fa fl fc)) := HBp2.out.below hb24
        have HGn : Hid (w.heap.size + 1 < W4.heap.size) := by have := hb24.size; exact (by omega : w.heap.size + 1 < W4.heap.size)
        have HN2 : Hid (W4.cell? ⟨w.heap.size + 1, 2, none⟩ = some (.string ⟨x.toArray⟩)) := (hb24.cell (p := ⟨w.heap.size + 1, 2, none⟩) (by rw [hs2]; simp)).trans n2
        have HN1 : Hid (W4.cell? ⟨w.heap.size + 1, 1, none⟩ = some (.int .i64 A)) := (hb24.cell (p := ⟨w.heap.size + 1, 1, none⟩) (by rw [hs2]; simp)).trans n1
        have e3 := (hb24.cell (p := ⟨w.heap.size + 1, 3, none⟩) (by rw [hs2]; simp)).trans n3
        have b30 := bq.c0
        have b31 := bq.c1
        have b32 := bq.c2
        have n32 := (hbq.cell (p := ⟨w.heap.size + 1, 2, none⟩) (by rw [hs2]; simp)).trans n2
        have pp0 := (HBp2.out.below hbq).c0
        have d0 := (hbq.cell (p := ⟨b, off + j0 * 3, none⟩) hbl).trans c0
        have d1 := (hbq.cell (p := ⟨b, off + j0 * 3 + 1, none⟩) hbl).trans c1
        have d2 := (hbq.cell (p := ⟨b, off + j0 * 3 + 2, none⟩) hbl).trans c2
        have hz0 := hfz 0
        have hz1 := hfz 1
        have hz2 := hfz 2
        have HBW : Hid (Below w.heap.size w W4) := HB2.out.trans (hb24.mono HB2.out.size)
        have HP3 : Hid (PkgsIn W3 (some ⟨b, off, none⟩) len ps) := HP2.out.below hbq
        have hqf := hqf2.below hb24
        have HAt : Hid (_) := specAt qn fn qia qil qic qfa qfl qfc qfs W4 hqf hqfl
        simp only at HV
        clear bq hbq hb24 hfz hq hqf2 e8 hin hg4 hsh hqsh hl
        go_enter Tryz.func98, Tryz.ntmps98
        go_wp2_with fail
        refine Calls.mono HH.out ?_
        rintro e w5 ⟨rfl, hw5⟩
        obtain rfl := hw5.symm
        go_wp2_with fail
        refine Calls.mono (HA8.out W2 HP2.out) ?_
        rintro e w5 ⟨rfl, hw5⟩
        obtain rfl := hw5.symm
        go_wp2_with fail
        refine Calls.mono (HA8.out W3 HP3.out) ?_
        rintro e w5 ⟨rfl, hw5⟩
        obtain rfl := hw5.symm
        have HQ : Hid (FuncsIn W4 qfa qfl qfs) := hqf
        rcases at7_is qfs fn with eK | ⟨j, hj, eK, hjn⟩
        · have HR : Hid (call9 ps (nm, ims, fs) at_ (k, A, x, fn) = 2) := by exact (by rw [HV.out, eK, if_pos (Or.inl (by omega))] : call9 ps (nm, ims, fs) at_ (k, A, x, fn) = 2)
          rw [eK] at HAt
          go_wp2_with fail
          refine Calls.mono HAt.out ?_
          rintro e w5 ⟨rfl, hb5⟩
          have HB5 : Hid (Below w.heap.size w w5) := HBW.out.trans (hb5.mono HBW.out.size)
          have g0 := (HBq.out.below hb5).c0
          have g1 := (HBq.out.below hb5).c1
          have g2 := (HBq.out.below hb5).c2
          have m0 := (HBp.out.below hb5).c0
          have m2 := (hb5.cell (p := ⟨w.heap.size + 1, 2, none⟩) HGn.out).trans HN2.out
          have m1 := (hb5.cell (p := ⟨w.heap.size + 1, 1, none⟩) HGn.out).trans HN1.out
          clear hb5 hqf eK
          go_wp2
          go_ret
          exact ⟨by rw [HR.out]; rfl, HB5.out⟩
        · rw [eK] at HAt
          have hj0 : ¬ (j : Int) < 0 := by omega
          have hjl : j < qfl := by rw [← HQ.out.1]; exact hj
          have hjz : (j : Int) < (qfl : Int) := by omega
          have HC7 : Hid (¬ ((j : Int) < 0 ∨ (x = nm ∧ at_ ≤ (j : Int)))) := fun h => h.elim hj0 (fun h => hxn h.1)
          go_wp2_with fail
          refine Calls.mono HAt.out ?_
          rintro e w5 ⟨rfl, hb5⟩
          have HB5 : Hid (Below w.heap.size w w5) := HBW.out.trans (hb5.mono HBW.out.size)
          have g0 := (HBq.out.below hb5).c0
          have g1 := (HBq.out.below hb5).c1
          have g2 := (HBq.out.below hb5).c2
          have m0 := (HBp.out.below hb5).c0
          have m2 := (hb5.cell (p := ⟨w.heap.size + 1, 2, none⟩) HGn.out).trans HN2.out
          have m1 := (hb5.cell (p := ⟨w.heap.size + 1, 1, none⟩) HGn.out).trans HN1.out
          have hq5 := HQ.out.below hb5
          obtain ⟨bq, oq, rfl, _, _, r1, _⟩ := hq5.2 j hjl
          obtain ⟨B, hB⟩ : ∃ B, (qfs.getD j fn0).2.1 = B := ⟨_, rfl⟩
          rw [hB] at r1
          clear hb5 hqf hq5
          by_cases hBA : B = A
          · have HR : Hid (call9 ps (nm, ims, fs) at_ (k, A, x, fn) = 0) := by exact (by rw [HV.out, eK, if_neg HC7.out, Int.toNat_natCast, hB, if_neg (by simpa using hBA)] : call9 ps (nm, ims, fs) at_ (k, A, x, fn) = 0)
            have hne : (B != A) = false := by simp [hBA]
            subst hBA
            have hne2 : (B == B) = true := by simp
            clear eK hB
            go_wp2_with fail
            go_quiet (fail)
            go_wp2
            go_ret
            exact ⟨by rw [HR.out]; rfl, HB5.out.trans ⟨rfl, rfl, rfl, Nat.le_refl _, fun _ _ => rfl⟩⟩
          · have HR : Hid (call9 ps (nm, ims, fs) at_ (k, A, x, fn) = 3) := by exact (by rw [HV.out, eK, if_neg HC7.out, Int.toNat_natCast, hB, if_pos hBA] : call9 ps (nm, ims, fs) at_ (k, A, x, fn) = 3)
            have hne : (B != A) = true := by rw [bne_iff_ne]; exact hBA
            have hne2 : (B == A) = false := beq_eq_false_iff_ne.2 hBA
            have hne3 : ¬ B = A := hBA
            clear eK hB
            go_wp2_with fail
            go_quiet (fail)
            go_wp2
            go_ret
            exact ⟨by rw [HR.out]; rfl, HB5.out.trans ⟨rfl, rfl, rfl, Nat.le_refl _, fun _ _ => rfl⟩⟩
    · have HH : Hid (_) := specHas ia il ic ims x W2 HI2.out (by omega)
      rw [decide_eq_false hin] at HH
      have HR : Hid (call9 ps (nm, ims, fs) at_ (k, A, x, fn) = 1) := by exact (by
        unfold call9
        rw [if_pos (by unfold farB; exact decide_eq_true ⟨hxn, Or.inl hin⟩)] : call9 ps (nm, ims, fs) at_ (k, A, x, fn) = 1)
      clear hin
      go_enter Tryz.func98, Tryz.ntmps98
      go_wp2_with (go_at_call 96; refine Calls.mono HH.out ?_; rintro e w5 ⟨rfl, hw5⟩; obtain rfl := hw5.symm)
      go_ret
      exact ⟨by rw [HR.out]; rfl, HB2.out⟩

end Go.Proofs.YtkjojhkpoooimaaGreat

/-! The laws' own helpers over rows of numbers: eqInt64S, markInt64S, heldInt64S, likeInts. -/
namespace Go.Proofs.YtkjojhkpoooimaaGreat
open Go.RowKit

theorem intsV_at (l : List Int) (j : Nat) (h : j < l.length) : (intsV l)[j]? = some (.int .i64 l[j]) := by
  unfold intsV; rw [List.getElem?_map, List.getElem?_eq_getElem h]; rfl

/-- The marks from k on. -/
def marksI (k : Nat) : Nat → List Int
  | 0 => []
  | n + 1 => marksI k n ++ [((k + n : Nat) : Int)]
end Go.Proofs.YtkjojhkpoooimaaGreat

/-! The laws' own helpers over functions and packages: eqFunc, eqFuncS, eqStringS over texts that can be read, eqPackage. -/
namespace Go.Proofs.YtkjojhkpoooimaaGreat
open Go.RowKit





end Go.Proofs.YtkjojhkpoooimaaGreat

/-! The laws' own helpers over projects: szPackageS, eqPackageS. -/
namespace Go.Proofs.YtkjojhkpoooimaaGreat
open Go.RowKit

def pkZ (p : Pk) : Nat := pkSz p.1 p.2.1 p.2.2
def psSz : List Pk → Nat
  | [] => 0
  | p :: r => pkZ p + psSz r
def LongPs (ps : List Pk) : Prop := ∀ j, (ps.getD j pk0).1.length ≤ maxLen ∧ (ps.getD j pk0).2.1.length ≤ maxLen ∧ (∀ i, ((ps.getD j pk0).2.1.getD i []).length ≤ maxLen) ∧ (ps.getD j pk0).2.2.length ≤ maxLen ∧ LongF (ps.getD j pk0).2.2
def IntPs (ps : List Pk) : Prop := ∀ j, IntF (ps.getD j pk0).2.2
end Go.Proofs.YtkjojhkpoooimaaGreat

/-! The laws' own helpers over functions and packages: toFunc, toFuncS, toPackage. -/
namespace Go.Proofs.YtkjojhkpoooimaaGreat
open Go.RowKit


end Go.Proofs.YtkjojhkpoooimaaGreat

/-! The laws' own helpers over rows of nodes: markNodeS, heldNodeS, likeTree. -/
namespace Go.Proofs.YtkjojhkpoooimaaGreat
open Go.RowKit

/-- The marks of m nodes, from k on. -/
def marksN (k : Nat) : Nat → List Nd
  | 0 => []
  | m + 1 => marksN k m ++ [(((k + 4 * m : Nat) : Int), ((k + 4 * m + 1 : Nat) : Int), markL (k + 4 * m + 1 + 1), markL (k + 4 * m + 1 + 1 + 1))]

end Go.Proofs.YtkjojhkpoooimaaGreat

/-! The laws' own helpers over lists of functions: what several blocks' writing leaves; marks of functions. -/
namespace Go.Proofs.YtkjojhkpoooimaaGreat
open Go.RowKit

/-- What functions hold when they are marked from k on, and the next mark. -/
def fmk (k : Nat) (x : FV) : FV := ((markL k, ((k + 1 : Nat) : Int), marksN (k + 2) x.1.2.2.length), x.2)
def fmark (k : Nat) : List FV → List FV
  | [] => []
  | x :: r => fmk k x :: fmark (k + 2 + 4 * x.1.2.2.length) r
def fend (k : Nat) : List FV → Nat
  | [] => k
  | x :: r => fend (k + 2 + 4 * x.1.2.2.length) r

/-- Half way: m functions are marked. -/
def fhalf (k : Nat) (xs : List FV) (m : Nat) : List FV := fmark k (xs.take m) ++ xs.drop m
def FnBlocks (v : Value) (xs : List FV) (k : Nat) : Prop := v.ownBlock = some k ∨ ∃ x ∈ xs, (fvT x).ownBlock = some k


end Go.Proofs.YtkjojhkpoooimaaGreat

/-! The laws' own helpers over packages: markPackage, heldPackage. -/
namespace Go.Proofs.YtkjojhkpoooimaaGreat
open Go.RowKit



theorem FnsOwn.alloc {w : World} {base : Nat} {v : Value} {xs : List FV} (h : FnsOwn w base v xs) (o : Obj) : FnsOwn (w.alloc o) base v xs := ⟨h.row.alloc o, fun x hx => (h.trees x hx).alloc o⟩
theorem FnsOwn.none {w w' : World} {base : Nat} {v : Value} {xs : List FV} (h : FnsOwn w base v xs) (hg : w.grownBy w' none) : FnsOwn w' base v xs := ⟨own_none h.row hg, fun x hx => own_none (h.trees x hx) hg⟩
def PkBlocks (vi vf : Value) (xs : List FV) (k : Nat) : Prop := vi.ownBlock = some k ∨ FnBlocks vf xs k



end Go.Proofs.YtkjojhkpoooimaaGreat

/-! A project that a call has made; the laws' own helper toPackageS. -/
namespace Go.Proofs.YtkjojhkpoooimaaGreat
open Go.RowKit

/-- A package, where its lists lie, and between which blocks. -/
structure PV where
  nm : List UInt8
  ims : List (List UInt8)
  xs : List FV
  ia : Option Addr
  ic : Nat
  fa : Option Addr
  fc : Nat
  lo : Nat
  hi : Nat
def pvI (y : PV) : Value := .slice y.ia y.ims.length y.ic
def pvF (y : PV) : Value := .slice y.fa y.xs.length y.fc
def pvP (y : PV) : Pk := (y.nm, y.ims, y.xs.map (·.1))
def pv0 : PV := ⟨[], [], [], none, 0, none, 0, 0, 0⟩
def pvsV : List PV → List Value
  | [] => []
  | y :: r => .string ⟨y.nm.toArray⟩ :: pvI y :: pvF y :: pvsV r
theorem pvsV_at (ys : List PV) (j : Nat) (hj : j < ys.length) : (pvsV ys)[j * 3]? = some (.string ⟨(ys.getD j pv0).nm.toArray⟩) ∧ (pvsV ys)[j * 3 + 1]? = some (pvI (ys.getD j pv0)) ∧ (pvsV ys)[j * 3 + 2]? = some (pvF (ys.getD j pv0)) := by
  induction ys generalizing j with
  | nil => simp at hj
  | cons n r ih =>
    cases j with
    | zero => simp [pvsV]
    | succ j =>
      obtain ⟨h0, h1, h2⟩ := ih j (by simpa using hj)
      refine ⟨?_, ?_, ?_⟩
      · rw [show (j + 1) * 3 = j * 3 + 1 + 1 + 1 by omega]; simpa [pvsV] using h0
      · rw [show (j + 1) * 3 + 1 = j * 3 + 1 + 1 + 1 + 1 by omega]; simpa [pvsV] using h1
      · rw [show (j + 1) * 3 + 2 = j * 3 + 2 + 1 + 1 + 1 by omega]; simpa [pvsV] using h2
/-- A package whose rows lie between two blocks. -/
structure PvOk (w : World) (y : PV) : Prop where
  im : w.ownsRow y.lo 9 1 (pvI y) y.ims.length (strV y.ims)
  fo : FnsOwn w y.lo (pvF y) y.xs
  ap : Apart (y.xs.map fvT)
  top : ∀ k, PkBlocks (pvI y) (pvF y) y.xs k → k < y.hi
theorem PvOk.wrote {w w' : World} {y : PV} (h : PvOk w y) {S : Nat → Prop} (hw : Wrote w w' S) (hs : ∀ k, S k → k < y.lo ∨ y.hi ≤ k) : PvOk w' y := by
  have hoff : ∀ {e size n : Nat} {v : Value} {zs : List Value}, w.ownsRow y.lo e size v n zs → (∀ k, v.ownBlock = some k → k < y.hi) → w'.ownsRow y.lo e size v n zs := fun ho ht => own_wrote ho hw (fun k hk hS => by
    have h1 := (ho.lt k hk).1
    have h2 := ht k hk
    rcases hs k hS with h3 | h3 <;> omega)
  exact ⟨hoff h.im (fun k e => h.top k (Or.inl e)), ⟨hoff h.fo.row (fun k e => h.top k (Or.inr (Or.inl e))), fun x hx => hoff (h.fo.trees x hx) (fun k e => h.top k (Or.inr (Or.inr ⟨x, hx, e⟩)))⟩, h.ap, h.top⟩
theorem PvOk.below {w w' : World} {y : PV} (h : PvOk w y) (hb : Below w.heap.size w w') : PvOk w' y := h.wrote (S := fun _ => False) (Wrote.of_below hb) (fun _ e => e.elim)

/-- A project that a call owns: its row, and its packages' lists between B and T. -/
structure PjOwn (w : World) (B T : Nat) (v : Value) (ys : List PV) : Prop where
  row : w.ownsRow B 30 3 v ys.length (pvsV ys)
  each : ∀ y ∈ ys, PvOk w y ∧ B ≤ y.lo ∧ y.hi ≤ T
  seq : ys.Pairwise (fun a b => a.hi ≤ b.lo)
  off : ∀ k, v.ownBlock = some k → k < T ∧ ∀ y ∈ ys, k < y.lo ∨ y.hi ≤ k
  sz : T ≤ w.heap.size
theorem PjOwn.below {w w' : World} {B T : Nat} {v : Value} {ys : List PV} (h : PjOwn w B T v ys) (hb : Below w.heap.size w w') : PjOwn w' B T v ys :=
  ⟨own_below h.row hb, fun y hy => ⟨(h.each y hy).1.below hb, (h.each y hy).2⟩, h.seq, h.off, Nat.le_trans h.sz hb.size⟩
theorem getD_map_pv (ys : List PV) (j : Nat) : (ys.map pvP).getD j pk0 = pvP (ys.getD j pv0) := by
  rw [List.getD_eq_getElem?_getD, List.getD_eq_getElem?_getD, List.getElem?_map]
  cases ys[j]? <;> rfl
/-- What is owned can be read. -/
theorem PjOwn.in {w : World} {B T : Nat} {v : Value} {ys : List PV} (h : PjOwn w B T v ys) : ∃ a cap, v = .slice a ys.length cap ∧ (a = none → cap = 0) ∧ PkgsIn w a ys.length (ys.map pvP) := by
  rcases own_forms h.row with ⟨rfl, h0, _⟩ | ⟨g, cp, rfl⟩
  · exact ⟨none, 0, by rw [h0], fun _ => rfl, by simp, fun j hj => by omega⟩
  · refine ⟨some ⟨g, 0, none⟩, cp, rfl, fun e => (by cases e), by simp, fun j hj => ?_⟩
    obtain ⟨v0, v1, v2⟩ := pvsV_at ys j hj
    have hc := fun k (hk : k < ys.length * 3) => World.ownsRow.cellAt h.row k hk
    have hmem : ys.getD j pv0 ∈ ys := by rw [List.getD_eq_getElem?_getD, List.getElem?_eq_getElem hj]; exact List.getElem_mem hj
    have hy := (h.each _ hmem).1
    obtain ⟨ai, ci, af, cf, e1, e2, _, _, hti, hfi⟩ := own_pk hy.im hy.fo rfl
    refine ⟨g, 0, rfl, (h.row.lt g rfl).2, ?_, ai, (ys.getD j pv0).ims.length, ci, af, ((ys.getD j pv0).xs.map (·.1)).length, cf, ?_, ?_, ?_, ?_⟩
    · rw [Nat.zero_add, hc _ (by omega), v0, getD_map_pv]; rfl
    · rw [Nat.zero_add, hc _ (by omega), v1, e1]
    · rw [Nat.zero_add, hc _ (by omega), v2, e2]
    · rw [getD_map_pv]; exact hti
    · rw [getD_map_pv]; exact hfi

theorem infoPackage : (Tryz.prog.info? 30).map (fun i => (i.zero, i.size, i.bytes)) = some (some (.agg #[.string ⟨#[]⟩, .slice none 0 0, .slice none 0 0]), 3, 64) := by kernel_rfl


end Go.Proofs.YtkjojhkpoooimaaGreat

/-! The laws' own helper markPackageS. -/
namespace Go.Proofs.YtkjojhkpoooimaaGreat
open Go.RowKit


/-- Where the marks end. -/
def mend (k : Nat) : List PV → Nat
  | [] => k
  | y :: r => mend (fend (k + 1 + y.ims.length) y.xs) r
/-- Rows that bear the same lists. -/
def SameL (zs ys : List PV) : Prop := zs.length = ys.length ∧ ∀ i, pvI (zs.getD i pv0) = pvI (ys.getD i pv0) ∧ pvF (zs.getD i pv0) = pvF (ys.getD i pv0)
theorem SameL.name {zs ys : List PV} (h : SameL zs ys) (j : Nat) (x : List UInt8) : SameL (zs.set j ⟨x, (zs.getD j pv0).ims, (zs.getD j pv0).xs, (zs.getD j pv0).ia, (zs.getD j pv0).ic, (zs.getD j pv0).fa, (zs.getD j pv0).fc, (zs.getD j pv0).lo, (zs.getD j pv0).hi⟩) ys := by
  refine ⟨by rw [List.length_set]; exact h.1, fun i => ?_⟩
  by_cases hij : j = i
  · subst hij
    by_cases hj : j < zs.length
    · rw [show (zs.set j _).getD j pv0 = ⟨x, (zs.getD j pv0).ims, (zs.getD j pv0).xs, (zs.getD j pv0).ia, (zs.getD j pv0).ic, (zs.getD j pv0).fa, (zs.getD j pv0).fc, (zs.getD j pv0).lo, (zs.getD j pv0).hi⟩ by simp [List.getD, hj]]
      exact ⟨(h.2 j).1, (h.2 j).2⟩
    · rw [List.set_eq_of_length_le (by omega)]; exact h.2 j
  · rw [show (zs.set j _).getD i pv0 = zs.getD i pv0 by simp [List.getD, List.getElem?_set_ne hij]]
    exact h.2 i


end Go.Proofs.YtkjojhkpoooimaaGreat

/-! What the landed functions of chapter 8 are told of a project. -/
namespace Go.Proofs.YtkjojhkpoooimaaGreat
open Go.RowKit

/-- What the landed functions are told of a project that they are handed. -/
structure PkgsOk (w : World) (a : Option Addr) (len cap : Nat) (ps : List Pk) : Prop where
  hlen : ps.length = len
  nil : a = none → cap = 0
  hcap : len ≤ cap
  small : len ≤ 1048576
  each : ∀ j, j < len → ∃ b off, a = some ⟨b, off, none⟩ ∧ b < w.heap.size ∧ w.cell? ⟨b, off + j * 3, none⟩ = some (.string ⟨(ps.getD j pk0).1.toArray⟩) ∧
    ∃ ia il ic fa fl fc, w.cell? ⟨b, off + j * 3 + 1, none⟩ = some (.slice ia il ic) ∧ w.cell? ⟨b, off + j * 3 + 2, none⟩ = some (.slice fa fl fc) ∧ PkOk w (ps.getD j pk0).1 ia il ic fa fl fc (ps.getD j pk0).2.1 (ps.getD j pk0).2.2
theorem PkgsOk.below {w w' : World} {a : Option Addr} {len cap : Nat} {ps : List Pk} (h : PkgsOk w a len cap ps) (hb : Below w.heap.size w w') : PkgsOk w' a len cap ps :=
  ⟨h.hlen, h.nil, h.hcap, h.small, fun j hj => by
    obtain ⟨b, off, e, hlt, c0, ia, il, ic, fa, fl, fc, c1, c2, hk⟩ := h.each j hj
    exact ⟨b, off, e, Nat.lt_of_lt_of_le hlt hb.size, (hb.cell (p := ⟨b, off + j * 3, none⟩) hlt).trans c0, ia, il, ic, fa, fl, fc, (hb.cell (p := ⟨b, off + j * 3 + 1, none⟩) hlt).trans c1, (hb.cell (p := ⟨b, off + j * 3 + 2, none⟩) hlt).trans c2, hk.below hb⟩⟩
theorem PkgsOk.in {w : World} {a : Option Addr} {len cap : Nat} {ps : List Pk} (h : PkgsOk w a len cap ps) : PkgsIn w a len ps :=
  ⟨h.hlen, fun j hj => by
    obtain ⟨b, off, e, hlt, c0, ia, il, ic, fa, fl, fc, c1, c2, hk⟩ := h.each j hj
    exact ⟨b, off, e, hlt, c0, ia, il, ic, fa, fl, fc, c1, c2, hk.i, hk.f⟩⟩
theorem PkgsOk.short {w : World} {a : Option Addr} {len cap : Nat} {ps : List Pk} (h : PkgsOk w a len cap ps) : ShortPs ps := fun j => by
  by_cases hj : j < len
  · obtain ⟨b, off, e, hlt, c0, ia, il, ic, fa, fl, fc, c1, c2, hk⟩ := h.each j hj
    exact ⟨hk.nm, by rw [hk.i.1]; exact hk.il, hk.is, by rw [hk.f.1]; exact hk.fl, hk.fs⟩
  · have : ps.getD j pk0 = pk0 := by rw [List.getD, List.getElem?_eq_none (by rw [h.hlen]; omega)]; rfl
    rw [this]
    exact ⟨by simp [pk0], by simp [pk0], fun i => by simp [pk0], by simp [pk0], fun i => by simp [pk0, fn0, ShortT, nd0]⟩
/-- A project that a call owns, as they are told of it. -/
theorem PjOwn.ok {w : World} {B T : Nat} {g len cap : Nat} {ys : List PV} {ps : List Pk} (h : PjOwn w B T (.slice (some ⟨g, 0, none⟩) len cap) ys) (hp : ys.map pvP = ps) (hi : IntPs ps) (hs : ShortPs ps) (hl : ps.length = len) (hlen : len ≤ 1048576) : PkgsOk w (some ⟨g, 0, none⟩) len cap ps := by
  have hyl : ys.length = len := by rw [← hl, ← hp, List.length_map]
  have hrow := h.row
  rw [hyl] at hrow
  have hcap : len ≤ cap := by
    rcases hrow.2 with ⟨e, _⟩ | ⟨g', cap', cur, e, _, _, hc, _⟩
    · cases e
    · injection e with _ _ e3; rw [e3]; exact hc
  refine ⟨hl, (fun e => (by cases e)), hcap, hlen, fun j hj => ?_⟩
  obtain ⟨v0, v1, v2⟩ := pvsV_at ys j (by omega)
  have hc := fun k (hk : k < len * 3) => World.ownsRow.cellAt hrow k hk
  have hmem : ys.getD j pv0 ∈ ys := by simp [List.getD, show j < ys.length by omega]
  have hy := (h.each _ hmem).1
  obtain ⟨ai, ci, af, cf, e1, e2, h3, h4, hti, hfi⟩ := own_pk hy.im hy.fo rfl
  have hpj : ps.getD j pk0 = pvP (ys.getD j pv0) := by rw [← hp]; exact getD_map_pv ys j
  have hsj := hs j
  have hij := hi j
  rw [hpj] at hsj hij ⊢
  refine ⟨g, 0, rfl, (hrow.lt g rfl).2, ?_, ai, (ys.getD j pv0).ims.length, ci, af, ((ys.getD j pv0).xs.map (fun x : FV => x.1)).length, cf, ?_, ?_, ⟨hti, hfi, h3, h4, hij, hsj.2.1, hsj.2.2.2.1, hsj.1, hsj.2.2.1, hsj.2.2.2.2⟩⟩
  · rw [Nat.zero_add, hc _ (by omega), v0]; rfl
  · rw [Nat.zero_add, hc _ (by omega), v1, e1]
  · rw [Nat.zero_add, hc _ (by omega), v2, e2]

end Go.Proofs.YtkjojhkpoooimaaGreat

/-! The contract of chapter 10's specification: the value of a tree, part by part. -/
namespace Go.Proofs.YtkjojhkpoooimaaGreat
open Go.RowKit

/-- A walk's block: the project, the fuel, the code. -/
structure Wk (Z : World) (W : Nat) (l : Value) (f : Nat) (c : Int) : Prop where
  c0 : Z.cell? ⟨W, 0, none⟩ = some l
  c1 : Z.cell? ⟨W, 1, none⟩ = some (.int .i64 (f : Int))
  c2 : Z.cell? ⟨W, 2, none⟩ = some (.int .i64 c)
  fr : ∀ j, Z.frozen? ⟨W, j, none⟩ = false
variable {Z Y B : World} {W f d : Nat} {l : Value} {c m : Int} {a aa ta la : Option Addr} {lc : Nat} {xs : List Int} {ps : List Pk} {t : List Nd}
theorem Wk.lt (h : Wk Z W l f c) : W < Z.heap.size := World.block_lt_of_cell? Z ⟨W, 0, none⟩ h.c0
theorem Wk.below (h : Wk Z W l f c) (hb : Below Z.heap.size Z Y) : Wk Y W l f c :=
  ⟨(hb.cell (p := ⟨W, 0, none⟩) h.lt).trans h.c0, (hb.cell (p := ⟨W, 1, none⟩) h.lt).trans h.c1, (hb.cell (p := ⟨W, 2, none⟩) h.lt).trans h.c2, fun j => (hb.frozen (p := ⟨W, j, none⟩) h.lt).trans (h.fr j)⟩
theorem Wk.fuel (h : Wk Z W l f c) (g : Nat) : Wk (Z.setCell ⟨W, 1, none⟩ (.int .i64 (g : Int))) W l g c :=
  ⟨(World.cell?_setCell_other _ _ _ _ (by simp)).trans h.c0, World.cell?_setCell_same _ _ _ h.c1, (World.cell?_setCell_other _ _ _ _ (by simp)).trans h.c2, fun j => by simpa using h.fr j⟩
theorem Wk.code (h : Wk Z W l f c) (g : Int) : Wk (Z.setCell ⟨W, 2, none⟩ (.int .i64 g)) W l f g :=
  ⟨(World.cell?_setCell_other _ _ _ _ (by simp)).trans h.c0, (World.cell?_setCell_other _ _ _ _ (by simp)).trans h.c1, World.cell?_setCell_same _ _ _ h.c2, fun j => by simpa using h.fr j⟩
abbrev Wr (Z Y : World) (W : Nat) : Prop := Wrote Z Y (fun k => k = W)
theorem wr_set (Z : World) (W o : Nat) (v : Value) : Wr Z (Z.setCell ⟨W, o, none⟩ v) W := Wrote.of_grown (grown_set Z W o v) (fun k e => by injection e with e; exact e.symm)
theorem wr_cell {Z Y : World} {W : Nat} (h : Wr Z Y W) {b o : Nat} (hb : b < Z.heap.size) (hn : b ≠ W) {v : Value} (hc : Z.cell? ⟨b, o, none⟩ = some v) : Y.cell? ⟨b, o, none⟩ = some v := by
  have e := h.block b hb hn
  rw [World.cell?_of_block (a := ⟨b, o, none⟩) e]
  exact hc
theorem wr_base {B Z Y : World} {W : Nat} (hb : Below B.heap.size B Z) (hW : B.heap.size ≤ W) (h : Wr Z Y W) : Below B.heap.size B Y := hb.trans (h.below hb.size (fun k e => by rw [e]; exact hW))
/-- Numbers that lie off the walk's block. -/
def As (Z : World) (W : Nat) (a : Option Addr) (xs : List Int) : Prop := ∀ j, j < xs.length → ∃ b off, a = some ⟨b, off, none⟩ ∧ b ≠ W ∧ b < Z.heap.size ∧ Z.cell? ⟨b, off + j, none⟩ = some (.int .i64 (xs.getD j 0))
theorem As.wr (h : As Z W a xs) (hw : Wr Z Y W) : As Y W a xs := fun j hj => by
  obtain ⟨b, off, e, hn, hl, hc⟩ := h j hj
  exact ⟨b, off, e, hn, Nat.lt_of_lt_of_le hl hw.size, wr_cell hw hl hn hc⟩
theorem As.below (h : As Z W a xs) (hb : Below Z.heap.size Z Y) : As Y W a xs := h.wr (Wrote.of_below hb)
theorem as_own {Z : World} {B W : Nat} {v : Value} {xs : List Int} (h : Z.ownsRow B 2 1 v xs.length (intsV xs)) (hB : W < B) : ∃ a c, v = .slice a xs.length c ∧ As Z W a xs := by
  rcases own_forms h with ⟨rfl, h0, _⟩ | ⟨g, c, rfl⟩
  · exact ⟨none, 0, by rw [h0], fun j hj => by omega⟩
  · refine ⟨_, c, rfl, fun j hj => ⟨g, 0, rfl, ?_, (h.lt g rfl).2, ?_⟩⟩
    · have := (h.lt g rfl).1; omega
    · have h1 := h.cellAt j (by omega)
      rw [Nat.zero_add, h1, intsV_at xs j hj]
      simp [List.getD, hj]

/-- What l10Value is told. -/
def Val10 (B : World) (la : Option Addr) (lc : Nat) (ps : List Pk) (W d : Nat) : Prop :=
  ∀ (Z : World) (f : Nat) (c : Int) (ta : Option Addr) (tc : Nat) (t : List Nd) (m : Int) (a : Nat) (aa : Option Addr) (ac : Nat) (xs : List Int),
    Below B.heap.size B Z → f < d → Wk Z W (.slice la ps.length lc) f c → NodesIn B ta t.length t → Tr10 ps t m → ShortT t → t.length ≤ 1048576 → 0 ≤ endV t (a : Int) → As Z W aa xs → (xs.length : Int) = m → (∀ x ∈ xs, Word10 x) →
    Calls Tryz.prog 74 #[.pointer (some ⟨W, 0, none⟩), .slice ta t.length tc, .int .i64 (a : Int), .slice aa xs.length ac] Z fun e Z' =>
      e = .returned (.int .i64 (val10 ps d t (a : Int) xs (f, c)).1) ∧ Wk Z' W (.slice la ps.length lc) (val10 ps d t (a : Int) xs (f, c)).2.1 (val10 ps d t (a : Int) xs (f, c)).2.2 ∧ Wr Z Z' W
theorem Val10.at (h : Val10 B la lc ps W d) (hB : Below B.heap.size B Z) (hf : f < d) (hw : Wk Z W (.slice la ps.length lc) f c) (hin : NodesIn B ta t.length t) (htr : Tr10 ps t m) (hsh : ShortT t) (hlen : t.length ≤ 1048576) {q : Int} {k : Nat} (hq : q = (k : Int)) (hp : 0 ≤ endV t (k : Int)) (ha : As Z W aa xs) (hm : (xs.length : Int) = m) (hx : ∀ x ∈ xs, Word10 x) (tc ac : Nat) :
    Calls Tryz.prog 74 #[.pointer (some ⟨W, 0, none⟩), .slice ta t.length tc, .int .i64 q, .slice aa xs.length ac] Z fun e Z' =>
      e = .returned (.int .i64 (val10 ps d t q xs (f, c)).1) ∧ Wk Z' W (.slice la ps.length lc) (val10 ps d t q xs (f, c)).2.1 (val10 ps d t q xs (f, c)).2.2 ∧ Wr Z Z' W := by
  subst hq
  exact h Z f c ta tc t m k aa ac xs hB hf hw hin htr hsh hlen hp ha hm hx

end Go.Proofs.YtkjojhkpoooimaaGreat
