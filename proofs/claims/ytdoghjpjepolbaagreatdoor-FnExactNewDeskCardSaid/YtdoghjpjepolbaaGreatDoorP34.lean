/-
  Parts of one proof, one behind the other: NewK, TkE, TkIn.
-/
import Derived.Test.YtdoghjpjepolbaaGreatDoorP33
import Derived.Test.YtdoghjpjepolbaaGreatDoorP31
import Derived.Test.YtdoghjpjepolbaaGreatDoorP32
import Derived.Test.YtdoghjpjepolbaaGreatDoorP28
import Derived.Deep.RegionHeld3
import Derived.SliceStrings
import Derived.WalkKit
import Derived.ProofKit
import Derived.OpenShut
import Derived.ShutString
import Derived.ChangeOld
import Derived.Below
import Derived.Lib.SmallJoins
import Derived.Deep.SlicePairs

/-! The contracts of chapter 18's landed code: Reborn of the empty journal, NewDesk. -/
namespace Go.Proofs.YtdoghjpjepolbaaGreatDoor
open Go.RowKit

theorem own_cap18 {w : World} {base e size n c : Nat} {a : Option Addr} {xs : List Value} (h : w.ownsRow base e size (.slice a n c) n xs) : n ≤ c := by
 rcases h.2 with ⟨h', h0, _⟩ | ⟨g, cp, cur, h', _, _, hnc, _⟩
 ·
  omega
 ·
  injection h' with _ _ h3
  omega
theorem new18_short (ps : List Pk) : ShortTa (newV ps).1.1 := by
 by_cases h0 : (faultV ps).1 = 0
 ·
  rw [show newV ps = ((tasks18 ps, 1, 0, startL 1), true) from if_pos h0]
  have hd := deskB_iff.1 (new18_ok h0)
  intro j
  show ((tasks18 ps).getD j ta0).1.length ≤ 1048576 ∧ ((tasks18 ps).getD j ta0).2.1.length ≤ 1048576
  by_cases hj : j < (tasks18 ps).length
  ·
   have h1 := (name_letters (hd.one j hj).1).1.2
   have hl : (tasks18 ps).length = (parts18 ps).length := by unfold tasks18; simp
   have h8 := (parts18_len (clean18_of h0)).2
   refine ⟨Nat.le_trans h1 (by decide), ?_⟩
   rw [tasks18_at (by omega)]
   exact Nat.le_trans (nums18_len _ _ _) (by omega)
  ·
   rw [List.getD_eq_getElem?_getD, List.getElem?_eq_none (by omega)]
   simp [ta0]
 ·
  rw [show newV ps = (dk0, false) from if_neg h0]
  intro j
  simp [dk0, ta0]
theorem new18_desk (ps : List Pk) : deskB ((newV ps).1.1, 1, 0, startL 1) = (newV ps).2 := by
 by_cases h0 : (faultV ps).1 = 0
 ·
  rw [show newV ps = ((tasks18 ps, 1, 0, startL 1), true) from if_pos h0]
  exact new18_ok h0
 ·
  rw [show newV ps = (dk0, false) from if_neg h0]
  rcases hb : deskB (dk0.1, 1, 0, startL 1) with _ | _
  ·
   rfl
  ·
   have := (deskB_iff.1 hb).n.1
   simp [dk0] at this
theorem new18_len (ps : List Pk) : (newV ps).1.1.length ≤ 9 := by
 rw [tasks18_prt, List.length_map, List.length_range]
 exact prtV_len ps
theorem new18_yes {ps : List Pk} (h : (newV ps).2 = true) : (newV ps).1 = ((newV ps).1.1, 1, 0, startL 1) := by
 by_cases h0 : (faultV ps).1 = 0
 ·
  rw [show newV ps = ((tasks18 ps, 1, 0, startL 1), true) from if_pos h0]
 ·
  rw [show newV ps = (dk0, false) from if_neg h0] at h
  cases h
theorem new18_no {ps : List Pk} (h : (newV ps).2 = false) : (newV ps).1 = dk0 := by
 by_cases h0 : (faultV ps).1 = 0
 ·
  rw [show newV ps = ((tasks18 ps, 1, 0, startL 1), true) from if_pos h0] at h
  cases h
 ·
  rw [show newV ps = (dk0, false) from if_neg h0]

set_option maxHeartbeats 8000000 in
set_option maxRecDepth 100000 in
theorem implReborn0 (a : Option Addr) (len cap : Nat) (ps : List Pk) (er : Nat → Addr) (w : World) (hE : Err8 w er) (ht : PowIs w) (h : PkgsOk w a len cap ps) :
 Calls Tryz.prog 15 #[.slice a len cap, .string ⟨#[]⟩] w fun e w' => ∃ v, e = .returned (.tuple #[v, .bool (newV ps).2]) ∧ DkOut w w' v (newV ps).1 := by
 obtain ⟨D, hD⟩ : ∃ D, w.heap.size = D := ⟨_, rfl⟩
 obtain ⟨W1, hW1⟩ : ∃ W, w.alloc (.cells #[.slice none 0 0, .int .i64 0, .int .i64 0, .string ⟨#[]⟩] 26) = W := ⟨_, rfl⟩
 have hs1 : W1.heap.size = D + 1 := by rw [← hW1, ← hD]; simp
 have hb1 : Below D w W1 := by rw [← hW1, ← hD]; exact (Below.refl _ _).alloc (Nat.le_refl _) _
 have bR := B4.new w (.slice none 0 0) (.int .i64 0) (.int .i64 0) (.string ⟨#[]⟩) 26
 rw [hW1, hD] at bR
 have HD : Hid (∀ Z, Below W1.heap.size W1 Z → B4 Z D (.slice none 0 0) (.int .i64 0) (.int .i64 0) (.string ⟨#[]⟩) ∧ Below D w Z) := fun Z hz =>
  ⟨bR.below hz, hb1.trans (hz.mono (by omega))⟩
 have HPw : Hid (∀ Z, Below D w Z → PowIs Z) := fun Z hz => ht.below (by rw [hD]; exact hz)
 have HT : Hid (_) := implTasksOf a len cap ps er W1 (hE.below (by rw [hD]; exact hb1)) (h.below (by rw [hD]; exact hb1))
 have HFr : Hid (∀ Z, Calls Tryz.prog 32 #[.string ⟨#[]⟩] Z fun e w' => ∃ v, e = .returned (.tuple #[v, .int .i64 ((0 : Nat) : Int)]) ∧ w'.ownsRow Z.heap.size 9 1 v 0 (strV []) ∧ Below Z.heap.size Z w') := fun Z => implFramesU [] [] 0 0 Z (by simp) (by rfl) rfl (by rfl)
 have hsh := new18_short ps
 have hdk := new18_desk ps
 have h9 := new18_len ps
 have HY : Hid ((newV ps).2 = true → _) := fun e => new18_yes (ps := ps) e
 have HN : Hid ((newV ps).2 = false → _) := fun e => new18_no (ps := ps) e
 generalize newV ps = nv at HT hsh hdk h9 HY HN ⊢
 obtain ⟨d, ok⟩ := nv
 simp only at HT hsh hdk h9 HY HN ⊢
 generalize hts : d.1 = ts at HT hsh hdk h9 HY
 have HSt : Hid (_) := fun (B base : Nat) (v0 : Value) (Z : World) (hb4 : B4 Z B v0 (.int .i64 0) (.int .i64 0) (.string ⟨([] : List UInt8).toArray⟩)) (h1 : base ≤ Z.heap.size) (h2 : base ≤ B) (h3 : ∀ X, Below base Z X → PowIs X) => implStart B base v0 0 0 [] Z hb4 h1 h2 (by omega) (by omega) (by simp) h3
 rw [show (0 : Int) + 1 = 1 from rfl] at HSt
 have HDk : Hid (_) := fun (va : Option Addr) (vc : Nat) (Z : World) (h1 : TasksIn Z va ts.length ts) (h2 : ts.length ≤ vc) => implDeskOk va ts.length vc ts 1 0 (startL 1) Z h1 h2 hsh (by omega)
 rw [hdk] at HDk
 simp only [List.nil_append] at HSt
 generalize startL 1 = sl at HSt HDk HY
 clear hE ht h bR hb1 hsh hdk
 go_enter Tryz.func15, Tryz.ntmps15
 go_wp2_with fail
 refine Calls.mono HT.out ?_
 rintro e w2 ⟨v2, xs, rfl, hx, ho2, hap, hb2⟩
 have hxl : xs.length = ts.length := by rw [← hx, List.length_map]
 obtain ⟨va, vc, rfl⟩ := own_slice18 ho2.row
 rw [hxl] at ho2
 rw [hxl]
 have HB2 : Hid (Below W1.heap.size W1 w2) := hb2
 obtain ⟨Q, hQ⟩ : ∃ Q, w2.heap.size = Q := ⟨_, rfl⟩
 obtain ⟨Z0, hZ0⟩ : ∃ Z0, w2.alloc (.cells #[.slice none 0 0, .int .i64 0, .int .i64 0, .string ⟨#[]⟩] 26) = Z0 := ⟨_, rfl⟩
 have bz := B4.new w2 (.slice none 0 0) (.int .i64 0) (.int .i64 0) (.string ⟨#[]⟩) 26
 have hbZ : Below w2.heap.size w2 Z0 := by rw [← hZ0]; exact (Below.refl _ _).alloc (Nat.le_refl _) _
 rw [hZ0] at bz
 rw [hQ] at bz hbZ
 have z0 := bz.c0
 have z1 := bz.c1
 have z2 := bz.c2
 have z3 := bz.c3
 have zf := bz.fr
 have b4 := (((bz.s0 (.slice va ts.length vc)).s1 (.int .i64 0)).s2 (.int .i64 0)).s3 (.string ⟨#[]⟩)
 have hbX : Below Q w2 ((((Z0.setCell ⟨Q, 0, none⟩ (.slice va ts.length vc)).setCell ⟨Q, 1, none⟩ (.int .i64 0)).setCell ⟨Q, 2, none⟩ (.int .i64 0)).setCell ⟨Q, 3, none⟩ (.string ⟨#[]⟩)) := (((hbZ.setCell (Nat.le_refl _) _).setCell (Nat.le_refl _) _).setCell (Nat.le_refl _) _).setCell (Nat.le_refl _) _
 obtain ⟨w3, hw3⟩ : ∃ W, (((Z0.setCell ⟨Q, 0, none⟩ (.slice va ts.length vc)).setCell ⟨Q, 1, none⟩ (.int .i64 0)).setCell ⟨Q, 2, none⟩ (.int .i64 0)).setCell ⟨Q, 3, none⟩ (.string ⟨#[]⟩) = W := ⟨_, rfl⟩
 rw [hw3] at b4 hbX
 have HQ : Hid (W1.heap.size ≤ Q ∧ D + 1 ≤ Q) := by
  have := hb2.size
  exact (by omega : W1.heap.size ≤ Q ∧ D + 1 ≤ Q)
 have HB3 : Hid (Below W1.heap.size W1 w3) := hb2.trans (hbX.mono HQ.out.1)
 have HO3 : Hid (TksOwn w3 W1.heap.size (.slice va ts.length vc) xs ∧ xs.map (·.1) = ts ∧ ApartR (xs.map tvT)) := ⟨ho2.below (by rw [hQ]; exact hbX), hx, hap⟩
 have hOl : ∀ k, (Value.slice va ts.length vc).ownBlock = some k ∨ (∃ x ∈ xs, (tvT x).ownBlock = some k) → k < Q := by
  intro k hk
  rw [← hQ]
  rcases hk with e | ⟨x, hx, e⟩
  ·
   exact (ho2.row.lt k e).2
  ·
   exact ((ho2.trees x hx).lt k e).2
 have HOl : Hid (_) := hOl
 have HQ4 : Hid (B4 w3 Q (.slice va ts.length vc) (.int .i64 0) (.int .i64 0) (.string ⟨#[]⟩)) := b4
 have HFm : Hid (_) := HFr.out w3
 clear ho2 hx hap hb2 bz hbZ hbX b4 hOl HT HFr
 go_wp2_with fail
 refine Calls.mono HFm.out ?_
 rintro e w4 ⟨v4, rfl, ho4, hb4⟩
 obtain ⟨a4, c4, rfl⟩ := own_slice18 ho4
 have HB4 : Hid (Below W1.heap.size W1 w4) := HB3.out.trans (hb4.mono HB3.out.size)
 have HO4 : Hid (TksOwn w4 W1.heap.size (.slice va ts.length vc) xs) := HO3.out.1.below hb4
 have HQ5 : Hid (B4 w4 Q (.slice va ts.length vc) (.int .i64 0) (.int .i64 0) (.string ⟨#[]⟩)) := HQ4.out.below hb4
 have HS4 : Hid (_) := HSt.out Q W1.heap.size (.slice va ts.length vc) w4 HQ5.out HB4.out.size HQ.out.1 (fun X hX => HPw.out X ((HD.out X (HB4.out.trans hX)).2))
 clear ho4 hb4 HFm HSt hZ0 hw3 z0 z1 z2 z3 zf
 go_wp2
 go_loopw [21] (fun iv wr => iv = .int .i64 0 ∧ wr = w4) (fun _ _ => 0)
 case atStart => exact ⟨rfl, rfl⟩
 case round =>
  obtain ⟨rfl, hwr⟩ := hrel
  obtain rfl := hwr.symm
  go_wp2_with fail
  refine Calls.mono HS4.out ?_
  rintro e w5 ⟨rfl, b5, hg5⟩
  have hne : (Value.slice va ts.length vc).ownBlock = none ∨ (Value.slice va ts.length vc).ownBlock ≠ some Q := by
   rcases hv : (Value.slice va ts.length vc).ownBlock with _ | k
   ·
    exact Or.inl rfl
   ·
    exact Or.inr (fun e => by injection e with e; have := HOl.out k (Or.inl hv); omega)
  have hO5 := HO4.out.kept hg5 hne (fun x hx => by
   rcases hv : (tvT x).ownBlock with _ | k
   ·
    exact Or.inl rfl
   ·
    exact Or.inr (fun e => by injection e with e; have := HOl.out k (Or.inr ⟨x, hx, hv⟩); omega))
  have HB5 : Hid (Below W1.heap.size W1 w5) := HB4.out.grown hg5 HB4.out.size (fun k e => by injection e with e; have := HQ.out.1; omega)
  have HO5 : Hid (TksOwn w5 W1.heap.size (.slice va ts.length vc) xs) := hO5
  obtain ⟨a7, c7, e7, hok7⟩ := hO5.ok
  rw [HO3.out.2.1, hxl] at hok7
  rw [hxl] at e7
  injection e7 with e7 _ e8
  subst e7
  subst e8
  have HK : Hid (_) := HDk.out va vc w5 hok7.in (by have := hO5.row; rw [hxl] at this; exact own_cap18 this)
  have HQ6 : Hid (B4 w5 Q (.slice va ts.length vc) (.int .i64 1) (.int .i64 0) (.string ⟨sl.toArray⟩)) := b5
  have q0 := b5.c0
  have q1 := b5.c1
  have q2 := b5.c2
  have q3 := b5.c3
  clear hne hO5 hok7 b5 hg5 HDk HS4 HQ5 HQ4
  rcases ok with _ | _
  ·
   have HR : Hid (d = dk0) := HN.out rfl
   go_wp2_with fail
   refine Calls.mono HK.out ?_
   rintro e w6 ⟨rfl, hb6⟩
   have HB6 : Hid (Below W1.heap.size W1 w6) := HB5.out.trans (hb6.mono HB5.out.size)
   obtain ⟨br, hbD⟩ := HD.out w6 HB6.out
   have r0 := br.c0
   have r1 := br.c1
   have r2 := br.c2
   have r3 := br.c3
   have f0 := br.fr 0
   have f1 := br.fr 1
   have f2 := br.fr 2
   have f3 := br.fr 3
   have HBD : Hid (Below D w w6) := hbD
   clear hbD br hb6 q0 q1 q2 q3
   go_wp2
   obtain ⟨X, hX, y0, y1, y2, y3, hg⟩ := set4 (.slice none 0 0) (.int .i64 0) (.int .i64 0) (.string ⟨#[]⟩) r0 r1 r2 r3
   rw [hX]
   refine bodyPost_ret (v := .tuple #[.agg #[.slice none 0 0, .int .i64 0, .int .i64 0, .string ⟨#[]⟩], .bool false]) (by simp [results, Tryz.results15, go_sem, y0, y1, y2, y3]) rfl ?_
   rw [HR.out]
   exact ⟨_, rfl, DkOut.zero (by rw [hD]; exact HBD.out.grown hg (by have := HBD.out.size; omega) (fun k e => by injection e with e; omega))⟩
  ·
   have HR : Hid (_) := HY.out rfl
   go_wp2_with fail
   refine Calls.mono HK.out ?_
   rintro e w6 ⟨rfl, hb6⟩
   have HB6 : Hid (Below W1.heap.size W1 w6) := HB5.out.trans (hb6.mono HB5.out.size)
   obtain ⟨br, hbD⟩ := HD.out w6 HB6.out
   have bq := HQ6.out.below hb6
   have HO6 : Hid (TksOwn w6 W1.heap.size (.slice va ts.length vc) xs) := HO5.out.below hb6
   clear q0 q1 q2 q3
   have q0 := bq.c0
   have q1 := bq.c1
   have q2 := bq.c2
   have q3 := bq.c3
   have r0 := br.c0
   have r1 := br.c1
   have r2 := br.c2
   have r3 := br.c3
   have f0 := br.fr 0
   have f1 := br.fr 1
   have f2 := br.fr 2
   have f3 := br.fr 3
   have HBD : Hid (Below D w w6) := hbD
   clear hbD br bq hb6
   go_wp2
   obtain ⟨X, hX, y0, y1, y2, y3, hg⟩ := set4 (.slice va ts.length vc) (.int .i64 1) (.int .i64 0) (.string ⟨sl.toArray⟩) r0 r1 r2 r3
   rw [hX]
   refine bodyPost_ret (v := .tuple #[.agg #[.slice va ts.length vc, .int .i64 1, .int .i64 0, .string ⟨sl.toArray⟩], .bool true]) (by simp [results, Tryz.results15, go_sem, y0, y1, y2, y3]) rfl ?_
   rw [HR.out]
   have hk := HO6.out.kept hg (own_offR HO6.out.row (by omega)) (fun y hy => own_offR (HO6.out.trees y hy) (by omega))
   exact ⟨_, rfl, va, vc, xs, rfl, HO3.out.2.1, hk.base (by omega), HO3.out.2.2, by rw [hD]; exact HBD.out.grown hg (by have := HBD.out.size; omega) (fun k e => by injection e with e; omega)⟩

set_option maxHeartbeats 4000000 in
set_option maxRecDepth 100000 in
theorem implNewDesk (a : Option Addr) (len cap : Nat) (ps : List Pk) (er : Nat → Addr) (w : World) (hE : Err8 w er) (ht : PowIs w) (h : PkgsOk w a len cap ps) :
 Calls Tryz.prog 8 #[.slice a len cap] w fun e w' => ∃ v, e = .returned (.tuple #[v, .bool (newV ps).2]) ∧ DkOut w w' v (newV ps).1 := by
 obtain ⟨D, hD⟩ : ∃ D, w.heap.size = D := ⟨_, rfl⟩
 obtain ⟨W1, hW1⟩ : ∃ W, w.alloc (.cells #[.slice none 0 0, .int .i64 0, .int .i64 0, .string ⟨#[]⟩] 26) = W := ⟨_, rfl⟩
 have hs1 : W1.heap.size = D + 1 := by rw [← hW1, ← hD]; simp
 have hb1 : Below D w W1 := by rw [← hW1, ← hD]; exact (Below.refl _ _).alloc (Nat.le_refl _) _
 have bR := B4.new w (.slice none 0 0) (.int .i64 0) (.int .i64 0) (.string ⟨#[]⟩) 26
 rw [hW1, hD] at bR
 have HD : Hid (∀ Z, Below W1.heap.size W1 Z → B4 Z D (.slice none 0 0) (.int .i64 0) (.int .i64 0) (.string ⟨#[]⟩) ∧ Below D w Z) := fun Z hz =>
  ⟨bR.below hz, hb1.trans (hz.mono (by omega))⟩
 have HR : Hid (_) := implReborn0 a len cap ps er W1 (hE.below (by rw [hD]; exact hb1)) (ht.below (by rw [hD]; exact hb1)) (h.below (by rw [hD]; exact hb1))
 generalize newV ps = nv at HR ⊢
 obtain ⟨d, ok⟩ := nv
 simp only at HR ⊢
 clear hE ht h bR hb1
 go_enter Tryz.func8, Tryz.ntmps8
 go_wp2_with fail
 refine Calls.mono HR.out ?_
 rintro e w2 ⟨_, rfl, va, vc, xs, rfl, hx, ho, hap, hb⟩
 obtain ⟨br, hbD⟩ := HD.out w2 hb
 have r0 := br.c0
 have r1 := br.c1
 have r2 := br.c2
 have r3 := br.c3
 have f0 := br.fr 0
 have f1 := br.fr 1
 have f2 := br.fr 2
 have f3 := br.fr 3
 have HBD : Hid (Below D w w2) := hbD
 have HO : Hid (TksOwn w2 W1.heap.size (.slice va d.1.length vc) xs ∧ xs.map (·.1) = d.1 ∧ ApartR (xs.map tvT)) := ⟨ho, hx, hap⟩
 clear hbD br hb ho hx hap HR
 go_wp2
 obtain ⟨X, hX, y0, y1, y2, y3, hg⟩ := set4 (.slice va d.1.length vc) (.int .i64 d.2.1) (.int .i64 d.2.2.1) (.string ⟨d.2.2.2.toArray⟩) r0 r1 r2 r3
 rw [hX]
 refine bodyPost_ret (v := .tuple #[.agg #[.slice va d.1.length vc, .int .i64 d.2.1, .int .i64 d.2.2.1, .string ⟨d.2.2.2.toArray⟩], .bool ok]) (by simp [results, Tryz.results8, go_sem, y0, y1, y2, y3]) rfl ?_
 have hk := HO.out.1.kept hg (own_offR HO.out.1.row (by omega)) (fun y hy => own_offR (HO.out.1.trees y hy) (by omega))
 exact ⟨_, rfl, va, vc, xs, rfl, HO.out.2.1, hk.base (by omega), HO.out.2.2, by rw [hD]; exact HBD.out.grown hg (by have := HBD.out.size; omega) (fun k e => by injection e with e; omega)⟩

end Go.Proofs.YtdoghjpjepolbaaGreatDoor

/-! The laws' own helpers over tasks: eqInt64S at numbers that can be read, eqTask, eqTaskS, eqDesk. -/
namespace Go.Proofs.YtdoghjpjepolbaaGreatDoor
open Go.RowKit

set_option maxHeartbeats 1000000 in
set_option maxRecDepth 100000 in
theorem eqAsC (a b : Option Addr) (ca cb : Nat) (ls : List Int) (w : World) (hn : ls.length ≤ 4194304) (ha : AsIn w a ls) (hb : AsIn w b ls) :
 Calls Tryz.prog 84 #[.slice a ls.length ca, .slice b ls.length cb] w fun e w' => e = .returned (.bool true) ∧ Below w.heap.size w w' := by
 have hself : ∀ n : Int, (n != n) = false := by simp
 have HA : Hid (AsIn w a ls) := ha
 have HB : Hid (AsIn w b ls) := hb
 clear ha hb
 go_enter Tryz.func84, Tryz.ntmps84
 go_wp2
 go_loopw [5] (fun i wr => ∃ k : Nat, k ≤ ls.length ∧ i = .int .i64 k ∧ Below w.heap.size w wr) (fun i _ => ls.length - (intOf i).toNat)
 case atStart => exact ⟨0, Nat.zero_le _, rfl, Below.refl _ _⟩
 case round =>
  obtain ⟨k, hk, rfl, hg⟩ := hrel
  by_cases hlt : (k : Int) < (ls.length : Int)
  ·
   obtain ⟨b1, o1, rfl, hb1, hca⟩ := (HA.out.below hg) k (by omega)
   obtain ⟨b2, o2, rfl, hb2, hcb⟩ := (HB.out.below hg) k (by omega)
   obtain ⟨t, ht⟩ : ∃ t, ls.getD k 0 = t := ⟨_, rfl⟩
   rw [ht] at hca hcb
   clear ht
   go_wp2
   go_region
   all_goals (try go_wp2)
   go_roundw
   case rel => exact ⟨k + 1, by omega, by go_num, hg.trans ⟨rfl, rfl, rfl, Nat.le_refl _, fun _ _ => rfl⟩⟩
   case measure => simp [intOf]; omega
  ·
   go_wp2
   go_ret
   exact ⟨rfl, hg⟩

set_option maxHeartbeats 1000000 in
set_option maxRecDepth 100000 in
theorem eqTaskC (s : List UInt8) (ns : List Int) (na nb : Option Addr) (ca cb : Nat) (st wk un ke : Int) (w : World) (ha : AsIn w na ns) (hb : AsIn w nb ns) (hlen : ns.length ≤ 4194304) :
 Calls Tryz.prog 46 #[.agg #[.string ⟨s.toArray⟩, .slice na ns.length ca, .int .i64 st, .int .i64 wk, .int .i64 un, .int .i64 ke], .agg #[.string ⟨s.toArray⟩, .slice nb ns.length cb, .int .i64 st, .int .i64 wk, .int .i64 un, .int .i64 ke]] w fun e w' => e = .returned (.bool true) ∧ Below w.heap.size w w' := by
 have h1 : ∀ n : Int, (n != n) = false := by simp
 have h2 : ∀ l : List UInt8, (l != l) = false := by simp
 obtain ⟨D, hD⟩ : ∃ D, w.heap.size = D := ⟨_, rfl⟩
 obtain ⟨W1, hW1⟩ : ∃ W, w.alloc (.cells #[.string ⟨s.toArray⟩, .slice na ns.length ca, .int .i64 st, .int .i64 wk, .int .i64 un, .int .i64 ke] 70) = W := ⟨_, rfl⟩
 have hs1 : W1.heap.size = D + 1 := by rw [← hW1, ← hD]; simp
 have hb1 : Below w.heap.size w W1 := by rw [← hW1]; exact (Below.refl _ _).alloc (Nat.le_refl _) _
 have hA1 : W1.heap[D]? = some (.cells #[.string ⟨s.toArray⟩, .slice na ns.length ca, .int .i64 st, .int .i64 wk, .int .i64 un, .int .i64 ke] 70) := by rw [← hW1, ← hD]; exact heap_alloc_new w _
 obtain ⟨W, hW⟩ : ∃ W, W1.alloc (.cells #[.string ⟨s.toArray⟩, .slice nb ns.length cb, .int .i64 st, .int .i64 wk, .int .i64 un, .int .i64 ke] 70) = W := ⟨_, rfl⟩
 have hb2 : Below W1.heap.size W1 W := by rw [← hW]; exact (Below.refl _ _).alloc (Nat.le_refl _) _
 have hB2 : W.heap[D + 1]? = some (.cells #[.string ⟨s.toArray⟩, .slice nb ns.length cb, .int .i64 st, .int .i64 wk, .int .i64 un, .int .i64 ke] 70) := by rw [← hs1, ← hW]; exact heap_alloc_new W1 _
 have hA2 : W.heap[D]? = some (.cells #[.string ⟨s.toArray⟩, .slice na ns.length ca, .int .i64 st, .int .i64 wk, .int .i64 un, .int .i64 ke] 70) := (hb2.block _ (by omega)).trans hA1
 have hbW : Below w.heap.size w W := hb1.trans (hb2.mono hb1.size)
 have hsW : W.heap.size = D + 2 := by rw [← hW]; simp [hs1]
 have HX : Hid (∀ Z, Below W.heap.size W Z → Z.cell? ⟨D, 2, none⟩ = some (.int .i64 st) ∧ Z.cell? ⟨D, 3, none⟩ = some (.int .i64 wk) ∧ Z.cell? ⟨D, 4, none⟩ = some (.int .i64 un) ∧ Z.cell? ⟨D, 5, none⟩ = some (.int .i64 ke) ∧ Z.cell? ⟨D + 1, 2, none⟩ = some (.int .i64 st) ∧ Z.cell? ⟨D + 1, 3, none⟩ = some (.int .i64 wk) ∧ Z.cell? ⟨D + 1, 4, none⟩ = some (.int .i64 un) ∧ Z.cell? ⟨D + 1, 5, none⟩ = some (.int .i64 ke)) := fun Z hz => by
  have e1 := (hz.block D (by omega)).trans hA2
  have e2 := (hz.block (D + 1) (by omega)).trans hB2
  simp [World.cell?, e1, e2]
 have k0 : W.cell? ⟨D, 0, none⟩ = some (.string ⟨s.toArray⟩) := by simp [World.cell?, hA2]
 have k1 : W.cell? ⟨D, 1, none⟩ = some (.slice na ns.length ca) := by simp [World.cell?, hA2]
 have l0 : W.cell? ⟨D + 1, 0, none⟩ = some (.string ⟨s.toArray⟩) := by simp [World.cell?, hB2]
 have l1 : W.cell? ⟨D + 1, 1, none⟩ = some (.slice nb ns.length cb) := by simp [World.cell?, hB2]
 have HC : Hid (_) := eqAsC na nb ca cb ns W hlen (ha.below hbW) (hb.below hbW)
 have HB : Hid (Below w.heap.size w W) := hbW
 clear ha hb hb1 hA1 hb2 hB2 hA2 hbW
 go_enter Tryz.func46, Tryz.ntmps46
 go_wp2_with fail
 refine Calls.mono HC.out ?_
 rintro e w1 ⟨rfl, hb1⟩
 obtain ⟨x2, x3, x4, x5, y2, y3, y4, y5⟩ := HX.out w1 hb1
 have HBd : Hid (Below w.heap.size w w1) := HB.out.trans (hb1.mono HB.out.size)
 clear HC hb1 HX
 go_wp2
 go_ret
 exact ⟨rfl, HBd.out⟩

set_option maxHeartbeats 2000000 in
set_option maxRecDepth 100000 in
theorem eqTaskSC (a b : Option Addr) (len ca cb : Nat) (fs : List Ta) (w : World) (ha : TasksIn w a len fs) (hb : TasksIn w b len fs) (hlen : len ≤ 4194304) (hsh : ∀ j, (fs.getD j ta0).2.1.length ≤ 4194304) :
 Calls Tryz.prog 21 #[.slice a len ca, .slice b len cb] w fun e w' => e = .returned (.bool true) ∧ Below w.heap.size w w' := by
 have HA : Hid (TasksIn w a len fs) := ha
 have HB : Hid (TasksIn w b len fs) := hb
 have HSH : Hid (∀ j, (fs.getD j ta0).2.1.length ≤ 4194304) := hsh
 clear ha hb hsh
 have h1 : ((len : Int) != (len : Int)) = false := by simp
 go_enter Tryz.func21, Tryz.ntmps21
 go_wp2
 go_loopw [5] (fun i wr => ∃ k : Nat, k ≤ len ∧ i = .int .i64 k ∧ Below w.heap.size w wr) (fun i _ => len - (intOf i).toNat)
 case atStart => exact ⟨0, Nat.zero_le _, rfl, Below.refl _ _⟩
 case round =>
  obtain ⟨k, hk, rfl, hB⟩ := hrel
  by_cases hkl : (k : Int) < (len : Int)
  ·
   obtain ⟨b1, o1, rfl, hb1, x0, ⟨na, nc, x1, hn1⟩, x2, x3, x4, x5⟩ := (HA.out.below hB).2 k (by omega)
   obtain ⟨b2, o2, rfl, hb2, y0, ⟨nb, nd, y1, hn2⟩, y2, y3, y4, y5⟩ := (HB.out.below hB).2 k (by omega)
   have hts := HSH.out k
   obtain ⟨f, hf⟩ : ∃ f, fs.getD k ta0 = f := ⟨_, rfl⟩
   rw [hf] at x0 x1 x2 x3 x4 x5 y0 y1 y2 y3 y4 y5 hn1 hn2 hts
   obtain ⟨s, ns, st, wk, un, ke⟩ := f
   simp only at x0 x1 x2 x3 x4 x5 y0 y1 y2 y3 y4 y5 hn1 hn2 hts
   have HC : Hid (∀ Z, Below wr.heap.size wr Z → _) := fun Z hz => eqTaskC s ns na nb nc nd st wk un ke Z (hn1.below hz) (hn2.below hz) hts
   have hdr : Below wr.heap.size wr wr.drew := ⟨rfl, rfl, rfl, Nat.le_refl _, fun _ _ => rfl⟩
   clear hf hn1 hn2 hts
   go_wp2
   go_region_held3 (fun w' => w'.cell? ⟨b1, o1 + k * 6, none⟩ = some (.string ⟨s.toArray⟩) ∧ w'.cell? ⟨b1, o1 + k * 6 + 1, none⟩ = some (.slice na ns.length nc) ∧ w'.cell? ⟨b1, o1 + k * 6 + 2, none⟩ = some (.int .i64 st) ∧ w'.cell? ⟨b1, o1 + k * 6 + 3, none⟩ = some (.int .i64 wk) ∧ w'.cell? ⟨b1, o1 + k * 6 + 4, none⟩ = some (.int .i64 un) ∧ w'.cell? ⟨b1, o1 + k * 6 + 5, none⟩ = some (.int .i64 ke) ∧ w'.cell? ⟨b2, o2 + k * 6, none⟩ = some (.string ⟨s.toArray⟩) ∧ w'.cell? ⟨b2, o2 + k * 6 + 1, none⟩ = some (.slice nb ns.length nd) ∧ w'.cell? ⟨b2, o2 + k * 6 + 2, none⟩ = some (.int .i64 st) ∧ w'.cell? ⟨b2, o2 + k * 6 + 3, none⟩ = some (.int .i64 wk) ∧ w'.cell? ⟨b2, o2 + k * 6 + 4, none⟩ = some (.int .i64 un) ∧ w'.cell? ⟨b2, o2 + k * 6 + 5, none⟩ = some (.int .i64 ke)) (go_keep) (first | (go_at_call 46; refine Calls.mono (HC.out _ hdr) ?_; rintro e w1 ⟨rfl, hw1⟩; have d0 := (hw1.cell (p := ⟨b1, o1 + k * 6, none⟩) hb1).trans x0; have d1 := (hw1.cell (p := ⟨b1, o1 + k * 6 + 1, none⟩) hb1).trans x1; have d2 := (hw1.cell (p := ⟨b1, o1 + k * 6 + 2, none⟩) hb1).trans x2; have d3 := (hw1.cell (p := ⟨b1, o1 + k * 6 + 3, none⟩) hb1).trans x3; have d4 := (hw1.cell (p := ⟨b1, o1 + k * 6 + 4, none⟩) hb1).trans x4; have d5 := (hw1.cell (p := ⟨b1, o1 + k * 6 + 5, none⟩) hb1).trans x5; have e0 := (hw1.cell (p := ⟨b2, o2 + k * 6, none⟩) hb2).trans y0; have e1 := (hw1.cell (p := ⟨b2, o2 + k * 6 + 1, none⟩) hb2).trans y1; have e2 := (hw1.cell (p := ⟨b2, o2 + k * 6 + 2, none⟩) hb2).trans y2; have e3 := (hw1.cell (p := ⟨b2, o2 + k * 6 + 3, none⟩) hb2).trans y3; have e4 := (hw1.cell (p := ⟨b2, o2 + k * 6 + 4, none⟩) hb2).trans y4; have e5 := (hw1.cell (p := ⟨b2, o2 + k * 6 + 5, none⟩) hb2).trans y5))
   all_goals go_wp2
   go_roundw
   case rel => exact ⟨k + 1, by omega, by go_num, hB.trans ⟨hw1.os, hw1.tape, hw1.output, hw1.size, fun q hq => hw1.block q (by have := hB.size; show q < wr.heap.size; omega)⟩⟩
   case measure => simp [intOf]; omega
  ·
   go_wp2
   go_ret
   exact ⟨rfl, hB⟩

set_option maxHeartbeats 1000000 in
set_option maxRecDepth 100000 in
theorem eqDeskC (a b : Option Addr) (len ca cb : Nat) (fs : List Ta) (ep nw : Int) (jr : List UInt8) (w : World) (ha : TasksIn w a len fs) (hb : TasksIn w b len fs) (hlen : len ≤ 4194304) (hsh : ∀ j, (fs.getD j ta0).2.1.length ≤ 4194304) :
 Calls Tryz.prog 9 #[.agg #[.slice a len ca, .int .i64 ep, .int .i64 nw, .string ⟨jr.toArray⟩], .agg #[.slice b len cb, .int .i64 ep, .int .i64 nw, .string ⟨jr.toArray⟩]] w fun e w' => e = .returned (.bool true) ∧ Below w.heap.size w w' := by
 have h1 : ∀ n : Int, (n != n) = false := by simp
 have h2 : ∀ l : List UInt8, (l != l) = false := by simp
 obtain ⟨D, hD⟩ : ∃ D, w.heap.size = D := ⟨_, rfl⟩
 obtain ⟨W1, hW1⟩ : ∃ W, w.alloc (.cells #[.slice a len ca, .int .i64 ep, .int .i64 nw, .string ⟨jr.toArray⟩] 26) = W := ⟨_, rfl⟩
 have hs1 : W1.heap.size = D + 1 := by rw [← hW1, ← hD]; simp
 have hb1 : Below w.heap.size w W1 := by rw [← hW1]; exact (Below.refl _ _).alloc (Nat.le_refl _) _
 have hA1 : W1.heap[D]? = some (.cells #[.slice a len ca, .int .i64 ep, .int .i64 nw, .string ⟨jr.toArray⟩] 26) := by rw [← hW1, ← hD]; exact heap_alloc_new w _
 obtain ⟨W, hW⟩ : ∃ W, W1.alloc (.cells #[.slice b len cb, .int .i64 ep, .int .i64 nw, .string ⟨jr.toArray⟩] 26) = W := ⟨_, rfl⟩
 have hb2 : Below W1.heap.size W1 W := by rw [← hW]; exact (Below.refl _ _).alloc (Nat.le_refl _) _
 have hB2 : W.heap[D + 1]? = some (.cells #[.slice b len cb, .int .i64 ep, .int .i64 nw, .string ⟨jr.toArray⟩] 26) := by rw [← hs1, ← hW]; exact heap_alloc_new W1 _
 have hA2 : W.heap[D]? = some (.cells #[.slice a len ca, .int .i64 ep, .int .i64 nw, .string ⟨jr.toArray⟩] 26) := (hb2.block _ (by omega)).trans hA1
 have hbW : Below w.heap.size w W := hb1.trans (hb2.mono hb1.size)
 have hsW : W.heap.size = D + 2 := by rw [← hW]; simp [hs1]
 have HX : Hid (∀ Z, Below W.heap.size W Z → Z.cell? ⟨D, 1, none⟩ = some (.int .i64 ep) ∧ Z.cell? ⟨D, 2, none⟩ = some (.int .i64 nw) ∧ Z.cell? ⟨D, 3, none⟩ = some (.string ⟨jr.toArray⟩) ∧ Z.cell? ⟨D + 1, 1, none⟩ = some (.int .i64 ep) ∧ Z.cell? ⟨D + 1, 2, none⟩ = some (.int .i64 nw) ∧ Z.cell? ⟨D + 1, 3, none⟩ = some (.string ⟨jr.toArray⟩)) := fun Z hz => by
  have e1 := (hz.block D (by omega)).trans hA2
  have e2 := (hz.block (D + 1) (by omega)).trans hB2
  simp [World.cell?, e1, e2]
 have k0 : W.cell? ⟨D, 0, none⟩ = some (.slice a len ca) := by simp [World.cell?, hA2]
 have l0 : W.cell? ⟨D + 1, 0, none⟩ = some (.slice b len cb) := by simp [World.cell?, hB2]
 have HC : Hid (_) := eqTaskSC a b len ca cb fs W (ha.below hbW) (hb.below hbW) hlen hsh
 have HB : Hid (Below w.heap.size w W) := hbW
 clear ha hb hb1 hA1 hb2 hB2 hA2 hbW hsh
 go_enter Tryz.func9, Tryz.ntmps9
 go_wp2_with fail
 refine Calls.mono HC.out ?_
 rintro e w1 ⟨rfl, hb1⟩
 obtain ⟨x1, x2, x3, y1, y2, y3⟩ := HX.out w1 hb1
 have HBd : Hid (Below w.heap.size w w1) := HB.out.trans (hb1.mono HB.out.size)
 clear HC hb1 HX
 go_wp2
 go_ret
 exact ⟨rfl, HBd.out⟩

end Go.Proofs.YtdoghjpjepolbaaGreatDoor

/-! A desk that came in, as the walks take it. -/
namespace Go.Proofs.YtdoghjpjepolbaaGreatDoor
open Go.ChangeShapes Go.WideShapes Go.ChangeAt Go.RowKit Go.Joins Go.Deep

def IntTa (t : Ta) : Prop := (∀ x ∈ t.2.1, (Lit.int .i64 x).wf = true) ∧ (-9223372036854775808 ≤ t.2.2.1 ∧ t.2.2.1 ≤ 9223372036854775807) ∧ (-9223372036854775808 ≤ t.2.2.2.1 ∧ t.2.2.2.1 ≤ 9223372036854775807) ∧ (-9223372036854775808 ≤ t.2.2.2.2.1 ∧ t.2.2.2.2.1 ≤ 9223372036854775807) ∧ (-9223372036854775808 ≤ t.2.2.2.2.2 ∧ t.2.2.2.2.2 ≤ 9223372036854775807)
def IntTas (ts : List Ta) : Prop := ∀ j, IntTa (ts.getD j ta0)
section
variable {H : Type} {enc : TypeId × Value → H} {W : World} {base : Nat} {spare : Nat → Bool} {held : Bool} {fuel : Nat} {v : Value} {x : DataW H × List MemPlace}
end

end Go.Proofs.YtdoghjpjepolbaaGreatDoor
