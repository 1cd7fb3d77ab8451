/-
  Parts of one proof, one behind the other: TreeI3, ImpI, PackI.
-/
import Derived.Test.YtdoghjpjepolbaaGreatDoorP15
import Derived.Test.YtdoghjpjepolbaaGreatDoorP2
import Derived.Test.YtdoghjpjepolbaaGreatDoorP14
import Derived.Test.YtdoghjpjepolbaaGreatDoorP11
import Derived.Deep.RegionHeld3

/-! The contracts of chapter 6's landed code: NodeOk, KidsOf, EndOf, TreeOk, PartsOf. -/
namespace Go.Proofs.YtdoghjpjepolbaaGreatDoor
open Go.RowKit

theorem implNodeOk (n : Nd) (w : World) (_hi : IntN n) (hp : n.2.2.1.length ≤ 1048576) (hf : n.2.2.2.length ≤ 1048576) :
 Calls Tryz.prog 199 #[nodeVal n] w fun e w' => e = .returned (.bool (nodeB n)) ∧ Below w.heap.size w w' := by
 obtain ⟨k, a, p, f⟩ := n
 rcases shOf_kinds (k, a, p, f) with ⟨_, e⟩ | ⟨_, e⟩ | ⟨_, e⟩ | ⟨_, e⟩ | ⟨_, e⟩ | ⟨_, e⟩
 ·
  rcases hs : shOk (.num a) with _ | _
  ·
   exact nodeOk_num_no k a p f a w e hs
  ·
   exact nodeOk_num_yes k a p f a w e hs
 ·
  rcases hs : shOk (.arg a) with _ | _
  ·
   exact nodeOk_arg_no k a p f a w e hs
  ·
   exact nodeOk_arg_yes k a p f a w e hs
 ·
  exact nodeOk_pair_yes k a p f k w e rfl
 ·
  exact nodeOk_cond_yes k a p f w e rfl
 ·
  rcases hs : shOk (.call p f a) with _ | _
  ·
   exact nodeOk_call_no k a p f p f a w e hs hp hf
  ·
   exact nodeOk_call_yes k a p f p f a w e hs hp hf
 ·
  exact nodeOk_no_no k a p f w e rfl

set_option maxHeartbeats 1000000 in
set_option maxRecDepth 100000 in
theorem implKidsOf (n : Nd) (w : World) (hi : IntN n) (hp : n.2.2.1.length ≤ 1048576) (hf : n.2.2.2.length ≤ 1048576) :
 Calls Tryz.prog 198 #[nodeVal n] w fun e w' => e = .returned (.int .i64 (kidsOfV n)) ∧ Below w.heap.size w w' := by
 have HC : Hid (_) := fun W : World => implNodeOk n W hi hp hf
 have HS : Hid (_) := fun W : World => implShapeOf n W
 have HV : Hid (nodeB n = false → kidsOfV n = -1) := fun h => by unfold kidsOfV; rw [if_neg (by rw [h]; simp)]
 have HV2 : Hid (nodeB n = true → kidsOfV n = shKids (shOf n)) := fun h => by unfold kidsOfV; rw [if_pos h, kids_sh h]
 generalize nodeB n = nb at HC HV HV2
 generalize shOf n = s at HS HV2
 have HK : Hid (_) := fun W : World => implKidsOfShape s W
 obtain ⟨k, a, p, f⟩ := n
 unfold nodeVal at HC HS ⊢
 simp only at HC HS ⊢
 clear hi hp hf
 obtain ⟨W0, hW0⟩ : ∃ W0, w.alloc (.cells #[.int .i64 k, .int .i64 a, .string ⟨p.toArray⟩, .string ⟨f.toArray⟩] 117) = W0 := ⟨_, rfl⟩
 have st := NdAt.new w k a p f
 have hB : Below w.heap.size w W0 := by rw [← hW0]; exact (Below.refl _ w).alloc (Nat.le_refl _) _
 rw [hW0] at st
 obtain ⟨D, hD0⟩ : ∃ D, w.heap.size = D := ⟨_, rfl⟩
 rw [hD0] at st hB
 have hD : Hid (w.heap.size = D) := hD0
 have c0 := st.c0
 have c1 := st.c1
 have c2 := st.c2
 have c3 := st.c3
 go_enter Tryz.func198, Tryz.ntmps198
 go_wp2_with fail
 refine Calls.mono (HC.out _) ?_
 rintro e wn ⟨rfl, hbn⟩
 replace hB := hB.trans (hbn.mono (Nat.le_trans (Nat.le_of_eq hD.out.symm) hB.size))
 replace st := st.below hbn
 replace c0 := st.c0
 replace c1 := st.c1
 replace c2 := st.c2
 replace c3 := st.c3
 clear hbn
 rcases nb with _ | _
 ·
  have HO : Hid (kidsOfV (k, a, p, f) = -1) := HV.out rfl
  go_wp2
  go_ret
  exact ⟨by rw [HO.out]; rfl, by rw [hD.out]; exact hB⟩
 ·
  have HO : Hid (kidsOfV (k, a, p, f) = shKids s) := HV2.out rfl
  go_wp2_with fail
  refine Calls.mono (HS.out _) ?_
  rintro e wn ⟨rfl, hbn⟩
  replace hB := hB.trans (hbn.mono (Nat.le_trans (Nat.le_of_eq hD.out.symm) hB.size))
  clear hbn st c0 c1 c2 c3
  go_wp2_with fail
  refine Calls.mono (HK.out _) ?_
  rintro e wn ⟨rfl, hbn⟩
  replace hB := hB.trans (hbn.mono (Nat.le_trans (Nat.le_of_eq hD.out.symm) hB.size))
  go_wp2
  go_ret
  exact ⟨by rw [HO.out]; rfl, by rw [hD.out]; exact hB⟩

theorem kids_of (n : Nd) : (nodeB n = false ∧ kidsOfV n = -1) ∨ (nodeB n = true ∧ kidsOfV n = (kidsN n : Int) ∧ kidsN n ≤ 3) := by
 rcases h : nodeB n with _ | _
 ·
  exact Or.inl ⟨rfl, by unfold kidsOfV; rw [if_neg (by rw [h]; simp)]⟩
 ·
  obtain ⟨h1, h2⟩ := kidsV_ok h
  exact Or.inr ⟨rfl, by unfold kidsOfV; rw [if_pos h]; exact h1, h2⟩

set_option maxHeartbeats 2000000 in
set_option maxRecDepth 100000 in
theorem implEndOf (a : Option Addr) (len cap : Nat) (ns : List Nd) (at_ : Int) (w : World) (hin : NodesIn w a len ns) (hint : IntT ns) (hsh : ShortT ns) (hlen : len ≤ 1048576) (hat : -9223372036854775808 ≤ at_ ∧ at_ ≤ 9223372036854775807) :
 Calls Tryz.prog 197 #[.slice a len cap, .int .i64 at_] w fun e w' => e = .returned (.int .i64 (endV ns at_)) ∧ Below w.heap.size w w' := by
 obtain rfl : ns.length = len := hin.1
 by_cases h0 : at_ < 0
 ·
  have HE : Hid (endV ns at_ = -1) := endV_out ns at_ (Or.inl h0)
  go_enter Tryz.func197, Tryz.ntmps197
  go_wp2
  go_ret
  exact ⟨by rw [HE.out]; rfl, Below.refl _ _⟩
 ·
  obtain ⟨k0, rfl⟩ : ∃ k0 : Nat, at_ = (k0 : Int) := Int.eq_ofNat_of_zero_le (by omega)
  have h0' : ¬ (k0 : Int) < 0 := by omega
  have HE : Hid (endTo ns k0 1 = endV ns (k0 : Int)) := by
   by_cases hk : k0 < ns.length
   ·
    exact endTo_start hk
   ·
    exact (by rw [endTo_over (by omega), endV_out ns (k0 : Int) (Or.inr (by omega))] : endTo ns k0 1 = endV ns (k0 : Int))
  have HI : Hid (NodesIn w a ns.length ns) := hin
  have HS : Hid (ShortT ns) := hsh
  have HN0 : Hid (IntT ns) := hint
  clear hin hsh hint h0
  go_enter Tryz.func197, Tryz.ntmps197
  go_wp2
  go_loopw [1, 5] (fun av ov wr => ∃ k o : Nat, av = .int .i64 k ∧ ov = .int .i64 o ∧ (k ≤ ns.length ∨ (k = k0 ∧ o = 1)) ∧ o ≤ 1 + 3 * k ∧ Hid (endTo ns k o = endV ns (k0 : Int)) ∧ Below w.heap.size w wr) (fun av _ _ => ns.length - (intOf av).toNat)
  case atStart => exact ⟨k0, 1, rfl, rfl, Or.inr ⟨rfl, rfl⟩, by omega, HE, Below.refl _ _⟩
  case round =>
   obtain ⟨k, o, rfl, rfl, hk, ho, HT, hb⟩ := hrel
   clear HE
   by_cases hoz : o = 0
   ·
    subst hoz
    have HF : Hid ((k : Int) = endV ns (k0 : Int)) := by exact (by rw [← HT.out, endTo_zero] : (k : Int) = endV ns (k0 : Int))
    go_wp2
    go_ret
    exact ⟨by rw [← HF.out]; rfl, hb⟩
   ·
    obtain ⟨o', rfl⟩ : ∃ o', o = o' + 1 := ⟨o - 1, by omega⟩
    have ho1 : (0 : Int) < ((o' + 1 : Nat) : Int) := by omega
    by_cases hkl : (ns.length : Int) ≤ (k : Int)
    ·
     have HF : Hid (endV ns (k0 : Int) = -1) := by exact (by rw [← HT.out, endTo_over (by omega)] : endV ns (k0 : Int) = -1)
     clear hoz
     go_wp2
     go_ret
     exact ⟨by rw [HF.out]; rfl, hb⟩
    ·
     obtain ⟨b, off, rfl, hbl, hcells⟩ := (HI.out.below hb).at (by omega)
     obtain ⟨c0, c1, c2, c3⟩ := hcells k (by omega)
     have hs := HS.out k
     have hz := HN0.out k
     obtain ⟨n, hn⟩ : ∃ n, ns.getD k nd0 = n := ⟨_, rfl⟩
     rw [hn] at c0 c1 c2 c3 hs hz
     have HN : Hid (ns.getD k nd0 = n) := hn
     have HC : Hid (_) := fun W : World => implKidsOf n W hz hs.1 hs.2
     have HK : Hid (_) := kids_of n
     generalize hkn : kidsOfV n = kn at HC HK
     obtain ⟨kd, aa, p, f⟩ := n
     unfold nodeVal at HC
     simp only at c0 c1 c2 c3 HC
     clear hn hcells hoz hs hz hkn
     go_wp2_with fail
     refine Calls.mono (HC.out _) ?_
     rintro e w1 ⟨rfl, hb1⟩
     have hB1 := hb.trans (hb1.mono hb.size)
     clear c0 c1 c2 c3 hb1 hb HC
     rcases HK.out with ⟨hnb, rfl⟩ | ⟨hnb, rfl, hk3⟩
     ·
      have HF : Hid (endV ns (k0 : Int) = -1) := by exact (by rw [← HT.out, endTo_bad (by omega) (by rw [HN.out]; exact hnb)] : endV ns (k0 : Int) = -1)
      clear hnb
      go_wp2
      go_ret
      exact ⟨by rw [HF.out]; rfl, hB1⟩
     ·
      have HT2 : Hid (endTo ns (k + 1) (o' + kidsN (kd, aa, p, f)) = endV ns (k0 : Int)) := by
       have := endTo_round (o := o') (show k < ns.length by omega) (by rw [HN.out]; exact hnb)
       rw [HN.out] at this
       exact (by rw [← this]; exact HT.out : endTo ns (k + 1) (o' + kidsN (kd, aa, p, f)) = endV ns (k0 : Int))
      clear hnb
      generalize kidsN (kd, aa, p, f) = q at hk3 HT2 ⊢
      have hq1 : ((q : Int) == -1) = false := beq_eq_false_iff_ne.2 (by omega)
      have hkk : k ≤ ns.length := by omega
      clear hk HK
      go_wp2
      go_roundw
      case rel => exact ⟨k + 1, o' + q, by go_num, by go_num, Or.inl (by omega), by omega, HT2, hB1⟩
      case measure => simp [intOf]; omega

theorem treeB_many (ns : List Nd) (h : ¬ (1 ≤ ns.length ∧ ns.length ≤ 60)) : treeB ns = false := decide_eq_false (fun g => h g.1)
theorem treeB_end (ns : List Nd) (h : 1 ≤ ns.length ∧ ns.length ≤ 60) : treeB ns = (endV ns 0 == (ns.length : Int)) := by
 rw [Bool.eq_iff_iff, beq_iff_eq]
 unfold treeB
 rw [decide_eq_true_iff]
 exact ⟨fun g => g.2, fun g => ⟨h, g⟩⟩

set_option maxHeartbeats 1000000 in
set_option maxRecDepth 100000 in
theorem implTreeOk (a : Option Addr) (len cap : Nat) (ns : List Nd) (w : World) (hin : NodesIn w a len ns) (hint : IntT ns) (hsh : ShortT ns) (hlen : len ≤ 1048576) :
 Calls Tryz.prog 196 #[.slice a len cap] w fun e w' => e = .returned (.bool (treeB ns)) ∧ Below w.heap.size w w' := by
 obtain rfl : ns.length = len := hin.1
 have HC : Hid (_) := implEndOf a ns.length cap ns 0 w hin hint hsh hlen (by omega)
 by_cases h1 : (1 : Int) ≤ (ns.length : Int)
 ·
  by_cases h2 : (ns.length : Int) ≤ 60
  ·
   have HT : Hid (treeB ns = (endV ns 0 == (ns.length : Int))) := treeB_end ns (by omega)
   generalize endV ns 0 = e0 at HC HT
   clear hin hint hsh
   go_enter Tryz.func196, Tryz.ntmps196
   go_wp2_with fail
   refine Calls.mono HC.out ?_
   rintro e w1 ⟨rfl, hb1⟩
   go_wp2
   go_ret
   exact ⟨by rw [HT.out]; rfl, hb1⟩
  ·
   have HT : Hid (treeB ns = false) := treeB_many ns (by omega)
   clear hin hint hsh
   go_enter Tryz.func196, Tryz.ntmps196
   go_wp2
   go_ret
   exact ⟨by rw [HT.out]; rfl, Below.refl _ _⟩
 ·
  have HT : Hid (treeB ns = false) := treeB_many ns (by omega)
  clear hin hint hsh
  go_enter Tryz.func196, Tryz.ntmps196
  go_wp2
  go_ret
  exact ⟨by rw [HT.out]; rfl, Below.refl _ _⟩

end Go.Proofs.YtdoghjpjepolbaaGreatDoor

/-! The contracts of chapter 7's landed code: namesRise, importsOk. -/
namespace Go.Proofs.YtdoghjpjepolbaaGreatDoor
open Go.RowKit

/-- Names, and rising. -/
def risesB (ts : List (List UInt8)) : Bool := decide (∀ i, i < ts.length → nameB (ts.getD i []) = true) && riseB ts
theorem imports_rises (ts : List (List UInt8)) : importsB ts = (decide (ts.length ≤ 6) && risesB ts) := by
 unfold importsB risesB
 cases decide (∀ i, i < ts.length → nameB (ts.getD i []) = true) <;> cases decide (ts.length ≤ 6) <;> cases riseB ts <;> rfl
structure NrSt (ts : List (List UInt8)) (k : Nat) (z : List UInt8) : Prop where
 names : ∀ i, i < k → nameB (ts.getD i []) = true
 rise : ∀ i, i + 1 < k → leT (ts.getD (i + 1) []) (ts.getD i []) = false
 last : (k = 0 ∧ z = []) ∨ (0 < k ∧ z = ts.getD (k - 1) [])
theorem NrSt.noName {ts : List (List UInt8)} {k : Nat} (hk : k < ts.length) (hn : nameB (ts.getD k []) = false) : risesB ts = false := by
 unfold risesB
 rw [decide_eq_false (fun g => by rw [g k hk] at hn; cases hn)]
 rfl
theorem leT_nil {x : List UInt8} (h : nameB x = true) : leT x [] = false := by
 have h1 := (name_letters h).1.1
 cases x with
 | nil => simp at h1
 | cons c r => simp [leT, Op.bytesLess]
theorem NrSt.noRise {ts : List (List UInt8)} {k : Nat} {z : List UInt8} (h : NrSt ts k z) (hk : k < ts.length) (hn : nameB (ts.getD k []) = true) (hl : leT (ts.getD k []) z = true) : risesB ts = false := by
 rcases h.last with ⟨rfl, rfl⟩ | ⟨h0, rfl⟩
 ·
  rw [leT_nil hn] at hl; cases hl
 ·
  unfold risesB
  rw [riseB_no (j := k - 1) (by omega) (by rw [show k - 1 + 1 = k by omega]; exact hl), Bool.and_false]
theorem NrSt.step {ts : List (List UInt8)} {k : Nat} {z : List UInt8} (h : NrSt ts k z) (hn : nameB (ts.getD k []) = true) (hl : leT (ts.getD k []) z = false) : NrSt ts (k + 1) (ts.getD k []) := by
 refine ⟨fun i hi => ?_, fun i hi => ?_, Or.inr ⟨by omega, by rw [Nat.add_sub_cancel]⟩⟩
 ·
  rcases Nat.lt_or_ge i k with g | g
  ·
   exact h.names i g
  ·
   obtain rfl : i = k := by omega
   exact hn
 ·
  rcases Nat.lt_or_ge (i + 1) k with g | g
  ·
   exact h.rise i g
  ·
   obtain rfl : k = i + 1 := by omega
   rcases h.last with ⟨e, _⟩ | ⟨_, rfl⟩
   ·
    omega
   ·
    rw [Nat.add_sub_cancel] at hl; exact hl
theorem NrSt.all {ts : List (List UInt8)} {z : List UInt8} (h : NrSt ts ts.length z) : risesB ts = true := by
 unfold risesB
 rw [decide_eq_true h.names, riseB_yes (j := ts.length - 1) (by omega) (fun i hi => h.rise i (by omega))]
 rfl

set_option maxHeartbeats 2000000 in
set_option maxRecDepth 100000 in
theorem implNamesRise (a : Option Addr) (len cap : Nat) (ts : List (List UInt8)) (w : World) (hin : TextsIn w a len ts) (hlen : len ≤ 1048576) (hs : ∀ i, (ts.getD i []).length ≤ 1048576) :
 Calls Tryz.prog 191 #[.slice a len cap] w fun e w' => e = .returned (.bool (risesB ts)) ∧ w' = w := by
 obtain rfl : ts.length = len := hin.1
 have HI : Hid (TextsIn w a ts.length ts) := hin
 have HS : Hid (∀ i, (ts.getD i []).length ≤ 1048576) := hs
 clear hin hs
 go_enter Tryz.func191, Tryz.ntmps191
 go_wp2
 go_loopw [3, 8] (fun lv iv wr => ∃ k : Nat, iv = .int .i64 (k : Int) ∧ k ≤ ts.length ∧ (∃ z : List UInt8, lv = .string ⟨z.toArray⟩ ∧ Hid (NrSt ts k z)) ∧ wr = w) (fun _ iv _ => ts.length - (intOf iv).toNat)
 case atStart => exact ⟨0, rfl, by omega, ⟨[], rfl, (⟨fun i hi => by omega, fun i hi => by omega, Or.inl ⟨rfl, rfl⟩⟩ : NrSt ts 0 [])⟩, rfl⟩
 case round =>
  obtain ⟨k, rfl, hk, ⟨z, rfl, HZ⟩, rfl⟩ := hrel
  by_cases hlt : (k : Int) < (ts.length : Int)
  ·
   have hk2 : k < ts.length := by omega
   obtain ⟨b, off, rfl, hbl, c0⟩ := HI.out.2 k hk2
   have hxl := HS.out k
   obtain ⟨x, hx⟩ : ∃ x, ts.getD k [] = x := ⟨_, rfl⟩
   rw [hx] at c0 hxl
   have hC : Hid (_) := implNameOkS x wr hxl
   rcases hnb : nameB x with _ | _
   ·
    have HR : Hid (risesB ts = false) := NrSt.noName hk2 (by rw [hx]; exact hnb)
    rw [hnb] at hC
    clear hx hnb HZ
    go_wp2_with (go_at_call 101; refine Calls.mono hC.out ?_; rintro e w1 ⟨rfl, rfl⟩)
    go_ret
    exact ⟨by rw [HR.out]; rfl, rfl⟩
   ·
    rcases hle : leT x z with _ | _
    ·
     have HZ2 : Hid (NrSt ts (k + 1) x) := by
      have h := HZ.out.step (by rw [hx]; exact hnb) (by rw [hx]; exact hle)
      rw [hx] at h
      exact h
     rw [hnb] at hC
     unfold leT at hle
     clear hx hnb HZ
     go_wp2_with (go_at_call 101; refine Calls.mono hC.out ?_; rintro e w1 ⟨rfl, rfl⟩)
     go_roundw
     case rel => exact ⟨k + 1, by go_num, by omega, ⟨x, rfl, HZ2⟩, trivial⟩
     case measure => simp [intOf]; omega
    ·
     have HR : Hid (risesB ts = false) := HZ.out.noRise hk2 (by rw [hx]; exact hnb) (by rw [hx]; exact hle)
     rw [hnb] at hC
     unfold leT at hle
     clear hx hnb HZ
     go_wp2_with (go_at_call 101; refine Calls.mono hC.out ?_; rintro e w1 ⟨rfl, rfl⟩)
     go_ret
     exact ⟨by rw [HR.out]; rfl, rfl⟩
  ·
   obtain rfl : k = ts.length := by omega
   have HR : Hid (risesB ts = true) := HZ.out.all
   go_wp2
   go_ret
   exact ⟨by rw [HR.out]; rfl, rfl⟩

set_option maxHeartbeats 1000000 in
set_option maxRecDepth 100000 in
theorem implImportsOk (a : Option Addr) (len cap : Nat) (ts : List (List UInt8)) (w : World) (hin : TextsIn w a len ts) (hlen : len ≤ 1048576) (hs : ∀ i, (ts.getD i []).length ≤ 1048576) :
 Calls Tryz.prog 181 #[.slice a len cap] w fun e w' => e = .returned (.bool (importsB ts)) ∧ w' = w := by
 have hC : Hid (_) := implNamesRise a len cap ts w hin hlen hs
 obtain rfl : ts.length = len := hin.1
 have HR : Hid (importsB ts = (decide (ts.length ≤ 6) && risesB ts)) := imports_rises ts
 clear hin hs
 go_enter Tryz.func181, Tryz.ntmps181
 by_cases h6 : (ts.length : Int) ≤ 6
 ·
  have HD : Hid (decide (ts.length ≤ 6) = true) := decide_eq_true (by omega)
  go_wp2_with (go_at_call 191; refine Calls.mono hC.out ?_; rintro e w1 ⟨rfl, rfl⟩)
  go_ret
  exact ⟨by rw [HR.out, HD.out]; rfl, rfl⟩
 ·
  have HD : Hid (decide (ts.length ≤ 6) = false) := decide_eq_false (by omega)
  go_wp2
  go_ret
  exact ⟨by rw [HR.out, HD.out]; rfl, rfl⟩

end Go.Proofs.YtdoghjpjepolbaaGreatDoor

/-! The contracts of chapter 7's landed code: PackageOk and what it asks. -/
namespace Go.Proofs.YtdoghjpjepolbaaGreatDoor
open Go.RowKit

set_option maxHeartbeats 2000000 in
set_option maxRecDepth 100000 in
theorem implFuncOk (f : Fn) (ta : Option Addr) (tl tc : Nat) (w : World) (hin : NodesIn w ta tl f.2.2) (hint : IntT f.2.2) (hsh : ShortT f.2.2) (hlen : tl ≤ 1048576) (hn : f.1.length ≤ 1048576) :
 Calls Tryz.prog 192 #[.agg #[.string ⟨f.1.toArray⟩, .int .i64 f.2.1, .slice ta tl tc]] w fun e w' => e = .returned (.bool (funcB f)) ∧ Below w.heap.size w w' := by
 obtain ⟨s, n, t⟩ := f
 simp only at hin hint hsh hn ⊢
 obtain ⟨W, hW⟩ : ∃ W, w.alloc (.cells #[.string ⟨s.toArray⟩, .int .i64 n, .slice ta tl tc] 82) = W := ⟨_, rfl⟩
 have hbW : Below w.heap.size w W := by rw [← hW]; exact (Below.refl _ _).alloc (Nat.le_refl _) _
 have hA : W.heap[w.heap.size]? = some (.cells #[.string ⟨s.toArray⟩, .int .i64 n, .slice ta tl tc] 82) := by rw [← hW]; exact heap_alloc_new w _
 have c0 : W.cell? ⟨w.heap.size, 0, none⟩ = some (.string ⟨s.toArray⟩) := by simp [World.cell?, hA]
 have c1 : W.cell? ⟨w.heap.size, 1, none⟩ = some (.int .i64 n) := by simp [World.cell?, hA]
 have c2 : W.cell? ⟨w.heap.size, 2, none⟩ = some (.slice ta tl tc) := by simp [World.cell?, hA]
 have hC1 : Hid (_) := implNameOkS s W hn
 have hC3 : Hid (_) := implTreeOk ta tl tc t W (hin.below hbW) hint hsh hlen
 have HF : Hid (funcB (s, n, t) = (nameB s && (inB n 0 3 && treeB t))) := rfl
 have HN0 : Hid (n < 0 → inB n 0 3 = false) := fun h => inB_no _ _ _ (Or.inl h)
 have HN1 : Hid (3 < n → inB n 0 3 = false) := fun h => inB_no _ _ _ (Or.inr h)
 have HN2 : Hid (0 ≤ n → n ≤ 3 → inB n 0 3 = true) := fun h k => inB_yes _ _ _ h k
 generalize nameB s = nb at hC1 HF
 generalize inB n 0 3 = ib at HF HN0 HN1 HN2
 generalize treeB t = tb at hC3 HF
 clear hin hint hsh hA
 go_enter Tryz.func192, Tryz.ntmps192
 rcases nb with _ | _
 ·
  go_wp2_with (go_at_call 101; refine Calls.mono hC1.out ?_; rintro e w1 ⟨rfl, rfl⟩)
  go_ret
  exact ⟨by rw [HF.out]; rfl, hbW⟩
 ·
  by_cases h0 : 0 ≤ n
  ·
   by_cases h3 : n ≤ 3
   ·
    have hi := HN2.out h0 h3
    subst hi
    go_wp2_with (first | (go_at_call 101; refine Calls.mono hC1.out ?_; rintro e w1 ⟨rfl, rfl⟩) | (go_at_call 196; refine Calls.mono hC3.out ?_; rintro e w2 ⟨rfl, hb2⟩))
    go_ret
    exact ⟨by rw [HF.out]; rfl, hbW.trans (hb2.mono hbW.size)⟩
   ·
    have hi := HN1.out (by omega)
    subst hi
    go_wp2_with (go_at_call 101; refine Calls.mono hC1.out ?_; rintro e w1 ⟨rfl, rfl⟩)
    go_ret
    exact ⟨by rw [HF.out]; rfl, hbW⟩
  ·
   have hi := HN0.out (by omega)
   subst hi
   go_wp2_with (go_at_call 101; refine Calls.mono hC1.out ?_; rintro e w1 ⟨rfl, rfl⟩)
   go_ret
   exact ⟨by rw [HF.out]; rfl, hbW⟩

/-- The first of a name, ahead of a place and from it on. -/
theorem atGo_append (s : List UInt8) : ∀ (l r : List Fn) (k : Nat), (atGo s l k = -1 ∧ atGo s (l ++ r) k = atGo s r (k + l.length)) ∨ (0 ≤ atGo s l k ∧ atGo s l k < (k : Int) + l.length ∧ atGo s (l ++ r) k = atGo s l k)
 | [], r, k => Or.inl ⟨rfl, rfl⟩
 | f :: l, r, k => by
  by_cases h : f.1 = s
  ·
   refine Or.inr ?_
   simp only [List.cons_append, atGo, if_pos h, List.length_cons]
   exact ⟨by omega, by omega, trivial⟩
  ·
   simp only [List.cons_append, atGo, if_neg h, List.length_cons]
   rcases atGo_append s l r (k + 1) with ⟨a, b⟩ | ⟨a, b, c⟩
   ·
    exact Or.inl ⟨a, by rw [b, show k + 1 + l.length = k + (l.length + 1) by omega]⟩
   ·
    exact Or.inr ⟨a, by omega, c⟩
theorem at_first {fs : List Fn} {i : Nat} (hi : i < fs.length) {s : List UInt8} (hs : (fs.getD i fn0).1 = s) : atV (fs.take i) s = -1 ↔ atV fs s = (i : Int) := by
 have h := atGo_append s (fs.take i) (fs.drop i) 0
 rw [List.take_append_drop, List.length_take, Nat.min_eq_left (by omega), Nat.zero_add, atGo_drop hi, if_pos hs] at h
 unfold atV
 rcases h with ⟨a, b⟩ | ⟨a, b, c⟩
 ·
  exact ⟨fun _ => b, fun _ => a⟩
 ·
  exact ⟨fun e => by omega, fun e => by omega⟩
def fnsB (fs : List Fn) : Bool := inB (fs.length : Int) 1 8 && decide (∀ i, i < fs.length → funcsOk fs i)
theorem pkgB_fns (p : Pk) : pkgB p = (nameB p.1 && (importsB p.2.1 && fnsB p.2.2)) := by
 unfold pkgB fnsB
 cases nameB p.1 <;> cases importsB p.2.1 <;> cases inB (p.2.2.length : Int) 1 8 <;> rfl
theorem fnsB_few {fs : List Fn} (h : (fs.length : Int) < 1 ∨ 8 < (fs.length : Int)) : fnsB fs = false := by unfold fnsB; rw [inB_no _ _ _ h]; rfl
theorem fnsB_no {fs : List Fn} {j : Nat} (hj : j < fs.length) (h : ¬ funcsOk fs j) : fnsB fs = false := by unfold fnsB; rw [decide_eq_false (fun g => h (g j hj)), Bool.and_false]
theorem fnsB_yes {fs : List Fn} (h1 : 1 ≤ (fs.length : Int)) (h8 : (fs.length : Int) ≤ 8) (h : ∀ i, i < fs.length → funcsOk fs i) : fnsB fs = true := by unfold fnsB; rw [inB_yes _ _ _ h1 h8, decide_eq_true h]; rfl
theorem FuncsIn.take {w : World} {a : Option Addr} {len : Nat} {fs : List Fn} (h : FuncsIn w a len fs) {i : Nat} (hi : i ≤ len) : FuncsIn w a i (fs.take i) := by
 refine ⟨by rw [List.length_take, h.1]; omega, fun j hj => ?_⟩
 have e : (fs.take i).getD j fn0 = fs.getD j fn0 := by rw [List.getD_eq_getElem?_getD, List.getD_eq_getElem?_getD, List.getElem?_take, if_pos hj]
 rw [e]
 exact h.2 j (by omega)

set_option maxHeartbeats 2000000 in
set_option maxRecDepth 100000 in
theorem implPlaceOf (fa : Option Addr) (fl fc : Nat) (fs : List Fn) (s : List UInt8) (w : World) (hin : FuncsIn w fa fl fs) (hlen : fl ≤ 1048576) :
 Calls Tryz.prog 167 #[.slice fa fl fc, .string ⟨s.toArray⟩] w fun e w' => e = .returned (.int .i64 (atV fs s)) ∧ Below w.heap.size w w' := by
 obtain rfl : fs.length = fl := hin.1
 have HI : Hid (FuncsIn w fa fs.length fs) := hin
 clear hin
 go_enter Tryz.func167, Tryz.ntmps167
 go_wp2
 go_loopw [9] (fun iv wr => ∃ j : Nat, iv = .int .i64 (j : Int) ∧ j ≤ fs.length ∧ Hid (atV fs s = atGo s (fs.drop j) j) ∧ Hid (Below w.heap.size w wr)) (fun iv _ => fs.length - (intOf iv).toNat)
 case atStart => exact ⟨0, rfl, by omega, (rfl : atV fs s = atGo s (fs.drop 0) 0), Below.refl _ _⟩
 case round =>
  obtain ⟨j, rfl, hj, HA, HB⟩ := hrel
  by_cases hlt : (j : Int) < (fs.length : Int)
  ·
   obtain ⟨b, off, rfl, hbl, c0, c1, ta, tl, tc, c2, _, _⟩ := (HI.out.below HB.out).2 j (by omega)
   have hg := atGo_drop (fs := fs) (k := j) (by omega) s
   obtain ⟨x, hx⟩ : ∃ x, (fs.getD j fn0).1 = x := ⟨_, rfl⟩
   obtain ⟨n, hn⟩ : ∃ n, (fs.getD j fn0).2.1 = n := ⟨_, rfl⟩
   rw [hx] at c0 hg
   rw [hn] at c1
   obtain ⟨bx, hbx⟩ := Box3.new wr (.string ⟨x.toArray⟩) (.int .i64 n) (.slice ta tl tc) 82
   obtain ⟨X, hX⟩ : ∃ X, wr.alloc (.cells #[.string ⟨x.toArray⟩, .int .i64 n, .slice ta tl tc] 82) = X := ⟨_, rfl⟩
   rw [hX] at bx hbx
   have d0 := bx.c0
   have d1 := bx.c1
   have d2 := bx.c2
   have HB2 : Hid (Below w.heap.size w X) := HB.out.trans (hbx.mono HB.out.size)
   clear bx hbx
   by_cases hxs : x = s
   ·
    subst hxs
    have HR : Hid (atV fs x = (j : Int)) := by exact (by rw [HA.out, hg, if_pos rfl] : atV fs x = (j : Int))
    have hself : (x == x) = true := by simp
    clear HA hg hx hn
    go_wp2
    go_ret
    exact ⟨by rw [HR.out]; rfl, HB2.out⟩
   ·
    have HR : Hid (atV fs s = atGo s (fs.drop (j + 1)) (j + 1)) := by exact (by rw [HA.out, hg, if_neg hxs] : atV fs s = atGo s (fs.drop (j + 1)) (j + 1))
    have hne : (x == s) = false := by rw [beq_eq_false_iff_ne]; exact hxs
    clear HA hg hx hn
    go_wp2
    go_roundw
    case rel => exact ⟨j + 1, by go_num, by omega, HR, HB2⟩
    case measure => simp [intOf]; omega
  ·
   have HR : Hid (atV fs s = -1) := by exact (by rw [HA.out, List.drop_of_length_le (by omega)]; rfl : atV fs s = -1)
   go_wp2
   go_ret
   exact ⟨by rw [HR.out]; rfl, HB.out⟩

/-- What a round of funcsOk holds. -/
structure FkSt (w X : World) (E : Nat) (fa : Option Addr) (fl : Nat) (fs : List Fn) (s : List UInt8) (n : Int) (ta : Option Addr) (tl tc : Nat) (t : List Nd) : Prop where
 b : Box3 X E (.string ⟨s.toArray⟩) (.int .i64 n) (.slice ta tl tc)
 n : NodesIn X ta tl t
 f : FuncsIn X fa fl fs
 h : Below w.heap.size w X
theorem FkSt.below {w X Y : World} {E : Nat} {fa : Option Addr} {fl : Nat} {fs : List Fn} {s : List UInt8} {n : Int} {ta : Option Addr} {tl tc : Nat} {t : List Nd} (g : FkSt w X E fa fl fs s n ta tl tc t) (hb : Below X.heap.size X Y) : FkSt w Y E fa fl fs s n ta tl tc t :=
 ⟨g.b.below hb, g.n.below hb, g.f.below hb, g.h.trans (hb.mono g.h.size)⟩
theorem FkSt.drew {w X : World} {E : Nat} {fa : Option Addr} {fl : Nat} {fs : List Fn} {s : List UInt8} {n : Int} {ta : Option Addr} {tl tc : Nat} {t : List Nd} (g : FkSt w X E fa fl fs s n ta tl tc t) : FkSt w X.drew E fa fl fs s n ta tl tc t :=
 g.below ((Below.refl _ _).grown (grown_drew X none) (Nat.le_refl _) (fun k e => by cases e))

set_option maxHeartbeats 4000000 in
set_option maxRecDepth 100000 in
theorem implFuncsOk (fa : Option Addr) (fl fc : Nat) (fs : List Fn) (w : World) (hin : FuncsIn w fa fl fs) (hlen : fl ≤ 1048576) (hfc : fl ≤ fc) (hint : IntF fs) (hsh : ShortF fs) :
 Calls Tryz.prog 182 #[.slice fa fl fc] w fun e w' => e = .returned (.bool (fnsB fs)) ∧ Below w.heap.size w w' := by
 obtain rfl : fs.length = fl := hin.1
 have HI : Hid (FuncsIn w fa fs.length fs) := hin
 have HIF : Hid (IntF fs) := hint
 have HSF : Hid (ShortF fs) := hsh
 clear hin hint hsh
 by_cases h1 : (fs.length : Int) < 1
 ·
  have HR : Hid (fnsB fs = false) := fnsB_few (Or.inl h1)
  go_enter Tryz.func182, Tryz.ntmps182
  go_wp2
  go_ret
  exact ⟨by rw [HR.out]; rfl, Below.refl _ _⟩
 by_cases h8 : 8 < (fs.length : Int)
 ·
  have HR : Hid (fnsB fs = false) := fnsB_few (Or.inr h8)
  go_enter Tryz.func182, Tryz.ntmps182
  go_wp2
  go_ret
  exact ⟨by rw [HR.out]; rfl, Below.refl _ _⟩
 go_enter Tryz.func182, Tryz.ntmps182
 go_wp2
 go_loopw [15] (fun iv wr => ∃ j : Nat, iv = .int .i64 (j : Int) ∧ j ≤ fs.length ∧ Hid (∀ i, i < j → funcsOk fs i) ∧ Hid (Below w.heap.size w wr)) (fun iv _ => fs.length - (intOf iv).toNat)
 case atStart => exact ⟨0, rfl, by omega, (fun i hi => by omega), Below.refl _ _⟩
 case round =>
  obtain ⟨j, rfl, hj, HA, HB⟩ := hrel
  by_cases hlt : (j : Int) < (fs.length : Int)
  ·
   have hin := HI.out.below HB.out
   obtain ⟨b, off, rfl, hbl, c0, c1, ta, tl, tc, c2, _, hnd⟩ := hin.2 j (by omega)
   have hsh := HSF.out j
   have hit := (HIF.out j).2
   have haf := at_first (fs := fs) (i := j) (by omega) rfl
   obtain ⟨f, hfj⟩ : ∃ f, fs.getD j fn0 = f := ⟨_, rfl⟩
   have HOK : Hid (funcsOk fs j ↔ (funcB f = true ∧ atV fs f.1 = (j : Int))) := by exact (by unfold funcsOk; rw [hfj] : funcsOk fs j ↔ (funcB f = true ∧ atV fs f.1 = (j : Int)))
   rw [hfj] at c0 c1 hnd hsh hit haf
   clear hfj
   obtain ⟨s, n, t⟩ := f
   simp only at c0 c1 hnd hsh hit haf
   have HSH : Hid (s.length ≤ 1048576 ∧ t.length ≤ 1048576 ∧ ShortT t) := hsh
   have HIT : Hid (IntT t) := hit
   have htl : tl ≤ 1048576 := by rw [← hnd.1]; exact hsh.2.1
   obtain ⟨bx, hbx⟩ := Box3.new wr (.string ⟨s.toArray⟩) (.int .i64 n) (.slice ta tl tc) 82
   obtain ⟨X, hX⟩ : ∃ X, wr.alloc (.cells #[.string ⟨s.toArray⟩, .int .i64 n, .slice ta tl tc] 82) = X := ⟨_, rfl⟩
   obtain ⟨E, hE⟩ : ∃ E, wr.heap.size = E := ⟨_, rfl⟩
   rw [hX] at bx hbx
   rw [hE] at bx
   have st : FkSt w X E (some ⟨b, off, none⟩) fs.length fs s n ta tl tc t := ⟨bx, hnd.below hbx, hin.below hbx, HB.out.trans (hbx.mono HB.out.size)⟩
   obtain ⟨fb, hfb⟩ : ∃ fb, funcB (s, n, t) = fb := ⟨_, rfl⟩
   obtain ⟨av, hav⟩ : ∃ av, atV (fs.take j) s = av := ⟨_, rfl⟩
   have HFB : Hid (funcB (s, n, t) = fb) := hfb
   have HAT : Hid (atV (fs.take j) s = av) := hav
   have HAF : Hid (av = -1 ↔ atV fs s = (j : Int)) := by rw [hav] at haf; exact haf
   have hjc : (j : Int) ≤ (fc : Int) := by omega
   have hjc2 : j ≤ fc := by omega
   clear hsh hit hnd hbx bx hfb hav haf hin HB
   have d0 := st.b.c0
   have d1 := st.b.c1
   have d2 := st.b.c2
   go_upto_region 6 with fail
   replace st := st.drew
   replace d0 := st.b.c0
   replace d1 := st.b.c1
   replace d2 := st.b.c2
   rcases fb with _ | _
   ·
    have HR : Hid (fnsB fs = false) := fnsB_no (j := j) (by omega) (fun h => by have := (HOK.out.1 h).1; rw [HFB.out] at this; cases this)
    refine wp_region_held_drew (S := (fun w' => w'.cell? ⟨E, 0, none⟩ = some (.string ⟨s.toArray⟩) ∧ w'.cell? ⟨E, 1, none⟩ = some (.int .i64 n) ∧ w'.cell? ⟨E, 2, none⟩ = some (.slice ta tl tc))) (by kernel_rfl) ?_ (fun hHeld => ?_)
    ·
     first | (dsimp only; done) | (dsimp only; go_keep) | go_keep
    refine wpAnyH_take (i := 0) (oi := ⟨some 20, _, _, _, _, _⟩) (v := ?v0) rfl (by kernel_rfl) (by kernel_rfl) (by kernel_rfl) (fun _ _ _ h => h) (Or.inl ⟨by rfl, ?hy0⟩) (by assumption) ?rest0
    case hy0 => (intro wq hSw; (try dsimp only at hSw); first | (go_simp; done) | (go_simp; with_reducible rfl))
    simp only [Act.put, List.setIfInBounds_toArray, List.set_cons_zero, List.set_cons_succ]
    refine wpAnyH_ready (rs := [1]) (by kernel_rfl) (by simp) ?_
    refine AllReadyH.cons rfl (fun K hK => ?_) AllReadyH.nil
    go_simp
    (go_at_call 192; refine (implFuncOk (s, n, t) ta tl tc _ st.n HIT.out HSH.out.2.2 htl HSH.out.1).mono ?_; rintro e wn ⟨rfl, hbn⟩; replace st := st.below hbn; clear hbn; replace d0 := st.b.c0; replace d1 := st.b.c1; replace d2 := st.b.c2; rw [HFB.out])
    refine hK.out _ _ ?_ (fun hHeld => ?_)
    ·
     first | (dsimp only; done) | (dsimp only; go_keep) | go_keep
    clear hK K
    refine wpAnyH_take (i := 2) (oi := ⟨some 22, _, _, _, _, _⟩) (v := ?v2) rfl (by kernel_rfl) (by kernel_rfl) (by kernel_rfl) (fun _ _ _ h => h) (Or.inl ⟨by rfl, ?hy2⟩) (by assumption) ?rest2
    case hy2 => (intro wq hSw; (try dsimp only at hSw); first | (go_simp; done) | (go_simp; with_reducible rfl))
    simp only [Act.put, List.setIfInBounds_toArray, List.set_cons_zero, List.set_cons_succ]
    refine wpAnyH_take (i := 3) (oi := ⟨some 23, _, _, _, _, _⟩) (v := ?v3) rfl (by kernel_rfl) (by kernel_rfl) (by kernel_rfl) (fun _ _ _ h => h) (Or.inl ⟨by rfl, ?hy3⟩) (by assumption) ?rest3
    case hy3 => (intro wq hSw; (try dsimp only at hSw); first | (go_simp; done) | (go_simp; with_reducible rfl))
    simp only [Act.put, List.setIfInBounds_toArray, List.set_cons_zero, List.set_cons_succ]
    refine wpAnyH_take (i := 4) (oi := ⟨some 24, _, _, _, _, _⟩) (v := undef) rfl (by kernel_rfl) (by kernel_rfl) (by kernel_rfl) (fun _ _ _ h => h) (Or.inr ⟨by rfl, rfl⟩) (by assumption) ?_
    simp only [Act.put, List.setIfInBounds_toArray, List.set_cons_zero, List.set_cons_succ]
    refine wpAnyH_take (i := 5) (oi := ⟨some 25, _, _, _, _, _⟩) (v := undef) rfl (by kernel_rfl) (by kernel_rfl) (by kernel_rfl) (fun _ _ _ h => h) (Or.inr ⟨by rfl, rfl⟩) (by assumption) ?_
    simp only [Act.put, List.setIfInBounds_toArray, List.set_cons_zero, List.set_cons_succ]
    refine wpAnyH_take (i := 6) (oi := ⟨some 26, _, _, _, _, _⟩) (v := undef) rfl (by kernel_rfl) (by kernel_rfl) (by kernel_rfl) (fun _ _ _ h => h) (Or.inr ⟨by rfl, rfl⟩) (by assumption) ?_
    simp only [Act.put, List.setIfInBounds_toArray, List.set_cons_zero, List.set_cons_succ]
    refine wpAnyH_take (i := 7) (oi := ⟨some 27, _, _, _, _, _⟩) (v := undef) rfl (by kernel_rfl) (by kernel_rfl) (by kernel_rfl) (fun _ _ _ h => h) (Or.inr ⟨by rfl, rfl⟩) (by assumption) ?_
    simp only [Act.put, List.setIfInBounds_toArray, List.set_cons_zero, List.set_cons_succ]
    refine wpAnyH_take (i := 8) (oi := ⟨some 28, _, _, _, _, _⟩) (v := undef) rfl (by kernel_rfl) (by kernel_rfl) (by kernel_rfl) (fun _ _ _ h => h) (Or.inr ⟨by rfl, rfl⟩) (by assumption) ?_
    simp only [Act.put, List.setIfInBounds_toArray, List.set_cons_zero, List.set_cons_succ]
    refine wpAnyH_take (i := 9) (oi := ⟨some 29, _, _, _, _, _⟩) (v := undef) rfl (by kernel_rfl) (by kernel_rfl) (by kernel_rfl) (fun _ _ _ h => h) (Or.inr ⟨by rfl, rfl⟩) (by assumption) ?_
    simp only [Act.put, List.setIfInBounds_toArray, List.set_cons_zero, List.set_cons_succ]
    refine wpAnyH_take (i := 10) (oi := ⟨some 30, _, _, _, _, _⟩) (v := undef) rfl (by kernel_rfl) (by kernel_rfl) (by kernel_rfl) (fun _ _ _ h => h) (Or.inr ⟨by rfl, rfl⟩) (by assumption) ?_
    simp only [Act.put, List.setIfInBounds_toArray, List.set_cons_zero, List.set_cons_succ]
    refine wpAnyH_take (i := 11) (oi := ⟨some 31, _, _, _, _, _⟩) (v := ?v11) rfl (by kernel_rfl) (by kernel_rfl) (by kernel_rfl) (fun _ _ _ h => h) (Or.inl ⟨by rfl, ?hy11⟩) (by assumption) ?rest11
    case hy11 => (intro wq hSw; (try dsimp only at hSw); first | (go_simp; done) | (go_simp; with_reducible rfl))
    simp only [Act.put, List.setIfInBounds_toArray, List.set_cons_zero, List.set_cons_succ]
    refine wpAnyH_done (by kernel_rfl) ?_ _
    go_wp2
    go_ret
    exact ⟨by rw [HR.out]; rfl, st.h⟩
   ·
    by_cases hje : av = -1
    ·
     subst hje
     have HA2 : Hid (∀ i, i < j + 1 → funcsOk fs i) := fun i hi => by
      rcases Nat.lt_or_ge i j with h | h
      ·
       exact HA.out i h
      ·
       obtain rfl : i = j := by omega
       exact HOK.out.2 ⟨HFB.out, HAF.out.1 rfl⟩
     go_region_held3 (fun w' => w'.cell? ⟨E, 0, none⟩ = some (.string ⟨s.toArray⟩) ∧ w'.cell? ⟨E, 1, none⟩ = some (.int .i64 n) ∧ w'.cell? ⟨E, 2, none⟩ = some (.slice ta tl tc)) (go_keep) (first | (go_at_call 167; refine (implPlaceOf (some ⟨b, off, none⟩) j fc (fs.take j) s _ (st.f.take (by omega)) (by omega)).mono ?_; rintro e wn ⟨rfl, hbn⟩; replace st := st.below hbn; clear hbn; replace d0 := st.b.c0; replace d1 := st.b.c1; replace d2 := st.b.c2; rw [HAT.out]) | (go_at_call 192; refine (implFuncOk (s, n, t) ta tl tc _ st.n HIT.out HSH.out.2.2 htl HSH.out.1).mono ?_; rintro e wn ⟨rfl, hbn⟩; replace st := st.below hbn; clear hbn; replace d0 := st.b.c0; replace d1 := st.b.c1; replace d2 := st.b.c2; rw [HFB.out]))
     all_goals go_wp2
     all_goals go_roundw
     case rel => exact ⟨j + 1, by go_num, by omega, HA2, st.h⟩
     case measure => simp [intOf]; omega
    ·
     have HR : Hid (fnsB fs = false) := fnsB_no (j := j) (by omega) (fun h => hje (HAF.out.2 (HOK.out.1 h).2))
     have hjb : (av != -1) = true := by rw [bne_iff_ne]; exact hje
     have hjd : (av == -1) = false := by rw [beq_eq_false_iff_ne]; exact hje
     go_region_held3 (fun w' => w'.cell? ⟨E, 0, none⟩ = some (.string ⟨s.toArray⟩) ∧ w'.cell? ⟨E, 1, none⟩ = some (.int .i64 n) ∧ w'.cell? ⟨E, 2, none⟩ = some (.slice ta tl tc)) (go_keep) (first | (go_at_call 167; refine (implPlaceOf (some ⟨b, off, none⟩) j fc (fs.take j) s _ (st.f.take (by omega)) (by omega)).mono ?_; rintro e wn ⟨rfl, hbn⟩; replace st := st.below hbn; clear hbn; replace d0 := st.b.c0; replace d1 := st.b.c1; replace d2 := st.b.c2; rw [HAT.out]) | (go_at_call 192; refine (implFuncOk (s, n, t) ta tl tc _ st.n HIT.out HSH.out.2.2 htl HSH.out.1).mono ?_; rintro e wn ⟨rfl, hbn⟩; replace st := st.below hbn; clear hbn; replace d0 := st.b.c0; replace d1 := st.b.c1; replace d2 := st.b.c2; rw [HFB.out]))
     all_goals go_wp2
     all_goals go_ret
     all_goals exact ⟨by rw [HR.out]; rfl, st.h⟩
  ·
   have HR : Hid (fnsB fs = true) := fnsB_yes (by omega) (by omega) (fun i hi => HA.out i (by omega))
   go_wp2
   go_ret
   exact ⟨by rw [HR.out]; rfl, HB.out⟩

set_option maxHeartbeats 2000000 in
set_option maxRecDepth 100000 in
theorem implPackageOk (nm : List UInt8) (ia : Option Addr) (il ic : Nat) (fa : Option Addr) (fl fc : Nat) (ims : List (List UInt8)) (fs : List Fn) (w : World) (h : PkOk w nm ia il ic fa fl fc ims fs) :
 Calls Tryz.prog 164 #[.agg #[.string ⟨nm.toArray⟩, .slice ia il ic, .slice fa fl fc]] w fun e w' => e = .returned (.bool (pkgB (nm, ims, fs))) ∧ Below w.heap.size w w' := by
 obtain ⟨W, hW⟩ : ∃ W, w.alloc (.cells #[.string ⟨nm.toArray⟩, .slice ia il ic, .slice fa fl fc] 48) = W := ⟨_, rfl⟩
 obtain ⟨st, hB⟩ := PkIn.new (w := w) (nm := nm) (ic := ic) (fc := fc) h.i h.f
 rw [hW] at st hB
 have k0 := st.k0
 have k1 := st.k1
 have k2 := st.k2
 have hC1 : Hid (_) := implNameOkS nm W h.nm
 have hC2 : Hid (_) := implImportsOk ia il ic ims W st.i h.il h.is
 have hC3 : Hid (_) := implFuncsOk fa fl fc fs W st.f h.fl h.fc.2 h.int h.fs
 have HP : Hid (pkgB (nm, ims, fs) = (nameB nm && (importsB ims && fnsB fs))) := pkgB_fns (nm, ims, fs)
 generalize nameB nm = nb at hC1 HP
 generalize importsB ims = ib at hC2 HP
 generalize fnsB fs = fb at hC3 HP
 clear h st
 go_enter Tryz.func164, Tryz.ntmps164
 rcases nb with _ | _
 ·
  go_wp2_with (go_at_call 101; refine Calls.mono hC1.out ?_; rintro e w1 ⟨rfl, rfl⟩)
  go_ret
  exact ⟨by rw [HP.out]; rfl, hB⟩
 ·
  rcases ib with _ | _
  ·
   go_wp2_with (first | (go_at_call 101; refine Calls.mono hC1.out ?_; rintro e w1 ⟨rfl, rfl⟩) | (go_at_call 181; refine Calls.mono hC2.out ?_; rintro e w1 ⟨rfl, rfl⟩))
   go_ret
   exact ⟨by rw [HP.out]; rfl, hB⟩
  ·
   go_wp2_with (first | (go_at_call 101; refine Calls.mono hC1.out ?_; rintro e w1 ⟨rfl, rfl⟩) | (go_at_call 181; refine Calls.mono hC2.out ?_; rintro e w1 ⟨rfl, rfl⟩) | (go_at_call 182; refine Calls.mono hC3.out ?_; rintro e w2 ⟨rfl, hb2⟩))
   go_ret
   exact ⟨by rw [HP.out]; rfl, hB.trans (hb2.mono hB.size)⟩

end Go.Proofs.YtdoghjpjepolbaaGreatDoor
