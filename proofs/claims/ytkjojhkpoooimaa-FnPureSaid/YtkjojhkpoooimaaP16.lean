/-
  Parts of one proof, one behind the other: TreeI3, PackI, PackI2.
-/
import Derived.Test.YtkjojhkpoooimaaP15
import Derived.Test.YtkjojhkpoooimaaP11
import Derived.Deep.RegionHeld3
import Derived.Test.YtkjojhkpoooimaaP13

/-! The contracts of chapter 6's landed code: NodeOk, KidsOf, EndOf, TreeOk, PartsOf. -/
namespace Go.Proofs.Ytkjojhkpoooimaa
open Go.RowKit

theorem implNodeOk (n : Nd) (w : World) (_hi : IntN n) (hp : n.2.2.1.length ≤ 1048576) (hf : n.2.2.2.length ≤ 1048576) :
    Calls Try.prog 65 #[nodeVal n] w fun e w' => e = .returned (.bool (nodeB n)) ∧ Below w.heap.size w w' := by
  obtain ⟨k, a, p, f⟩ := n
  rcases shOf_kinds (k, a, p, f) with ⟨_, e⟩ | ⟨_, e⟩ | ⟨_, e⟩ | ⟨_, e⟩ | ⟨_, e⟩ | ⟨_, e⟩
  · rcases hs : shOk (.num a) with _ | _
    · exact nodeOk_num_no k a p f a w e hs
    · exact nodeOk_num_yes k a p f a w e hs
  · rcases hs : shOk (.arg a) with _ | _
    · exact nodeOk_arg_no k a p f a w e hs
    · exact nodeOk_arg_yes k a p f a w e hs
  · exact nodeOk_pair_yes k a p f k w e rfl
  · exact nodeOk_cond_yes k a p f w e rfl
  · rcases hs : shOk (.call p f a) with _ | _
    · exact nodeOk_call_no k a p f p f a w e hs hp hf
    · exact nodeOk_call_yes k a p f p f a w e hs hp hf
  · exact nodeOk_no_no k a p f w e rfl

set_option maxHeartbeats 1000000 in
set_option maxRecDepth 100000 in
theorem implKidsOf (n : Nd) (w : World) (hi : IntN n) (hp : n.2.2.1.length ≤ 1048576) (hf : n.2.2.2.length ≤ 1048576) :
    Calls Try.prog 34 #[nodeVal n] w fun e w' => e = .returned (.int .i64 (kidsOfV n)) ∧ Below w.heap.size w w' := by
  have HC : Hid (_) := fun W : World => implNodeOk n W hi hp hf
  have HS : Hid (_) := fun W : World => implShapeOf n W
  have HV : Hid (nodeB n = false → kidsOfV n = -1) := fun h => by unfold kidsOfV; rw [if_neg (by rw [h]; simp)]
  have HV2 : Hid (nodeB n = true → kidsOfV n = shKids (shOf n)) := fun h => by unfold kidsOfV; rw [if_pos h, kids_sh h]
  generalize nodeB n = nb at HC HV HV2
  generalize shOf n = s at HS HV2
  have HK : Hid (_) := fun W : World => implKidsOfShape s W
  obtain ⟨k, a, p, f⟩ := n
  unfold nodeVal at HC HS ⊢
  simp only at HC HS ⊢
  clear hi hp hf
  obtain ⟨W0, hW0⟩ : ∃ W0, w.alloc (.cells #[.int .i64 k, .int .i64 a, .string ⟨p.toArray⟩, .string ⟨f.toArray⟩] 28) = W0 := ⟨_, rfl⟩
  have st := NdAt.new w k a p f
  have hB : Below w.heap.size w W0 := by rw [← hW0]; exact (Below.refl _ w).alloc (Nat.le_refl _) _
  rw [hW0] at st
  obtain ⟨D, hD0⟩ : ∃ D, w.heap.size = D := ⟨_, rfl⟩
  rw [hD0] at st hB
  have hD : Hid (w.heap.size = D) := hD0
  have c0 := st.c0
  have c1 := st.c1
  have c2 := st.c2
  have c3 := st.c3
  go_enter Try.func34, Try.ntmps34
  go_wp2_with fail
  refine Calls.mono (HC.out _) ?_
  rintro e wn ⟨rfl, hbn⟩
  replace hB := hB.trans (hbn.mono (Nat.le_trans (Nat.le_of_eq hD.out.symm) hB.size))
  replace st := st.below hbn
  replace c0 := st.c0
  replace c1 := st.c1
  replace c2 := st.c2
  replace c3 := st.c3
  clear hbn
  rcases nb with _ | _
  · have HO : Hid (kidsOfV (k, a, p, f) = -1) := HV.out rfl
    go_wp2
    go_ret
    exact ⟨by rw [HO.out]; rfl, by rw [hD.out]; exact hB⟩
  · have HO : Hid (kidsOfV (k, a, p, f) = shKids s) := HV2.out rfl
    go_wp2_with fail
    refine Calls.mono (HS.out _) ?_
    rintro e wn ⟨rfl, hbn⟩
    replace hB := hB.trans (hbn.mono (Nat.le_trans (Nat.le_of_eq hD.out.symm) hB.size))
    clear hbn st c0 c1 c2 c3
    go_wp2_with fail
    refine Calls.mono (HK.out _) ?_
    rintro e wn ⟨rfl, hbn⟩
    replace hB := hB.trans (hbn.mono (Nat.le_trans (Nat.le_of_eq hD.out.symm) hB.size))
    go_wp2
    go_ret
    exact ⟨by rw [HO.out]; rfl, by rw [hD.out]; exact hB⟩

theorem kids_of (n : Nd) : (nodeB n = false ∧ kidsOfV n = -1) ∨ (nodeB n = true ∧ kidsOfV n = (kidsN n : Int) ∧ kidsN n ≤ 3) := by
  rcases h : nodeB n with _ | _
  · exact Or.inl ⟨rfl, by unfold kidsOfV; rw [if_neg (by rw [h]; simp)]⟩
  · obtain ⟨h1, h2⟩ := kidsV_ok h
    exact Or.inr ⟨rfl, by unfold kidsOfV; rw [if_pos h]; exact h1, h2⟩

set_option maxHeartbeats 2000000 in
set_option maxRecDepth 100000 in
theorem implEndOf (a : Option Addr) (len cap : Nat) (ns : List Nd) (at_ : Int) (w : World) (hin : NodesIn w a len ns) (hint : IntT ns) (hsh : ShortT ns) (hlen : len ≤ 1048576) (hat : -9223372036854775808 ≤ at_ ∧ at_ ≤ 9223372036854775807) :
    Calls Try.prog 58 #[.slice a len cap, .int .i64 at_] w fun e w' => e = .returned (.int .i64 (endV ns at_)) ∧ Below w.heap.size w w' := by
  obtain rfl : ns.length = len := hin.1
  by_cases h0 : at_ < 0
  · have HE : Hid (endV ns at_ = -1) := endV_out ns at_ (Or.inl h0)
    go_enter Try.func58, Try.ntmps58
    go_wp2
    go_ret
    exact ⟨by rw [HE.out]; rfl, Below.refl _ _⟩
  · obtain ⟨k0, rfl⟩ : ∃ k0 : Nat, at_ = (k0 : Int) := Int.eq_ofNat_of_zero_le (by omega)
    have h0' : ¬ (k0 : Int) < 0 := by omega
    have HE : Hid (endTo ns k0 1 = endV ns (k0 : Int)) := by
      by_cases hk : k0 < ns.length
      · exact endTo_start hk
      · exact (by rw [endTo_over (by omega), endV_out ns (k0 : Int) (Or.inr (by omega))] : endTo ns k0 1 = endV ns (k0 : Int))
    have HI : Hid (NodesIn w a ns.length ns) := hin
    have HS : Hid (ShortT ns) := hsh
    have HN0 : Hid (IntT ns) := hint
    clear hin hsh hint h0
    go_enter Try.func58, Try.ntmps58
    go_wp2
    go_loopw [1, 5] (fun av ov wr => ∃ k o : Nat, av = .int .i64 k ∧ ov = .int .i64 o ∧ (k ≤ ns.length ∨ (k = k0 ∧ o = 1)) ∧ o ≤ 1 + 3 * k ∧ Hid (endTo ns k o = endV ns (k0 : Int)) ∧ Below w.heap.size w wr) (fun av _ _ => ns.length - (intOf av).toNat)
    case atStart => exact ⟨k0, 1, rfl, rfl, Or.inr ⟨rfl, rfl⟩, by omega, HE, Below.refl _ _⟩
    case round =>
      obtain ⟨k, o, rfl, rfl, hk, ho, HT, hb⟩ := hrel
      clear HE
      by_cases hoz : o = 0
      · subst hoz
        have HF : Hid ((k : Int) = endV ns (k0 : Int)) := by exact (by rw [← HT.out, endTo_zero] : (k : Int) = endV ns (k0 : Int))
        go_wp2
        go_ret
        exact ⟨by rw [← HF.out]; rfl, hb⟩
      · obtain ⟨o', rfl⟩ : ∃ o', o = o' + 1 := ⟨o - 1, by omega⟩
        have ho1 : (0 : Int) < ((o' + 1 : Nat) : Int) := by omega
        by_cases hkl : (ns.length : Int) ≤ (k : Int)
        · have HF : Hid (endV ns (k0 : Int) = -1) := by exact (by rw [← HT.out, endTo_over (by omega)] : endV ns (k0 : Int) = -1)
          clear hoz
          go_wp2
          go_ret
          exact ⟨by rw [HF.out]; rfl, hb⟩
        · obtain ⟨b, off, rfl, hbl, hcells⟩ := (HI.out.below hb).at (by omega)
          obtain ⟨c0, c1, c2, c3⟩ := hcells k (by omega)
          have hs := HS.out k
          have hz := HN0.out k
          obtain ⟨n, hn⟩ : ∃ n, ns.getD k nd0 = n := ⟨_, rfl⟩
          rw [hn] at c0 c1 c2 c3 hs hz
          have HN : Hid (ns.getD k nd0 = n) := hn
          have HC : Hid (_) := fun W : World => implKidsOf n W hz hs.1 hs.2
          have HK : Hid (_) := kids_of n
          generalize hkn : kidsOfV n = kn at HC HK
          obtain ⟨kd, aa, p, f⟩ := n
          unfold nodeVal at HC
          simp only at c0 c1 c2 c3 HC
          clear hn hcells hoz hs hz hkn
          go_wp2_with fail
          refine Calls.mono (HC.out _) ?_
          rintro e w1 ⟨rfl, hb1⟩
          have hB1 := hb.trans (hb1.mono hb.size)
          clear c0 c1 c2 c3 hb1 hb HC
          rcases HK.out with ⟨hnb, rfl⟩ | ⟨hnb, rfl, hk3⟩
          · have HF : Hid (endV ns (k0 : Int) = -1) := by exact (by rw [← HT.out, endTo_bad (by omega) (by rw [HN.out]; exact hnb)] : endV ns (k0 : Int) = -1)
            clear hnb
            go_wp2
            go_ret
            exact ⟨by rw [HF.out]; rfl, hB1⟩
          · have HT2 : Hid (endTo ns (k + 1) (o' + kidsN (kd, aa, p, f)) = endV ns (k0 : Int)) := by
              have := endTo_round (o := o') (show k < ns.length by omega) (by rw [HN.out]; exact hnb)
              rw [HN.out] at this
              exact (by rw [← this]; exact HT.out : endTo ns (k + 1) (o' + kidsN (kd, aa, p, f)) = endV ns (k0 : Int))
            clear hnb
            generalize kidsN (kd, aa, p, f) = q at hk3 HT2 ⊢
            have hq1 : ((q : Int) == -1) = false := beq_eq_false_iff_ne.2 (by omega)
            have hkk : k ≤ ns.length := by omega
            clear hk HK
            go_wp2
            go_roundw
            case rel => exact ⟨k + 1, o' + q, by go_num, by go_num, Or.inl (by omega), by omega, HT2, hB1⟩
            case measure => simp [intOf]; omega

theorem treeB_many (ns : List Nd) (h : ¬ (1 ≤ ns.length ∧ ns.length ≤ 60)) : treeB ns = false := decide_eq_false (fun g => h g.1)
theorem treeB_end (ns : List Nd) (h : 1 ≤ ns.length ∧ ns.length ≤ 60) : treeB ns = (endV ns 0 == (ns.length : Int)) := by
  rw [Bool.eq_iff_iff, beq_iff_eq]
  unfold treeB
  rw [decide_eq_true_iff]
  exact ⟨fun g => g.2, fun g => ⟨h, g⟩⟩

set_option maxHeartbeats 1000000 in
set_option maxRecDepth 100000 in
theorem implTreeOk (a : Option Addr) (len cap : Nat) (ns : List Nd) (w : World) (hin : NodesIn w a len ns) (hint : IntT ns) (hsh : ShortT ns) (hlen : len ≤ 1048576) :
    Calls Try.prog 28 #[.slice a len cap] w fun e w' => e = .returned (.bool (treeB ns)) ∧ Below w.heap.size w w' := by
  obtain rfl : ns.length = len := hin.1
  have HC : Hid (_) := implEndOf a ns.length cap ns 0 w hin hint hsh hlen (by omega)
  by_cases h1 : (1 : Int) ≤ (ns.length : Int)
  · by_cases h2 : (ns.length : Int) ≤ 60
    · have HT : Hid (treeB ns = (endV ns 0 == (ns.length : Int))) := treeB_end ns (by omega)
      generalize endV ns 0 = e0 at HC HT
      clear hin hint hsh
      go_enter Try.func28, Try.ntmps28
      go_wp2_with fail
      refine Calls.mono HC.out ?_
      rintro e w1 ⟨rfl, hb1⟩
      go_wp2
      go_ret
      exact ⟨by rw [HT.out]; rfl, hb1⟩
    · have HT : Hid (treeB ns = false) := treeB_many ns (by omega)
      clear hin hint hsh
      go_enter Try.func28, Try.ntmps28
      go_wp2
      go_ret
      exact ⟨by rw [HT.out]; rfl, Below.refl _ _⟩
  · have HT : Hid (treeB ns = false) := treeB_many ns (by omega)
    clear hin hint hsh
    go_enter Try.func28, Try.ntmps28
    go_wp2
    go_ret
    exact ⟨by rw [HT.out]; rfl, Below.refl _ _⟩

/-- Parts one behind the other go up. -/
theorem chain_neg (l : List Nd) : ∀ r, chain l r (-1) = -1
  | 0 => rfl
  | r + 1 => by rw [chain, endV_out l (-1) (by omega)]; exact chain_neg l r
theorem endV_gt {l : List Nd} {t : Int} (h : 0 ≤ endV l t) : 0 ≤ t ∧ t < endV l t := by
  by_cases ht : t < 0
  · rw [endV_out l t (Or.inl ht)] at h; omega
  · obtain ⟨k, rfl⟩ : ∃ k : Nat, t = (k : Int) := Int.eq_ofNat_of_zero_le (by omega)
    exact ⟨by omega, (end_parts h).2.2.2.1⟩
theorem chain_ge (l : List Nd) : ∀ (r : Nat) (t : Int), 0 ≤ chain l r t → t ≤ chain l r t ∧ (0 < r → t < chain l r t)
  | 0, t, _ => ⟨Int.le_refl _, fun h => by omega⟩
  | r + 1, t, h => by
    rw [chain] at h ⊢
    by_cases he : 0 ≤ endV l t
    · have h1 := endV_gt he
      have h2 := (chain_ge l r (endV l t) h).1
      exact ⟨by omega, fun _ => by omega⟩
    · have h1 := (endV_le l t).1
      rw [show endV l t = -1 by omega, chain_neg] at h
      omega

set_option maxHeartbeats 2000000 in
set_option maxRecDepth 100000 in
theorem implPartsOf (a : Option Addr) (len cap : Nat) (ns : List Nd) (at_ : Int) (w : World) (hin : NodesIn w a len ns) (hint : IntT ns) (hsh : ShortT ns) (hlen : len ≤ 1048576) (hat : -9223372036854775808 ≤ at_ ∧ at_ ≤ 9223372036854775807) :
    Calls Try.prog 59 #[.slice a len cap, .int .i64 at_] w fun e w' => ∃ v, e = .returned v ∧ w'.ownsRow w.heap.size 2 1 v (partsV ns at_).length (intsV (partsV ns at_)) ∧ Below w.heap.size w w' := by
  obtain rfl : ns.length = len := hin.1
  have HE : Hid (_) := fun (j : Int) (hj : -9223372036854775808 ≤ j ∧ j ≤ 9223372036854775807) (W : World) (h : NodesIn W a ns.length ns) => implEndOf a ns.length cap ns j W h hint hsh hlen hj
  have HI : Hid (NodesIn w a ns.length ns) := hin
  have hown0 := (World.ownsRow_lit (base := w.heap.size) (e := 2) (size := 1) w #[] 0 (Nat.le_refl _) (by decide) rfl)
  have hB0 : Below w.heap.size w (w.alloc (.cells #[] 2)) := (Below.refl _ w).alloc (Nat.le_refl _) _
  obtain ⟨i0, hi, hz0, hz1, hz2⟩ := info_parts infoInt
  clear hin hint hsh
  by_cases hneg : endV ns at_ < 0
  · have HP : Hid (partsV ns at_ = []) := by exact (by unfold partsV; rw [if_pos hneg] : partsV ns at_ = [])
    have hee : endV ns at_ = -1 := by have := (endV_le ns at_).1; omega
    clear hneg
    go_enter Try.func59, Try.ntmps59
    go_wp2_with fail
    refine Calls.mono (HE.out at_ hat _ (HI.out.below hB0)) ?_
    rintro e w1 ⟨rfl, hb1⟩
    rw [hee]
    have hown1 := own_below hown0 hb1
    have hB1 := hB0.trans (hb1.mono hB0.size)
    clear hb1 hown0 hB0
    go_wp2
    go_ret
    exact ⟨_, rfl, by rw [HP.out]; exact hown1, hB1⟩
  · have hin2 : ¬ (at_ < 0 ∨ (ns.length : Int) ≤ at_) := fun h => hneg (by rw [endV_out ns at_ h]; omega)
    obtain ⟨k, rfl⟩ : ∃ k : Nat, at_ = (k : Int) := Int.eq_ofNat_of_zero_le (by omega)
    obtain ⟨hk, hnb, hch, hlt, hle⟩ := end_parts (by omega : 0 ≤ endV ns (k : Int))
    have HP : Hid (partsV ns (k : Int) = partsGo ns (kidsN (ns.getD k nd0)) ((k : Int) + 1)) := by
      exact (by unfold partsV; rw [if_neg hneg]; rfl : partsV ns (k : Int) = partsGo ns (kidsN (ns.getD k nd0)) ((k : Int) + 1))
    have HCH : Hid (chain ns (kidsN (ns.getD k nd0)) ((k : Int) + 1) = endV ns (k : Int)) := hch
    have hq3 := (kidsV_ok hnb).2
    rw [show ns.getD k (0, 0, [], []) = ns.getD k nd0 from rfl] at hq3
    generalize kidsN (ns.getD k nd0) = q at HP HCH hq3
    have hC := HE.out (k : Int) hat _ (HI.out.below hB0)
    obtain ⟨E, hE⟩ : ∃ E : Int, endV ns (k : Int) = E := ⟨_, rfl⟩
    rw [hE] at HCH hlt hle hC
    have hC2 : Hid (_) := hC
    have hEn : ((E == -1) = false) := beq_eq_false_iff_ne.2 (by omega)
    have hkl : (k : Int) < 1048576 := by omega
    have hEl : E ≤ 1048576 := by omega
    have hE0 : 0 ≤ E := by omega
    clear hneg hin2 hE hnb hC hch hat hlt hle
    go_enter Try.func59, Try.ntmps59
    go_wp2_with fail
    refine Calls.mono hC2.out ?_
    rintro e w1 ⟨rfl, hb1⟩
    have hown1 := own_below hown0 hb1
    have hB1 := hB0.trans (hb1.mono hB0.size)
    clear hb1 hown0 hB0 hC2
    go_wp2
    go_loopw [5, 7] (fun v nx wr => ∃ (ds : List Int) (r : Nat) (t : Int), nx = .int .i64 t ∧ ds.length + r = q ∧ -1 ≤ t ∧ t ≤ 1048576 ∧ Hid (chain ns r t = E) ∧ Hid (ds ++ partsGo ns r t = partsGo ns q ((k : Int) + 1)) ∧ Hid (wr.ownsRow w.heap.size 2 1 v ds.length (intsV ds)) ∧ Below w.heap.size w wr) (fun _ nx _ => (E - intOf nx).toNat)
    case atStart => exact ⟨[], q, (k : Int) + 1, by go_num, by simp, by omega, by omega, HCH, (rfl : [] ++ partsGo ns q ((k : Int) + 1) = _), hown1, hB1⟩
    case round =>
      obtain ⟨ds, r, t, rfl, hr, ht0, ht1, HG, HQ, HV, hb⟩ := hrel
      clear hown1 hB1
      by_cases hrz : r = 0
      · subst hrz
        have hte : t = E := HG.out
        subst hte
        have HF : Hid (ds = partsV ns (k : Int)) := by
          have h := HQ.out
          rw [partsGo, List.append_nil] at h
          exact (by rw [HP.out, h] : ds = partsV ns (k : Int))
        go_wp2
        go_ret
        exact ⟨_, rfl, by rw [← HF.out]; exact HV.out, hb⟩
      · obtain ⟨r', rfl⟩ : ∃ r', r = r' + 1 := ⟨r - 1, by omega⟩
        have htE : t < E := by have h := (chain_ge ns (r' + 1) t (by rw [HG.out]; exact hE0)).2 (by omega); rw [HG.out] at h; exact h
        have hnc := new_int wr t
        have hV := HV.out
        have hB0 := hb
        clear hrz HV
        go_wp2_with (at_builtin; refine wpList_append_own_at _ rfl _ _ 38 rfl w.heap.size 2 i0 _ 1 8 Try.underlying38 hi hz0 hz1 hz2 rfl (by decide) _ _ _ rfl (hV.alloc _) ⟨wr.heap.size, 0, none⟩ 1 1 (intsV [t]) rfl rfl ?c1 ?c2 ?c3 ?c4 ?c5 ?_)
        first | (case c1 => exact hnc) | skip
        first | (case c2 => exact intsV_one _) | skip
        first | (case c3 => unfold maxLen; omega) | skip
        first | (case c4 => omega) | skip
        first | (case c5 => have := hB0.size; simp; try omega) | skip
        intro v' w3 hown3 hgrow3 hnil3 hat3
        have HV3 : Hid (w3.ownsRow w.heap.size 2 1 v' (ds ++ [t]).length (intsV (ds ++ [t]))) := by
          exact (by rw [intsV_append, List.length_append]; exact hown3 : w3.ownsRow w.heap.size 2 1 v' (ds ++ [t]).length (intsV (ds ++ [t])))
        have hb3 : Below w.heap.size w w3 := (hB0.alloc hB0.size _).grown hgrow3 (by have := hB0.size; simp; omega) (fun q e => (hV.lt q e).1)
        clear hown3 hgrow3 hnil3 hat3 hV hB0 hnc hb
        have HQ2 : Hid ((ds ++ [t]) ++ partsGo ns r' (endV ns t) = partsGo ns q ((k : Int) + 1)) := by
          exact (by rw [← HQ.out, partsGo, List.append_assoc]; rfl : (ds ++ [t]) ++ partsGo ns r' (endV ns t) = partsGo ns q ((k : Int) + 1))
        have HG2 : Hid (chain ns r' (endV ns t) = E) := HG.out
        have he := endV_le ns t
        have hgt : t < endV ns t := by
          have hge : 0 ≤ endV ns t := by
            rcases Int.lt_or_le (endV ns t) 0 with hx | hx
            · have h2 := HG2.out
              rw [show endV ns t = -1 by omega, chain_neg] at h2
              omega
            · exact hx
          exact (endV_gt hge).2
        have hC := HE.out t (by omega) _ (HI.out.below hb3)
        obtain ⟨t', htt⟩ : ∃ t', endV ns t = t' := ⟨_, rfl⟩
        rw [htt] at HQ2 HG2 he hgt hC
        have hC2 : Hid (_) := hC
        clear htt hC HQ HG
        go_wp2_with fail
        refine Calls.mono hC2.out ?_
        rintro e w4 ⟨rfl, hb4⟩
        have hB4 := hb3.trans (hb4.mono hb3.size)
        have HV4 : Hid (w4.ownsRow w.heap.size 2 1 v' (ds ++ [t]).length (intsV (ds ++ [t]))) := own_below HV3.out hb4
        have hdl : (ds ++ [t]).length + r' = q := by simp; omega
        clear hb4 hb3 HV3 hC2
        go_wp2
        go_roundw
        case rel => exact ⟨ds ++ [t], r', t', rfl, hdl, by omega, by omega, HG2, HQ2, HV4, hB4⟩
        case measure => simp [intOf]; omega

end Go.Proofs.Ytkjojhkpoooimaa

/-! The contracts of chapter 7's landed code: PackageOk and what it asks. -/
namespace Go.Proofs.Ytkjojhkpoooimaa
open Go.RowKit

/-- Names, and rising. -/
def risesB (ts : List (List UInt8)) : Bool := decide (∀ i, i < ts.length → nameB (ts.getD i []) = true) && riseB ts
structure NrSt (ts : List (List UInt8)) (k : Nat) (z : List UInt8) : Prop where
  names : ∀ i, i < k → nameB (ts.getD i []) = true
  rise : ∀ i, i + 1 < k → leT (ts.getD (i + 1) []) (ts.getD i []) = false
  last : (k = 0 ∧ z = []) ∨ (0 < k ∧ z = ts.getD (k - 1) [])
def fnsB (fs : List Fn) : Bool := inB (fs.length : Int) 1 8 && decide (∀ i, i < fs.length → funcsOk fs i)
theorem FuncsIn.take {w : World} {a : Option Addr} {len : Nat} {fs : List Fn} (h : FuncsIn w a len fs) {i : Nat} (hi : i ≤ len) : FuncsIn w a i (fs.take i) := by
  refine ⟨by rw [List.length_take, h.1]; omega, fun j hj => ?_⟩
  have e : (fs.take i).getD j fn0 = fs.getD j fn0 := by rw [List.getD_eq_getElem?_getD, List.getD_eq_getElem?_getD, List.getElem?_take, if_pos hj]
  rw [e]
  exact h.2 j (by omega)

/-- What a round of funcsOk holds. -/
structure FkSt (w X : World) (E : Nat) (fa : Option Addr) (fl : Nat) (fs : List Fn) (s : List UInt8) (n : Int) (ta : Option Addr) (tl tc : Nat) (t : List Nd) : Prop where
  b : Box3 X E (.string ⟨s.toArray⟩) (.int .i64 n) (.slice ta tl tc)
  n : NodesIn X ta tl t
  f : FuncsIn X fa fl fs
  h : Below w.heap.size w X
theorem FkSt.below {w X Y : World} {E : Nat} {fa : Option Addr} {fl : Nat} {fs : List Fn} {s : List UInt8} {n : Int} {ta : Option Addr} {tl tc : Nat} {t : List Nd} (g : FkSt w X E fa fl fs s n ta tl tc t) (hb : Below X.heap.size X Y) : FkSt w Y E fa fl fs s n ta tl tc t :=
  ⟨g.b.below hb, g.n.below hb, g.f.below hb, g.h.trans (hb.mono g.h.size)⟩
theorem FkSt.drew {w X : World} {E : Nat} {fa : Option Addr} {fl : Nat} {fs : List Fn} {s : List UInt8} {n : Int} {ta : Option Addr} {tl tc : Nat} {t : List Nd} (g : FkSt w X E fa fl fs s n ta tl tc t) : FkSt w X.drew E fa fl fs s n ta tl tc t :=
  g.below ((Below.refl _ _).grown (grown_drew X none) (Nat.le_refl _) (fun k e => by cases e))

end Go.Proofs.Ytkjojhkpoooimaa

/-! The contracts of chapter 7's landed code: copies, and FuncOf. -/
namespace Go.Proofs.Ytkjojhkpoooimaa
open Go.RowKit

/-- A cell of a row is written with what it holds. -/
theorem own_same {w : World} {base e size g n cp : Nat} {xs : List Value} (h : w.ownsRow base e size (.slice (some ⟨g, 0, none⟩) n cp) n xs) (j : Nat) (u : Value) (hx : xs[j]? = some u) :
    (w.setCell ⟨g, j, none⟩ u).ownsRow base e size (.slice (some ⟨g, 0, none⟩) n cp) n xs ∧ w.grownBy (w.setCell ⟨g, j, none⟩ u) (some g) := by
  have hs := h.stored j u
  obtain ⟨hj, e⟩ := List.getElem?_eq_some_iff.1 hx
  subst e
  rw [List.set_getElem_self] at hs
  exact hs

set_option maxHeartbeats 1000000 in
set_option maxRecDepth 100000 in
theorem cloneNodes (a : Option Addr) (len cap : Nat) (ns : List Nd) (w : World) (hin : NodesIn w a len ns) (hc : a = none → cap = 0) (hlen : len ≤ 1048576) :
    Calls Try.prog 64 #[.slice a len cap] w fun e w' => ∃ v, e = .returned v ∧ w'.ownsRow w.heap.size 28 4 v ns.length (nodesV ns) ∧ Below w.heap.size w w' := by
  obtain rfl : ns.length = len := hin.1
  obtain ⟨i0, hi, hz0, hz1, hz2⟩ := info_parts infoNode
  rcases a with _ | ad
  · obtain rfl := hc rfl
    have h0 : ns.length = 0 := by
      rcases Nat.eq_zero_or_pos ns.length with h | h
      · exact h
      · obtain ⟨b, off, e, _⟩ := hin.at h; cases e
    obtain rfl : ns = [] := List.eq_nil_of_length_eq_zero h0
    have HO : Hid (w.ownsRow w.heap.size 28 4 (.slice none 0 0) 0 (nodesV [])) := World.ownsRow_nil w _ _ _
    have heq : ∀ V : World, (binOp .eql 24 (.slice none 0 0) (.slice none 0 0)).run Try.prog V = .ok (.bool true) V := fun V => Lib.run_eql_slice_nil V _ _ none 0 0 0 0 Try.underlying24
    clear hin hc h0
    go_enter Try.func64, Try.ntmps64
    go_wp2
    go_ret
    exact ⟨_, rfl, HO.out, Below.refl _ _⟩
  · have hbA : Below w.heap.size w (w.alloc (.cells #[] 28)) := (Below.refl _ _).alloc (Nat.le_refl _) _
    have hown0 := (World.ownsRow_lit (base := w.heap.size) (e := 28) (size := 4) w #[] 0 (Nat.le_refl _) (by decide) rfl)
    obtain ⟨v', w', hrun, hown', hg, _⟩ := run_append_src (P := Try.prog) (w.alloc (.cells #[] 28)) w.heap.size 24 24 28 i0 _ 4 48 Try.underlying24 hi hz0 hz1 hz2 rfl (by decide) _ _ _ hown0 (.slice (some ad) ns.length cap) ns.length (nodesV ns) ((hin.below hbA).src hc) (by unfold maxLen; omega) (by omega) (by simp)
    have hb : Below w.heap.size w w' := hbA.grown hg hbA.size (fun q e => by simp [Value.ownBlock] at e; omega)
    have HO : Hid (w'.ownsRow w.heap.size 28 4 v' ns.length (nodesV ns)) := by
      simp only [Nat.zero_add] at hown'
      exact (by simpa using hown' : w'.ownsRow w.heap.size 28 4 v' ns.length (nodesV ns))
    have heq : ∀ V : World, (binOp .eql 24 (.slice (some ad) ns.length cap) (.slice none 0 0)).run Try.prog V = .ok (.bool false) V := fun V => Lib.run_eql_slice_nil V _ _ (some ad) ns.length cap 0 0 Try.underlying24
    clear hown' hg hown0 hbA hin hc
    go_enter Try.func64, Try.ntmps64
    go_wp2_with (at_builtin; refine wpList_append_run rfl (.tmp 5) (.tmp 6) 24 rfl _ _ _ rfl rfl hrun ?_; clear hrun)
    go_ret
    exact ⟨v', rfl, HO.out, hb⟩

set_option maxHeartbeats 2000000 in
set_option maxRecDepth 100000 in
theorem implCopyTree (a : Option Addr) (len cap : Nat) (ns : List Nd) (w : World) (hin : NodesIn w a len ns) (hc : a = none → cap = 0) (hlen : len ≤ 1048576) (hsh : ShortT ns) :
    Calls Try.prog 32 #[.slice a len cap] w fun e w' => ∃ v, e = .returned v ∧ w'.ownsRow w.heap.size 28 4 v ns.length (nodesV ns) ∧ Below w.heap.size w w' := by
  have HC : Hid (_) := cloneNodes a len cap ns w hin hc hlen
  obtain rfl : ns.length = len := hin.1
  have HSH : Hid (ShortT ns) := hsh
  clear hin hc hsh
  go_enter Try.func32, Try.ntmps32
  go_wp2_with fail
  refine Calls.mono HC.out ?_
  rintro e w1 ⟨v, rfl, hown, hb⟩
  obtain ⟨_, av, cv, rfl, _⟩ := own_nodes hown
  have HO : Hid (w1.ownsRow w.heap.size 28 4 (.slice av ns.length cv) ns.length (nodesV ns)) := hown
  clear HC hown
  go_wp2
  go_loopw [10] (fun iv wr => ∃ k : Nat, iv = .int .i64 (k : Int) ∧ k ≤ ns.length ∧ Hid (wr.ownsRow w.heap.size 28 4 (.slice av ns.length cv) ns.length (nodesV ns)) ∧ Hid (Below w.heap.size w wr)) (fun iv _ => ns.length - (intOf iv).toNat)
  case atStart => exact ⟨0, rfl, by omega, HO, hb⟩
  case round =>
    obtain ⟨k, rfl, hk, HV, HB⟩ := hrel
    clear HO hb
    by_cases hlt : (k : Int) < (ns.length : Int)
    · have hk2 : k < ns.length := by omega
      obtain ⟨g, cp, he⟩ := own_some HV.out (by omega)
      injection he with e1 _ e3
      subst e1 e3
      obtain ⟨v0, v1, v2, v3⟩ := nodesV_at ns k hk2
      obtain ⟨hp, hf⟩ := HSH.out k
      obtain ⟨nd, hnd⟩ : ∃ nd, ns.getD k nd0 = nd := ⟨_, rfl⟩
      rw [hnd] at v0 v1 v2 v3 hp hf
      obtain ⟨kd, aa, p, f⟩ := nd
      simp only at v0 v1 v2 v3 hp hf
      have hat := fun i (hi : i < ns.length * 4) => World.ownsRow.cellAt HV.out i hi
      have c0 := (hat (k * 4) (by omega)).trans v0
      have c1 := (hat (k * 4 + 1) (by omega)).trans v1
      have c2 := (hat (k * 4 + 2) (by omega)).trans v2
      have c3 := (hat (k * 4 + 3) (by omega)).trans v3
      have hgl := HV.out.lt g rfl
      have H2 : Hid ((nodesV ns)[k * 4 + 2]? = some (.string ⟨p.toArray⟩)) := v2
      have H3 : Hid ((nodesV ns)[k * 4 + 3]? = some (.string ⟨f.toArray⟩)) := v3
      obtain ⟨X, hX⟩ : ∃ X, wr.alloc (.cells #[.int .i64 kd, .int .i64 aa, .string ⟨p.toArray⟩, .string ⟨f.toArray⟩] 28) = X := ⟨_, rfl⟩
      obtain ⟨E, hE⟩ : ∃ E, wr.heap.size = E := ⟨_, rfl⟩
      have hbX : Below wr.heap.size wr X := by rw [← hX]; exact (Below.refl _ wr).alloc (Nat.le_refl _) _
      have st := NdAt.new wr kd aa p f
      rw [hX, hE] at st
      have d0 := st.c0
      have d1 := st.c1
      have d2 := st.c2
      have d3 := st.c3
      have hgE : g < E := by omega
      have hgn : ¬ g = E := by omega
      have hgm : ¬ E = g := by omega
      have hBX : Below w.heap.size w X := HB.out.trans (hbX.mono HB.out.size)
      have hoX := own_below HV.out hbX
      clear v0 v1 v2 v3 hat hnd hbX HV HB hgl
      go_wp2_with fail
      refine (stringsClone p _ hp).mono ?_
      rintro e w2 ⟨rfl, hb2⟩
      have hB2 := hBX.trans (hb2.mono hBX.size)
      have ho2 := own_below hoX hb2
      replace st := st.below hb2
      obtain ⟨ho3, hg3⟩ := own_same ho2 (k * 4 + 2) (.string ⟨p.toArray⟩) H2.out
      have q2 : w2.cell? ⟨g, k * 4 + 2, none⟩ = some (.string ⟨p.toArray⟩) := (World.ownsRow.cellAt ho2 _ (by omega)).trans H2.out
      have z2 := World.ownsRow.frozenAt ho2 (k * 4 + 2)
      have hE2 : E < w2.heap.size := World.block_lt_of_cell? w2 ⟨E, 0, none⟩ st.c0
      have hg2 := (ho2.lt g rfl)
      obtain ⟨Y, hY⟩ : ∃ Y, w2.setCell ⟨g, k * 4 + 2, none⟩ (.string ⟨p.toArray⟩) = Y := ⟨_, rfl⟩
      rw [hY] at ho3 hg3
      have hB3 : Below w.heap.size w Y := hB2.grown hg3 hB2.size (fun q e => by injection e with e; omega)
      have hk3 : Y.heap[E]? = w2.heap[E]? := hg3.block E hE2 (by simp; omega)
      have t3 : Y.cell? ⟨E, 3, none⟩ = some (.string ⟨f.toArray⟩) := (World.cell?_of_block (a := ⟨E, 3, none⟩) hk3).trans st.c3
      clear hBX hoX hb2 hB2 ho2 st hE2 hg2 hg3 hk3 d0 d1 d2 d3 c0 c1 c2 c3
      go_wp2_with fail
      refine (stringsClone f _ hf).mono ?_
      rintro e w3 ⟨rfl, hb4⟩
      have hB4 := hB3.trans (hb4.mono hB3.size)
      have ho4 := own_below ho3 hb4
      obtain ⟨ho5, hg5⟩ := own_same ho4 (k * 4 + 3) (.string ⟨f.toArray⟩) H3.out
      have q3 : w3.cell? ⟨g, k * 4 + 3, none⟩ = some (.string ⟨f.toArray⟩) := (World.ownsRow.cellAt ho4 _ (by omega)).trans H3.out
      have z3 := World.ownsRow.frozenAt ho4 (k * 4 + 3)
      have hg4 := (ho4.lt g rfl)
      obtain ⟨Z, hZ⟩ : ∃ Z, w3.setCell ⟨g, k * 4 + 3, none⟩ (.string ⟨f.toArray⟩) = Z := ⟨_, rfl⟩
      rw [hZ] at ho5 hg5
      have HB5 : Hid (Below w.heap.size w Z) := hB4.grown hg5 hB4.size (fun q e => by injection e with e; omega)
      have HO5 : Hid (Z.ownsRow w.heap.size 28 4 (.slice (some ⟨g, 0, none⟩) ns.length cv) ns.length (nodesV ns)) := ho5
      clear hB3 ho3 hb4 hB4 ho4 ho5 hg5 hg4 t3 q2 z2
      go_wp2
      go_roundw
      case rel => exact ⟨k + 1, by go_num, by omega, HO5, HB5⟩
      case measure => simp [intOf]; omega
    · go_wp2
      go_ret
      exact ⟨_, rfl, HV.out, HB.out⟩

/-- What copyOfFunc holds. -/
structure CfSt (w X : World) (D : Nat) (s : List UInt8) (n : Int) (ta : Option Addr) (tl tc : Nat) (t : List Nd) : Prop where
  b : Box3 X D (.string ⟨s.toArray⟩) (.int .i64 n) (.slice ta tl tc)
  n : NodesIn X ta tl t
  r : Box3 X (D + 1) (.string ⟨#[]⟩) (.int .i64 0) (.slice none 0 0)
  fr : ∀ j, X.frozen? ⟨D + 1, j, none⟩ = false
  h : Below D w X
  hs : D + 2 ≤ X.heap.size
theorem CfSt.below {w X Y : World} {D : Nat} {s : List UInt8} {n : Int} {ta : Option Addr} {tl tc : Nat} {t : List Nd} (g : CfSt w X D s n ta tl tc t) (hb : Below X.heap.size X Y) : CfSt w Y D s n ta tl tc t :=
  ⟨g.b.below hb, g.n.below hb, g.r.below hb, fun j => (hb.frozen (p := ⟨D + 1, j, none⟩) (by have := g.hs; show D + 1 < _; omega)).trans (g.fr j), g.h.trans (hb.mono (by have := g.hs; omega)), Nat.le_trans g.hs hb.size⟩
theorem CfSt.drew {w X : World} {D : Nat} {s : List UInt8} {n : Int} {ta : Option Addr} {tl tc : Nat} {t : List Nd} (g : CfSt w X D s n ta tl tc t) : CfSt w X.drew D s n ta tl tc t :=
  g.below ((Below.refl _ _).grown (grown_drew X none) (Nat.le_refl _) (fun k e => by cases e))



end Go.Proofs.Ytkjojhkpoooimaa
