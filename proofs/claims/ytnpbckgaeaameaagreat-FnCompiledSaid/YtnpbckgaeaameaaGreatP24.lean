/-
  Parts of one proof, one behind the other: TreeI3, RegT, NeedC.
-/
import Derived.Test.YtnpbckgaeaameaaGreatP23
import Derived.Test.YtnpbckgaeaameaaGreatP2
import Derived.Deep.RegionHeld
import Derived.RegionTactic
import Derived.Test.YtnpbckgaeaameaaGreatP22
import Derived.Test.YtnpbckgaeaameaaGreatP10

/-! The contracts of chapter 6's landed code: NodeOk, KidsOf, EndOf, TreeOk, PartsOf. -/
namespace Go.Proofs.YtnpbckgaeaameaaGreat
open Go.RowKit

theorem implNodeOk (n : Nd) (w : World) (_hi : IntN n) (hp : n.2.2.1.length ≤ 1048576) (hf : n.2.2.2.length ≤ 1048576) :
    Calls Tryz.prog 87 #[nodeVal n] w fun e w' => e = .returned (.bool (nodeB n)) ∧ Below w.heap.size w w' := by
  obtain ⟨k, a, p, f⟩ := n
  rcases shOf_kinds (k, a, p, f) with ⟨_, e⟩ | ⟨_, e⟩ | ⟨_, e⟩ | ⟨_, e⟩ | ⟨_, e⟩ | ⟨_, e⟩
  · rcases hs : shOk (.num a) with _ | _
    · exact nodeOk_num_no k a p f a w e hs
    · exact nodeOk_num_yes k a p f a w e hs
  · rcases hs : shOk (.arg a) with _ | _
    · exact nodeOk_arg_no k a p f a w e hs
    · exact nodeOk_arg_yes k a p f a w e hs
  · exact nodeOk_pair_yes k a p f k w e rfl
  · exact nodeOk_cond_yes k a p f w e rfl
  · rcases hs : shOk (.call p f a) with _ | _
    · exact nodeOk_call_no k a p f p f a w e hs hp hf
    · exact nodeOk_call_yes k a p f p f a w e hs hp hf
  · exact nodeOk_no_no k a p f w e rfl

set_option maxHeartbeats 1000000 in
set_option maxRecDepth 100000 in
theorem implKidsOf (n : Nd) (w : World) (hi : IntN n) (hp : n.2.2.1.length ≤ 1048576) (hf : n.2.2.2.length ≤ 1048576) :
    Calls Tryz.prog 73 #[nodeVal n] w fun e w' => e = .returned (.int .i64 (kidsOfV n)) ∧ Below w.heap.size w w' := by
  have HC : Hid (_) := fun W : World => implNodeOk n W hi hp hf
  have HS : Hid (_) := fun W : World => implShapeOf n W
  have HV : Hid (nodeB n = false → kidsOfV n = -1) := fun h => by unfold kidsOfV; rw [if_neg (by rw [h]; simp)]
  have HV2 : Hid (nodeB n = true → kidsOfV n = shKids (shOf n)) := fun h => by unfold kidsOfV; rw [if_pos h, kids_sh h]
  generalize nodeB n = nb at HC HV HV2
  generalize shOf n = s at HS HV2
  have HK : Hid (_) := fun W : World => implKidsOfShape s W
  obtain ⟨k, a, p, f⟩ := n
  unfold nodeVal at HC HS ⊢
  simp only at HC HS ⊢
  clear hi hp hf
  obtain ⟨W0, hW0⟩ : ∃ W0, w.alloc (.cells #[.int .i64 k, .int .i64 a, .string ⟨p.toArray⟩, .string ⟨f.toArray⟩] 70) = W0 := ⟨_, rfl⟩
  have st := NdAt.new w k a p f
  have hB : Below w.heap.size w W0 := by rw [← hW0]; exact (Below.refl _ w).alloc (Nat.le_refl _) _
  rw [hW0] at st
  obtain ⟨D, hD0⟩ : ∃ D, w.heap.size = D := ⟨_, rfl⟩
  rw [hD0] at st hB
  have hD : Hid (w.heap.size = D) := hD0
  have c0 := st.c0
  have c1 := st.c1
  have c2 := st.c2
  have c3 := st.c3
  go_enter Tryz.func73, Tryz.ntmps73
  go_wp2_with fail
  refine Calls.mono (HC.out _) ?_
  rintro e wn ⟨rfl, hbn⟩
  replace hB := hB.trans (hbn.mono (Nat.le_trans (Nat.le_of_eq hD.out.symm) hB.size))
  replace st := st.below hbn
  replace c0 := st.c0
  replace c1 := st.c1
  replace c2 := st.c2
  replace c3 := st.c3
  clear hbn
  rcases nb with _ | _
  · have HO : Hid (kidsOfV (k, a, p, f) = -1) := HV.out rfl
    go_wp2
    go_ret
    exact ⟨by rw [HO.out]; rfl, by rw [hD.out]; exact hB⟩
  · have HO : Hid (kidsOfV (k, a, p, f) = shKids s) := HV2.out rfl
    go_wp2_with fail
    refine Calls.mono (HS.out _) ?_
    rintro e wn ⟨rfl, hbn⟩
    replace hB := hB.trans (hbn.mono (Nat.le_trans (Nat.le_of_eq hD.out.symm) hB.size))
    clear hbn st c0 c1 c2 c3
    go_wp2_with fail
    refine Calls.mono (HK.out _) ?_
    rintro e wn ⟨rfl, hbn⟩
    replace hB := hB.trans (hbn.mono (Nat.le_trans (Nat.le_of_eq hD.out.symm) hB.size))
    go_wp2
    go_ret
    exact ⟨by rw [HO.out]; rfl, by rw [hD.out]; exact hB⟩

theorem kids_of (n : Nd) : (nodeB n = false ∧ kidsOfV n = -1) ∨ (nodeB n = true ∧ kidsOfV n = (kidsN n : Int) ∧ kidsN n ≤ 3) := by
  rcases h : nodeB n with _ | _
  · exact Or.inl ⟨rfl, by unfold kidsOfV; rw [if_neg (by rw [h]; simp)]⟩
  · obtain ⟨h1, h2⟩ := kidsV_ok h
    exact Or.inr ⟨rfl, by unfold kidsOfV; rw [if_pos h]; exact h1, h2⟩

set_option maxHeartbeats 2000000 in
set_option maxRecDepth 100000 in
theorem implEndOf (a : Option Addr) (len cap : Nat) (ns : List Nd) (at_ : Int) (w : World) (hin : NodesIn w a len ns) (hint : IntT ns) (hsh : ShortT ns) (hlen : len ≤ 1048576) (hat : -9223372036854775808 ≤ at_ ∧ at_ ≤ 9223372036854775807) :
    Calls Tryz.prog 39 #[.slice a len cap, .int .i64 at_] w fun e w' => e = .returned (.int .i64 (endV ns at_)) ∧ Below w.heap.size w w' := by
  obtain rfl : ns.length = len := hin.1
  by_cases h0 : at_ < 0
  · have HE : Hid (endV ns at_ = -1) := endV_out ns at_ (Or.inl h0)
    go_enter Tryz.func39, Tryz.ntmps39
    go_wp2
    go_ret
    exact ⟨by rw [HE.out]; rfl, Below.refl _ _⟩
  · obtain ⟨k0, rfl⟩ : ∃ k0 : Nat, at_ = (k0 : Int) := Int.eq_ofNat_of_zero_le (by omega)
    have h0' : ¬ (k0 : Int) < 0 := by omega
    have HE : Hid (endTo ns k0 1 = endV ns (k0 : Int)) := by
      by_cases hk : k0 < ns.length
      · exact endTo_start hk
      · exact (by rw [endTo_over (by omega), endV_out ns (k0 : Int) (Or.inr (by omega))] : endTo ns k0 1 = endV ns (k0 : Int))
    have HI : Hid (NodesIn w a ns.length ns) := hin
    have HS : Hid (ShortT ns) := hsh
    have HN0 : Hid (IntT ns) := hint
    clear hin hsh hint h0
    go_enter Tryz.func39, Tryz.ntmps39
    go_wp2
    go_loopw [1, 5] (fun av ov wr => ∃ k o : Nat, av = .int .i64 k ∧ ov = .int .i64 o ∧ (k ≤ ns.length ∨ (k = k0 ∧ o = 1)) ∧ o ≤ 1 + 3 * k ∧ Hid (endTo ns k o = endV ns (k0 : Int)) ∧ Below w.heap.size w wr) (fun av _ _ => ns.length - (intOf av).toNat)
    case atStart => exact ⟨k0, 1, rfl, rfl, Or.inr ⟨rfl, rfl⟩, by omega, HE, Below.refl _ _⟩
    case round =>
      obtain ⟨k, o, rfl, rfl, hk, ho, HT, hb⟩ := hrel
      clear HE
      by_cases hoz : o = 0
      · subst hoz
        have HF : Hid ((k : Int) = endV ns (k0 : Int)) := by exact (by rw [← HT.out, endTo_zero] : (k : Int) = endV ns (k0 : Int))
        go_wp2
        go_ret
        exact ⟨by rw [← HF.out]; rfl, hb⟩
      · obtain ⟨o', rfl⟩ : ∃ o', o = o' + 1 := ⟨o - 1, by omega⟩
        have ho1 : (0 : Int) < ((o' + 1 : Nat) : Int) := by omega
        by_cases hkl : (ns.length : Int) ≤ (k : Int)
        · have HF : Hid (endV ns (k0 : Int) = -1) := by exact (by rw [← HT.out, endTo_over (by omega)] : endV ns (k0 : Int) = -1)
          clear hoz
          go_wp2
          go_ret
          exact ⟨by rw [HF.out]; rfl, hb⟩
        · obtain ⟨b, off, rfl, hbl, hcells⟩ := (HI.out.below hb).at (by omega)
          obtain ⟨c0, c1, c2, c3⟩ := hcells k (by omega)
          have hs := HS.out k
          have hz := HN0.out k
          obtain ⟨n, hn⟩ : ∃ n, ns.getD k nd0 = n := ⟨_, rfl⟩
          rw [hn] at c0 c1 c2 c3 hs hz
          have HN : Hid (ns.getD k nd0 = n) := hn
          have HC : Hid (_) := fun W : World => implKidsOf n W hz hs.1 hs.2
          have HK : Hid (_) := kids_of n
          generalize hkn : kidsOfV n = kn at HC HK
          obtain ⟨kd, aa, p, f⟩ := n
          unfold nodeVal at HC
          simp only at c0 c1 c2 c3 HC
          clear hn hcells hoz hs hz hkn
          go_wp2_with fail
          refine Calls.mono (HC.out _) ?_
          rintro e w1 ⟨rfl, hb1⟩
          have hB1 := hb.trans (hb1.mono hb.size)
          clear c0 c1 c2 c3 hb1 hb HC
          rcases HK.out with ⟨hnb, rfl⟩ | ⟨hnb, rfl, hk3⟩
          · have HF : Hid (endV ns (k0 : Int) = -1) := by exact (by rw [← HT.out, endTo_bad (by omega) (by rw [HN.out]; exact hnb)] : endV ns (k0 : Int) = -1)
            clear hnb
            go_wp2
            go_ret
            exact ⟨by rw [HF.out]; rfl, hB1⟩
          · have HT2 : Hid (endTo ns (k + 1) (o' + kidsN (kd, aa, p, f)) = endV ns (k0 : Int)) := by
              have := endTo_round (o := o') (show k < ns.length by omega) (by rw [HN.out]; exact hnb)
              rw [HN.out] at this
              exact (by rw [← this]; exact HT.out : endTo ns (k + 1) (o' + kidsN (kd, aa, p, f)) = endV ns (k0 : Int))
            clear hnb
            generalize kidsN (kd, aa, p, f) = q at hk3 HT2 ⊢
            have hq1 : ((q : Int) == -1) = false := beq_eq_false_iff_ne.2 (by omega)
            have hkk : k ≤ ns.length := by omega
            clear hk HK
            go_wp2
            go_roundw
            case rel => exact ⟨k + 1, o' + q, by go_num, by go_num, Or.inl (by omega), by omega, HT2, hB1⟩
            case measure => simp [intOf]; omega

theorem treeB_many (ns : List Nd) (h : ¬ (1 ≤ ns.length ∧ ns.length ≤ 60)) : treeB ns = false := decide_eq_false (fun g => h g.1)
theorem treeB_end (ns : List Nd) (h : 1 ≤ ns.length ∧ ns.length ≤ 60) : treeB ns = (endV ns 0 == (ns.length : Int)) := by
  rw [Bool.eq_iff_iff, beq_iff_eq]
  unfold treeB
  rw [decide_eq_true_iff]
  exact ⟨fun g => g.2, fun g => ⟨h, g⟩⟩

set_option maxHeartbeats 1000000 in
set_option maxRecDepth 100000 in
theorem implTreeOk (a : Option Addr) (len cap : Nat) (ns : List Nd) (w : World) (hin : NodesIn w a len ns) (hint : IntT ns) (hsh : ShortT ns) (hlen : len ≤ 1048576) :
    Calls Tryz.prog 20 #[.slice a len cap] w fun e w' => e = .returned (.bool (treeB ns)) ∧ Below w.heap.size w w' := by
  obtain rfl : ns.length = len := hin.1
  have HC : Hid (_) := implEndOf a ns.length cap ns 0 w hin hint hsh hlen (by omega)
  by_cases h1 : (1 : Int) ≤ (ns.length : Int)
  · by_cases h2 : (ns.length : Int) ≤ 60
    · have HT : Hid (treeB ns = (endV ns 0 == (ns.length : Int))) := treeB_end ns (by omega)
      generalize endV ns 0 = e0 at HC HT
      clear hin hint hsh
      go_enter Tryz.func20, Tryz.ntmps20
      go_wp2_with fail
      refine Calls.mono HC.out ?_
      rintro e w1 ⟨rfl, hb1⟩
      go_wp2
      go_ret
      exact ⟨by rw [HT.out]; rfl, hb1⟩
    · have HT : Hid (treeB ns = false) := treeB_many ns (by omega)
      clear hin hint hsh
      go_enter Tryz.func20, Tryz.ntmps20
      go_wp2
      go_ret
      exact ⟨by rw [HT.out]; rfl, Below.refl _ _⟩
  · have HT : Hid (treeB ns = false) := treeB_many ns (by omega)
    clear hin hint hsh
    go_enter Tryz.func20, Tryz.ntmps20
    go_wp2
    go_ret
    exact ⟨by rw [HT.out]; rfl, Below.refl _ _⟩

/-- Parts one behind the other go up. -/
theorem chain_neg (l : List Nd) : ∀ r, chain l r (-1) = -1
  | 0 => rfl
  | r + 1 => by rw [chain, endV_out l (-1) (by omega)]; exact chain_neg l r
theorem endV_gt {l : List Nd} {t : Int} (h : 0 ≤ endV l t) : 0 ≤ t ∧ t < endV l t := by
  by_cases ht : t < 0
  · rw [endV_out l t (Or.inl ht)] at h; omega
  · obtain ⟨k, rfl⟩ : ∃ k : Nat, t = (k : Int) := Int.eq_ofNat_of_zero_le (by omega)
    exact ⟨by omega, (end_parts h).2.2.2.1⟩
theorem chain_ge (l : List Nd) : ∀ (r : Nat) (t : Int), 0 ≤ chain l r t → t ≤ chain l r t ∧ (0 < r → t < chain l r t)
  | 0, t, _ => ⟨Int.le_refl _, fun h => by omega⟩
  | r + 1, t, h => by
    rw [chain] at h ⊢
    by_cases he : 0 ≤ endV l t
    · have h1 := endV_gt he
      have h2 := (chain_ge l r (endV l t) h).1
      exact ⟨by omega, fun _ => by omega⟩
    · have h1 := (endV_le l t).1
      rw [show endV l t = -1 by omega, chain_neg] at h
      omega

set_option maxHeartbeats 2000000 in
set_option maxRecDepth 100000 in
theorem implPartsOf (a : Option Addr) (len cap : Nat) (ns : List Nd) (at_ : Int) (w : World) (hin : NodesIn w a len ns) (hint : IntT ns) (hsh : ShortT ns) (hlen : len ≤ 1048576) (hat : -9223372036854775808 ≤ at_ ∧ at_ ≤ 9223372036854775807) :
    Calls Tryz.prog 43 #[.slice a len cap, .int .i64 at_] w fun e w' => ∃ v, e = .returned v ∧ w'.ownsRow w.heap.size 2 1 v (partsV ns at_).length (intsV (partsV ns at_)) ∧ Below w.heap.size w w' := by
  obtain rfl : ns.length = len := hin.1
  have HE : Hid (_) := fun (j : Int) (hj : -9223372036854775808 ≤ j ∧ j ≤ 9223372036854775807) (W : World) (h : NodesIn W a ns.length ns) => implEndOf a ns.length cap ns j W h hint hsh hlen hj
  have HI : Hid (NodesIn w a ns.length ns) := hin
  have hown0 := (World.ownsRow_lit (base := w.heap.size) (e := 2) (size := 1) w #[] 0 (Nat.le_refl _) (by decide) rfl)
  have hB0 : Below w.heap.size w (w.alloc (.cells #[] 2)) := (Below.refl _ w).alloc (Nat.le_refl _) _
  obtain ⟨i0, hi, hz0, hz1, hz2⟩ := info_parts infoInt
  clear hin hint hsh
  by_cases hneg : endV ns at_ < 0
  · have HP : Hid (partsV ns at_ = []) := by exact (by unfold partsV; rw [if_pos hneg] : partsV ns at_ = [])
    have hee : endV ns at_ = -1 := by have := (endV_le ns at_).1; omega
    clear hneg
    go_enter Tryz.func43, Tryz.ntmps43
    go_wp2_with fail
    refine Calls.mono (HE.out at_ hat _ (HI.out.below hB0)) ?_
    rintro e w1 ⟨rfl, hb1⟩
    rw [hee]
    have hown1 := own_below hown0 hb1
    have hB1 := hB0.trans (hb1.mono hB0.size)
    clear hb1 hown0 hB0
    go_wp2
    go_ret
    exact ⟨_, rfl, by rw [HP.out]; exact hown1, hB1⟩
  · have hin2 : ¬ (at_ < 0 ∨ (ns.length : Int) ≤ at_) := fun h => hneg (by rw [endV_out ns at_ h]; omega)
    obtain ⟨k, rfl⟩ : ∃ k : Nat, at_ = (k : Int) := Int.eq_ofNat_of_zero_le (by omega)
    obtain ⟨hk, hnb, hch, hlt, hle⟩ := end_parts (by omega : 0 ≤ endV ns (k : Int))
    have HP : Hid (partsV ns (k : Int) = partsGo ns (kidsN (ns.getD k nd0)) ((k : Int) + 1)) := by
      exact (by unfold partsV; rw [if_neg hneg]; rfl : partsV ns (k : Int) = partsGo ns (kidsN (ns.getD k nd0)) ((k : Int) + 1))
    have HCH : Hid (chain ns (kidsN (ns.getD k nd0)) ((k : Int) + 1) = endV ns (k : Int)) := hch
    have hq3 := (kidsV_ok hnb).2
    rw [show ns.getD k (0, 0, [], []) = ns.getD k nd0 from rfl] at hq3
    generalize kidsN (ns.getD k nd0) = q at HP HCH hq3
    have hC := HE.out (k : Int) hat _ (HI.out.below hB0)
    obtain ⟨E, hE⟩ : ∃ E : Int, endV ns (k : Int) = E := ⟨_, rfl⟩
    rw [hE] at HCH hlt hle hC
    have hC2 : Hid (_) := hC
    have hEn : ((E == -1) = false) := beq_eq_false_iff_ne.2 (by omega)
    have hkl : (k : Int) < 1048576 := by omega
    have hEl : E ≤ 1048576 := by omega
    have hE0 : 0 ≤ E := by omega
    clear hneg hin2 hE hnb hC hch hat hlt hle
    go_enter Tryz.func43, Tryz.ntmps43
    go_wp2_with fail
    refine Calls.mono hC2.out ?_
    rintro e w1 ⟨rfl, hb1⟩
    have hown1 := own_below hown0 hb1
    have hB1 := hB0.trans (hb1.mono hB0.size)
    clear hb1 hown0 hB0 hC2
    go_wp2
    go_loopw [5, 7] (fun v nx wr => ∃ (ds : List Int) (r : Nat) (t : Int), nx = .int .i64 t ∧ ds.length + r = q ∧ -1 ≤ t ∧ t ≤ 1048576 ∧ Hid (chain ns r t = E) ∧ Hid (ds ++ partsGo ns r t = partsGo ns q ((k : Int) + 1)) ∧ Hid (wr.ownsRow w.heap.size 2 1 v ds.length (intsV ds)) ∧ Below w.heap.size w wr) (fun _ nx _ => (E - intOf nx).toNat)
    case atStart => exact ⟨[], q, (k : Int) + 1, by go_num, by simp, by omega, by omega, HCH, (rfl : [] ++ partsGo ns q ((k : Int) + 1) = _), hown1, hB1⟩
    case round =>
      obtain ⟨ds, r, t, rfl, hr, ht0, ht1, HG, HQ, HV, hb⟩ := hrel
      clear hown1 hB1
      by_cases hrz : r = 0
      · subst hrz
        have hte : t = E := HG.out
        subst hte
        have HF : Hid (ds = partsV ns (k : Int)) := by
          have h := HQ.out
          rw [partsGo, List.append_nil] at h
          exact (by rw [HP.out, h] : ds = partsV ns (k : Int))
        go_wp2
        go_ret
        exact ⟨_, rfl, by rw [← HF.out]; exact HV.out, hb⟩
      · obtain ⟨r', rfl⟩ : ∃ r', r = r' + 1 := ⟨r - 1, by omega⟩
        have htE : t < E := by have h := (chain_ge ns (r' + 1) t (by rw [HG.out]; exact hE0)).2 (by omega); rw [HG.out] at h; exact h
        have hnc := new_int wr t
        have hV := HV.out
        have hB0 := hb
        clear hrz HV
        go_wp2_with (at_builtin; refine wpList_append_own_at _ rfl _ _ 55 rfl w.heap.size 2 i0 _ 1 8 Tryz.underlying55 hi hz0 hz1 hz2 rfl (by decide) _ _ _ rfl (hV.alloc _) ⟨wr.heap.size, 0, none⟩ 1 1 (intsV [t]) rfl rfl ?c1 ?c2 ?c3 ?c4 ?c5 ?_)
        first | (case c1 => exact hnc) | skip
        first | (case c2 => exact intsV_one _) | skip
        first | (case c3 => unfold maxLen; omega) | skip
        first | (case c4 => omega) | skip
        first | (case c5 => have := hB0.size; simp; try omega) | skip
        intro v' w3 hown3 hgrow3 hnil3 hat3
        have HV3 : Hid (w3.ownsRow w.heap.size 2 1 v' (ds ++ [t]).length (intsV (ds ++ [t]))) := by
          exact (by rw [intsV_append, List.length_append]; exact hown3 : w3.ownsRow w.heap.size 2 1 v' (ds ++ [t]).length (intsV (ds ++ [t])))
        have hb3 : Below w.heap.size w w3 := (hB0.alloc hB0.size _).grown hgrow3 (by have := hB0.size; simp; omega) (fun q e => (hV.lt q e).1)
        clear hown3 hgrow3 hnil3 hat3 hV hB0 hnc hb
        have HQ2 : Hid ((ds ++ [t]) ++ partsGo ns r' (endV ns t) = partsGo ns q ((k : Int) + 1)) := by
          exact (by rw [← HQ.out, partsGo, List.append_assoc]; rfl : (ds ++ [t]) ++ partsGo ns r' (endV ns t) = partsGo ns q ((k : Int) + 1))
        have HG2 : Hid (chain ns r' (endV ns t) = E) := HG.out
        have he := endV_le ns t
        have hgt : t < endV ns t := by
          have hge : 0 ≤ endV ns t := by
            rcases Int.lt_or_le (endV ns t) 0 with hx | hx
            · have h2 := HG2.out
              rw [show endV ns t = -1 by omega, chain_neg] at h2
              omega
            · exact hx
          exact (endV_gt hge).2
        have hC := HE.out t (by omega) _ (HI.out.below hb3)
        obtain ⟨t', htt⟩ : ∃ t', endV ns t = t' := ⟨_, rfl⟩
        rw [htt] at HQ2 HG2 he hgt hC
        have hC2 : Hid (_) := hC
        clear htt hC HQ HG
        go_wp2_with fail
        refine Calls.mono hC2.out ?_
        rintro e w4 ⟨rfl, hb4⟩
        have hB4 := hb3.trans (hb4.mono hb3.size)
        have HV4 : Hid (w4.ownsRow w.heap.size 2 1 v' (ds ++ [t]).length (intsV (ds ++ [t]))) := own_below HV3.out hb4
        have hdl : (ds ++ [t]).length + r' = q := by simp; omega
        clear hb4 hb3 HV3 hC2
        go_wp2
        go_roundw
        case rel => exact ⟨ds ++ [t], r', t', rfl, hdl, by omega, by omega, HG2, HQ2, HV4, hB4⟩
        case measure => simp [intOf]; omega

end Go.Proofs.YtnpbckgaeaameaaGreat

/-! A region that draws its order and stores, at its end, into a cell that it has read: what is held of the world is asked for behind every operation but those of E, which wait for all that is taken first. -/
namespace Go.Proofs.YtnpbckgaeaameaaGreat
open Go.RowKit

section
variable {P : Program} {ops : Array Oper} {Q : Exit → Act → World → Prop} {md : Region.Mode} {S : World → Prop} {E : List Nat}

/-- Whatever comes up next, and so on to the end; S holds behind each that is not of E. -/
def Till (P : Program) (md : Region.Mode) (ops : Array Oper) (Q : Exit → Act → World → Prop) (E : List Nat) (S : World → Prop) : Nat → Array Bool → Act → World → Prop
  | 0 => fun listed a w => Region.ready md ops listed = [] ∧ Q .normal a w
  | k + 1 => fun listed a w => (Region.ready md ops listed = [] → Q .normal a w) ∧
      ∀ i, i ∈ Region.ready md ops listed → wpOp P ops Q i (fun b v => (i ∉ E → S v) ∧ Till P md ops Q E S k (listed.setIfInBounds i true) b v) a w

theorem Till.any : ∀ (k : Nat) {listed : Array Bool} {a : Act} {w : World}, Till P md ops Q E S k listed a w → wpAny P md ops Q k listed a w
  | 0, _, _, _, h => h
  | k + 1, _, _, _, h => ⟨h.1, fun i hi => wpOp_mono (fun _ _ x => Till.any k x.2) (h.2 i hi)⟩
theorem Till.done {listed : Array Bool} {a : Act} {w : World} (hr : Region.ready md ops listed = []) (h : Q .normal a w) : ∀ k, Till P md ops Q E S k listed a w
  | 0 => ⟨hr, h⟩
  | _ + 1 => ⟨fun _ => h, fun i hi => by rw [hr] at hi; cases hi⟩

/-- What has come up has come behind all that it waits for. -/
def Shut11 (md : Region.Mode) (ops : Array Oper) (listed : Array Bool) : Prop := ∀ j o, ops[j]? = some o → listed.getD j false = true → ∀ e ∈ o.after, Region.binds md e = true → listed.getD e.on false = true
theorem Shut11.start (n : Nat) : Shut11 md ops (Array.replicate n false) := fun j o _ h => by
  rw [Array.getD_eq_getD_getElem?] at h
  simp only [Array.getElem?_replicate] at h
  split at h <;> cases h
theorem Shut11.set {listed : Array Bool} {i : Nat} (h : Shut11 md ops listed) (hi : i ∈ Region.ready md ops listed) : Shut11 md ops (listed.setIfInBounds i true) := fun j o ho hj e he hb => by
  refine getD_set_true ?_
  rcases Nat.decEq i j with hne | heq
  · rw [getD_set_ne false hne] at hj
    exact h j o ho hj e he hb
  · subst heq
    obtain ⟨_, p, hp, hall⟩ := mem_ready.1 hi
    rw [ho] at hp
    injection hp with hp
    subst hp
    exact hall e he hb
/-- m waits for i, by way of others. -/
def waitsB (md : Region.Mode) (ops : Array Oper) : Nat → Nat → Nat → Bool
  | 0, _, _ => false
  | k + 1, m, i => match ops[m]? with
    | some o => o.after.any (fun e => Region.binds md e && (e.on == i || waitsB md ops k e.on i))
    | none => false
theorem waits_listed {listed : Array Bool} (h : Shut11 md ops listed) {i : Nat} : ∀ (k m : Nat), (∀ o, ops[m]? = some o → ∀ e ∈ o.after, Region.binds md e = true → listed.getD e.on false = true) → waitsB md ops k m i = true → listed.getD i false = true
  | 0, _, _, hw => by cases hw
  | k + 1, m, hd, hw => by
    unfold waitsB at hw
    cases ho : ops[m]? with
    | none => rw [ho] at hw; cases hw
    | some o =>
      rw [ho] at hw
      simp only [Array.any_eq_true'] at hw
      obtain ⟨e, he, h2⟩ := hw
      rw [Bool.and_eq_true, Bool.or_eq_true] at h2
      have hl := hd o ho e he h2.1
      rcases h2.2 with h3 | h3
      · rw [← beq_iff_eq.1 h3]; exact hl
      · exact waits_listed h k e.on (fun p hp f hf hb => h e.on p hp hl f hf hb) h3

/-- One that may come up, and for which all of E wait, is taken first. -/
theorem Till.first {i : Nat} {o : Oper} {v : Value} {d : Nat} (ho : ops[i]? = some o) (hE : E.all (fun m => waitsB md ops d m i) = true) (hsel : ∀ (j : Nat) (p : Oper) cs b, ops[j]? = some p → p.op ≠ .select cs b)
    (hQ : ∀ c a w, Q (.panic c) (a.put o.dst v) w → Q (.panic c) a w) : ∀ (k : Nat) (listed : Array Bool) (a : Act) (w : World), Shut11 md ops listed →
      (∀ j p, ops[j]? = some p → j ≠ i → listed.getD j true = false → (∀ e ∈ p.after, Region.binds md e = true → e.on ≠ i) → o.apart ops p = true) →
      i ∈ Region.ready md ops listed → YieldsIf P ops S o v a → S w →
      Till P md ops Q E S k (listed.setIfInBounds i true) (a.put o.dst v) w → Till P md ops Q E S (k + 1) listed a w := by
  intro k
  induction k with
  | zero =>
    intro listed a w hsh hfree hr hy hS H
    refine ⟨fun h => (by rw [h] at hr; cases hr), fun j hj => ?_⟩
    rcases Nat.decEq j i with hne | heq
    · have hji : j ∈ Region.ready md ops (listed.setIfInBounds i true) := ready_mono hj hne
      rw [H.1] at hji
      cases hji
    · subst heq
      exact hy.wpOp ho hS ⟨fun _ => hS, H⟩
  | succ k ih =>
    intro listed a w hsh hfree hr hy hS H
    refine ⟨fun h => (by rw [h] at hr; cases hr), fun j hj => ?_⟩
    rcases Nat.decEq j i with hne | heq
    · have hji : j ∈ Region.ready md ops (listed.setIfInBounds i true) := ready_mono hj hne
      obtain ⟨hun, p, hp, hall⟩ := mem_ready.1 hj
      have h0 : listed.getD i true = false := (mem_ready.1 hr).1
      have h0f : listed.getD i false = false := by
        rcases Nat.lt_or_ge i listed.size with hl | hl
        · simp [hl] at h0 ⊢; exact h0
        · simp [Array.getElem?_eq_none hl] at h0
      have hnot : ∀ e ∈ p.after, Region.binds md e = true → e.on ≠ i := fun e he hb hei => by
        have h1 := hall e he hb
        rw [hei, h0f] at h1
        cases h1
      have hjE : j ∉ E := fun hjE => by
        have h1 := waits_listed hsh d j (fun q hq e he hb => by rw [hp] at hq; injection hq with hq; subst hq; exact hall e he hb) (List.all_eq_true.1 hE j hjE)
        rw [h0f] at h1
        cases h1
      have h2 := wpOp_putIf hp (hfree j p hp hne hun hnot) (fun cs b => hsel i o cs b ho) (fun cs b => hsel j p cs b hp) hQ hy (H.2 j hji)
      have hfree' : ∀ q r, ops[q]? = some r → q ≠ i → (listed.setIfInBounds j true).getD q true = false → (∀ e ∈ r.after, Region.binds md e = true → e.on ≠ i) → o.apart ops r = true := fun q r hq hqi hqu hqn => by
        refine hfree q r hq hqi ?_ hqn
        rcases Nat.decEq j q with hjq | hjq
        · rw [getD_set_ne true hjq] at hqu; exact hqu
        · subst hjq; exact hun
      refine wpOp_mono (fun b u h3 => ⟨h3.2.1, ih (listed.setIfInBounds j true) b u (hsh.set hj) hfree' (ready_mono hr (Ne.symm hne)) h3.1 (h3.2.1 hjE) ?_⟩) h2
      rw [Array.setIfInBounds_comm _ _ hne]
      exact h3.2.2
    · subst heq
      exact hy.wpOp ho hS ⟨fun _ => hS, H⟩

/-! The moves of a walk. -/
theorem Till.region {id : Nat} {a : Act} {w : World} (hm : P.follows .mixedOrders = true) (hS : S w.drew) (h : S w.drew → Shut11 .any ops (Array.replicate ops.size false) → Till P .any ops Q E S ops.size (Array.replicate ops.size false) a w.drew) : (Code.region id ops true).wp P Q a w :=
  wp_region_any hm (Till.any _ (h hS (Shut11.start _)))
theorem Till.take {i : Nat} {o : Oper} {v : Value} {d k : Nat} {listed : Array Bool} {a : Act} {w : World} (ho : ops[i]? = some o) (hs : Region.noSelect ops = true) (hf : Region.free md ops listed i = true) (hr : (Region.ready md ops listed).contains i = true) (hE : E.all (fun m => waitsB md ops d m i) = true)
    (hQ : ∀ c a w, Q (.panic c) (a.put o.dst v) w → Q (.panic c) a w) (hy : YieldsIf P ops S o v a) (hS : S w) (hsh : Shut11 md ops listed)
    (h : Shut11 md ops (listed.setIfInBounds i true) → Till P md ops Q E S k (listed.setIfInBounds i true) (a.put o.dst v) w) : Till P md ops Q E S (k + 1) listed a w :=
  Till.first ho hE (Region.noSelect_spec hs) hQ k listed a w hsh (Region.free_spec ho hf) (by simpa using hr) hy hS (h (hsh.set (by simpa using hr)))
theorem Till.one {i : Nat} {o : Oper} {k : Nat} {listed : Array Bool} {a : Act} {w : World} (hr : Region.ready md ops listed = [i]) (ho : ops[i]? = some o) (hsh : Shut11 md ops listed)
    (h : ∀ K' : Act → World → Prop, Shut (∀ b v, S v → (S v → Shut11 md ops (listed.setIfInBounds i true) → Till P md ops Q E S k (listed.setIfInBounds i true) b v) → K' b v) → if Region.wanted o (yielded ops a.tmps) = true then Oper.wp P o a w K' Q else K' (a.put o.dst undef) w) : Till P md ops Q E S (k + 1) listed a w := by
  have hi : i ∈ Region.ready md ops listed := by rw [hr]; exact List.mem_singleton_self i
  refine ⟨fun h0 => (by rw [h0] at hi; cases hi), fun j hj => ?_⟩
  rw [hr] at hj
  obtain rfl := List.mem_singleton.1 hj
  exact wpOp_step ho (fun K' hK => h K' (fun b v hS hW => hK b v ⟨fun _ => hS, hW hS (hsh.set hi)⟩))
theorem Till.last {i : Nat} {o : Oper} {k : Nat} {listed : Array Bool} {a : Act} {w : World} (hr : Region.ready md ops listed = [i]) (ho : ops[i]? = some o) (hiE : i ∈ E)
    (h : ∀ K' : Act → World → Prop, Shut (∀ b v, Till P md ops Q E S k (listed.setIfInBounds i true) b v → K' b v) → if Region.wanted o (yielded ops a.tmps) = true then Oper.wp P o a w K' Q else K' (a.put o.dst undef) w) : Till P md ops Q E S (k + 1) listed a w := by
  have hi : i ∈ Region.ready md ops listed := by rw [hr]; exact List.mem_singleton_self i
  refine ⟨fun h0 => (by rw [h0] at hi; cases hi), fun j hj => ?_⟩
  rw [hr] at hj
  obtain rfl := List.mem_singleton.1 hj
  exact wpOp_step ho (fun K' hK => h K' (fun b v hW => hK b v ⟨fun hn => absurd hiE hn, hW⟩))
end

end Go.Proofs.YtnpbckgaeaameaaGreat

/-! Contracts of chapter 12's landed code: isPair, needOfPair, needOfOrdered, needOfCall. -/
namespace Go.Proofs.YtnpbckgaeaameaaGreat
open Go.RowKit

theorem info55x : ∃ i, Tryz.prog.info? 65 = some i ∧ i.zero = some (.agg (nv 0)) ∧ i.size = 60 ∧ i.bytes = 60 := by
  have h := info55
  cases hq : Tryz.prog.info? 65 with
  | none => rw [hq] at h; cases h
  | some i =>
    rw [hq] at h
    injection h with h
    injection h with h1 h
    injection h with h2 h3
    exact ⟨i, rfl, h1, h2, h3⟩
theorem step_of_wp {P : Program} {ops : Array Oper} {o : Oper} {a : Act} {w : World} {K : Act → World → Prop} {Q : Exit → Act → World → Prop} {E : Prop} (hgd : o.guard = none) (h : Oper.wp P o a w K Q) :
    if Region.wanted o (yielded ops a.tmps) = true then Oper.wp P o a w K Q else E := by
  rw [if_pos (by simp [Region.wanted, hgd])]
  exact h
theorem ns_new (w : World) (x y : Nat) (t : TypeId) : NsIn (w.alloc (.cells (nvL x ++ nvL y).toArray t)) (some ⟨w.heap.size, 0, none⟩) [x, y] := by
  have hA := heap_alloc_new w (.cells (nvL x ++ nvL y).toArray t)
  have hs : w.heap.size < (w.alloc (.cells (nvL x ++ nvL y).toArray t)).heap.size := by simp
  intro j hj
  refine ⟨_, 0, rfl, hs, fun q v hv => ?_⟩
  have hq : q < 60 := by have := (List.getElem?_eq_some_iff.1 hv).1; rw [nvL_len] at this; exact this
  rw [cell_of_row _ _ _ _ _ _ hA]
  have hj2 : j = 0 ∨ j = 1 := by simp at hj; omega
  rcases hj2 with rfl | rfl
  · simp only [Nat.zero_mul, Nat.zero_add, List.getElem?_toArray]
    rw [List.getElem?_append_left (by rw [nvL_len]; exact hq)]
    exact hv
  · simp only [Nat.one_mul, Nat.zero_add, List.getElem?_toArray]
    rw [List.getElem?_append_right (by rw [nvL_len]; omega), nvL_len, Nat.add_sub_cancel_left]
    exact hv
section
variable {ops : Array Oper} {rest : List Oper} {op : Oper} {a : Act} {w : World} {Q : Exit → Act → World → Prop} {K : Act → World → Prop}
theorem wp_slice2_nv (p q : Operand) (ho : op.op = .buildSlice 38 2 #[(0, p), (1, q)]) (x y : Nat) (hp : a.eval p = .agg (nv x)) (hq : a.eval q = .agg (nv y))
    (h : ∀ Y g, NsIn Y (some ⟨g, 0, none⟩) [x, y] → Below w.heap.size w Y → w.heap.size ≤ g → K (a.put op.dst (.slice (some ⟨g, 0, none⟩) 2 2)) Y) : op.wp Tryz.prog a w K Q := by
  obtain ⟨i, hi, hz, hs, _⟩ := info55x
  refine wp_buildSlice _ _ 2 _ ho (nvL x ++ nvL y).toArray i _ Tryz.underlying38 hi hz (by rw [hs]; omega) (by rw [hs]; omega) ?_ (h _ _ (ns_new w x y _) ((Below.refl _ _).alloc (Nat.le_refl _) _) (Nat.le_refl _))
  have hf := Great.fill_whole (s := 60) (by omega) [.agg (nv x), .agg (nv y)] ((Array.range (2 * i.size)).map ((Value.agg (nv 0)).cells[· % (Value.agg (nv 0)).cells.size]!)) (fun v hv => by
    simp only [List.mem_cons, List.not_mem_nil, or_false] at hv
    rcases hv with rfl | rfl
    · exact nv_size x
    · exact nv_size y) (by simp [hs])
  have hfl : ([Value.agg (nv x), .agg (nv y)].flatMap fun v => v.cells.toList) = nvL x ++ nvL y := by simp [Value.cells, nv]
  rw [hfl] at hf
  rw [hs] at hf ⊢
  simp only [List.map_toArray, List.map_cons, List.map_nil, hp, hq]
  exact hf
theorem list_slice2_nv (hgd : op.guard = none) (p q : Operand) (ho : op.op = .buildSlice 38 2 #[(0, p), (1, q)]) (x y : Nat) (hp : a.eval p = .agg (nv x)) (hq : a.eval q = .agg (nv y))
    (h : ∀ Y g, NsIn Y (some ⟨g, 0, none⟩) [x, y] → Below w.heap.size w Y → w.heap.size ≤ g → wpList Tryz.prog ops Q rest (a.put op.dst (.slice (some ⟨g, 0, none⟩) 2 2)) Y) : wpList Tryz.prog ops Q (op :: rest) a w :=
  wpList_plain hgd fun _ hK => wp_slice2_nv p q ho x y hp hq (fun Y g h1 h2 h3 => hK _ _ (h Y g h1 h2 h3))
theorem src_new (w : World) (k : Nat) (t : TypeId) : Src (w.alloc (.cells (nv k) t)) (.slice (some ⟨w.heap.size, 0, none⟩) 1 1) 1 60 (nvL k) :=
  ⟨by rw [nvL_len], nvL_one k, Or.inr ⟨_, 1, rfl, fun j u hu => by rw [Addr.add_mid]; exact (Nb.new w k t).cs j u hu⟩⟩
theorem wp_slice1_nv (p : Operand) (ho : op.op = .buildSlice 38 1 #[(0, p)]) (k : Nat) (hp : a.eval p = .agg (nv k))
    (h : K (a.put op.dst (.slice (some ⟨w.heap.size, 0, none⟩) 1 1)) (w.alloc (.cells (nv k) 65))) : op.wp Tryz.prog a w K Q := by
  obtain ⟨i, hi, hz, hs, _⟩ := info55x
  refine wp_buildSlice _ _ 1 _ ho (nv k) i _ Tryz.underlying38 hi hz (by rw [hs]; omega) (by rw [hs]; omega) ?_ h
  have hf := Great.fill_whole (s := 60) (by omega) [.agg (nv k)] ((Array.range (1 * i.size)).map ((Value.agg (nv 0)).cells[· % (Value.agg (nv 0)).cells.size]!)) (fun v hv => by
    simp only [List.mem_cons, List.not_mem_nil, or_false] at hv
    rcases hv with rfl
    exact nv_size k) (by simp [hs])
  have hfl : ([Value.agg (nv k)].flatMap fun v => v.cells.toList) = nvL k := by simp [Value.cells, nv]
  rw [hfl] at hf
  rw [hs] at hf ⊢
  simp only [List.map_toArray, List.map_cons, List.map_nil, hp]
  exact hf
theorem list_slice1_nv (hgd : op.guard = none) (p : Operand) (ho : op.op = .buildSlice 38 1 #[(0, p)]) (k : Nat) (hp : a.eval p = .agg (nv k))
    (h : wpList Tryz.prog ops Q rest (a.put op.dst (.slice (some ⟨w.heap.size, 0, none⟩) 1 1)) (w.alloc (.cells (nv k) 65))) : wpList Tryz.prog ops Q (op :: rest) a w :=
  wpList_plain hgd fun _ hK => wp_slice1_nv p ho k hp (hK _ _ h)
end

def pairB (n : Nd) : Bool := decide (3 ≤ n.1) && decide (n.1 ≤ 6)
set_option maxHeartbeats 1000000 in
set_option maxRecDepth 100000 in
theorem implIsPair (n : Nd) (w : World) : Calls Tryz.prog 74 #[nodeVal n] w fun e w' => e = .returned (.bool (pairB n)) ∧ Below w.heap.size w w' := by
  obtain ⟨k, a, p, f⟩ := n
  have HP : Hid (pairB (k, a, p, f) = (decide (3 ≤ k) && decide (k ≤ 6))) := rfl
  unfold nodeVal
  simp only
  obtain ⟨W0, hW0⟩ : ∃ W0, w.alloc (.cells #[.int .i64 k, .int .i64 a, .string ⟨p.toArray⟩, .string ⟨f.toArray⟩] 70) = W0 := ⟨_, rfl⟩
  have st := NdAt.new w k a p f
  have hB : Below w.heap.size w W0 := by rw [← hW0]; exact (Below.refl _ w).alloc (Nat.le_refl _) _
  rw [hW0] at st
  have c0 := st.c0
  clear st
  by_cases h3 : 3 ≤ k
  · by_cases h6 : k ≤ 6
    · have hv : pairB (k, a, p, f) = true := by rw [HP.out, decide_eq_true h3, decide_eq_true h6]; rfl
      rw [hv]
      clear hv HP
      go_enter Tryz.func74, Tryz.ntmps74
      go_wp2
      go_ret
      exact ⟨rfl, hB⟩
    · have hv : pairB (k, a, p, f) = false := by rw [HP.out, decide_eq_true h3, decide_eq_false h6]; rfl
      rw [hv]
      clear hv HP
      go_enter Tryz.func74, Tryz.ntmps74
      go_wp2
      go_ret
      exact ⟨rfl, hB⟩
  · have hv : pairB (k, a, p, f) = false := by rw [HP.out, decide_eq_false h3]; rfl
    rw [hv]
    clear hv HP
    go_enter Tryz.func74, Tryz.ntmps74
    go_wp2
    go_ret
    exact ⟨rfl, hB⟩

/-- Two needs and the answer's place. -/
structure Tw (w X : World) (g1 g2 g3 x y : Nat) : Prop where
  a : Nb X g1 0 x
  b : Nb X g2 0 y
  r : X.there g3 0 60
  rl : g3 < X.heap.size
  h1 : g1 < g2
  h2 : g2 < g3
  h0 : w.heap.size ≤ g1
  bl : Below w.heap.size w X
section
variable {w X Y : World} {g1 g2 g3 x y k : Nat}
theorem there_block {b o n : Nat} (h : X.there b o n) (hb : Y.heap[b]? = X.heap[b]?) : Y.there b o n := fun j hj => by
  rw [World.cell?_of_block (a := ⟨b, o + j, none⟩) hb, World.frozen?_of_block (a := ⟨b, o + j, none⟩) hb]; exact h j hj
theorem Tw.below (s : Tw w X g1 g2 g3 x y) (hb : Below X.heap.size X Y) : Tw w Y g1 g2 g3 x y :=
  ⟨s.a.below hb, s.b.below hb, there_block s.r (hb.block _ s.rl), Nat.lt_of_lt_of_le s.rl hb.size, s.h1, s.h2, s.h0, s.bl.trans (hb.mono s.bl.size)⟩
theorem Tw.drew (s : Tw w X g1 g2 g3 x y) : Tw w X.drew g1 g2 g3 x y := s.below ⟨rfl, rfl, rfl, Nat.le_refl _, fun _ _ => rfl⟩
theorem Tw.kept (s : Tw w X g1 g2 g3 x y) (hg : X.grownBy Y (some g3)) (hn : Nb Y g3 0 k) : Tw w Y g1 g2 g3 x y := by
  have := s.h0; have := s.h1; have := s.h2
  exact ⟨s.a.kept hg (by simp; omega), s.b.kept hg (by simp; omega), hn.ok, hn.lt, s.h1, s.h2, s.h0, s.bl.grown hg s.bl.size (fun q e => by injection e with e; omega)⟩
theorem Tw.start {Y1 Y2 Y3 : World} (hN1 : Nb Y1 g1 0 x) (hB1 : Below w.heap.size w Y1) (hG1 : w.heap.size ≤ g1) (hN2 : Nb Y2 g2 0 y) (hB2 : Below Y1.heap.size Y1 Y2) (hG2 : Y1.heap.size ≤ g2) (hN3 : Nb Y3 g3 0 0) (hB3 : Below Y2.heap.size Y2 Y3) (hG3 : Y2.heap.size ≤ g3) : Tw w Y3 g1 g2 g3 x y := by
  have l1 := hN1.lt; have l2 := hN2.lt
  have b2 := hB1.trans (hB2.mono hB1.size)
  exact ⟨(hN1.below hB2).below hB3, hN2.below hB3, hN3.ok, hN3.lt, by omega, by omega, hG1, b2.trans (hB3.mono b2.size)⟩
end

def pairN (x y : Nat) : Nat := if x = y then x + 1 else gr [x, y]
set_option maxHeartbeats 4000000 in
set_option maxRecDepth 100000 in
theorem implNeedOfPair (x y : Nat) (w : World) (hx : x ≤ 60) (hy : y ≤ 60) :
    Calls Tryz.prog 42 #[.agg (nv x), .agg (nv y)] w fun e w' => e = .returned (.agg (nv (pairN x y))) ∧ Below w.heap.size w w' := by
  have heq := run_eql_nv x y hx hy
  by_cases e : x = y
  · have hv : pairN x y = x + 1 := by unfold pairN; rw [if_pos e]
    rw [hv]
    have hd : decide (x = y) = true := decide_eq_true e
    rw [hd] at heq
    clear hv hd e
    go_enter Tryz.func42, Tryz.ntmps42
    go_wp2_with (guard_target = wpList _ _ _ _ _ _; first | (refine list_box_nv rfl _ rfl 2 rfl x rfl (fun Y1 g1 hN1 hB1 hG1 => ?_)) | (refine list_box_nv rfl _ rfl 3 rfl y rfl (fun Y2 g2 hN2 hB2 hG2 => ?_)) | (refine list_alloc_nv rfl rfl 4 rfl (fun Y3 g3 hN3 hB3 hG3 => ?_)) | (refine list_load_nv rfl _ rfl 5 rfl _ _ x rfl (by exact (Tw.start hN1 hB1 hG1 hN2 hB2 hG2 hN3 hB3 hG3).a.cs) ?_) | (refine list_load_nv rfl _ rfl 6 rfl _ _ y rfl (by exact (Tw.start hN1 hB1 hG1 hN2 hB2 hG2 hN3 hB3 hG3).b.cs) ?_) | (refine list_load_nv rfl _ rfl 8 rfl _ _ x rfl (by exact (Tw.start hN1 hB1 hG1 hN2 hB2 hG2 hN3 hB3 hG3).a.cs) ?_))
    refine (implAbove x 1 _ (by omega)).mono ?_
    rintro e W5 ⟨rfl, hb5⟩
    have st := (Tw.start hN1 hB1 hG1 hN2 hB2 hG2 hN3 hB3 hG3).below hb5
    go_wp2_with (guard_target = wpList _ _ _ _ _ _; (refine list_store_nv rfl _ _ rfl _ _ (x + 1) rfl rfl st.r (fun Y6 hN6 hG6 => ?_)))
    refine bodyPost_ret (v := .agg (nv (x + 1))) (results_nv Tryz.results42 _ _ g3 (x + 1) rfl hN6.cs) rfl ⟨rfl, ?_⟩
    exact (st.kept hG6 hN6).bl
  · have hv : pairN x y = gr [x, y] := by unfold pairN; rw [if_neg e]
    rw [hv]
    have hd : decide (x = y) = false := decide_eq_false e
    rw [hd] at heq
    clear hv hd e
    go_enter Tryz.func42, Tryz.ntmps42
    go_wp2_with (guard_target = wpList _ _ _ _ _ _; first | (refine list_box_nv rfl _ rfl 2 rfl x rfl (fun Y1 g1 hN1 hB1 hG1 => ?_)) | (refine list_box_nv rfl _ rfl 3 rfl y rfl (fun Y2 g2 hN2 hB2 hG2 => ?_)) | (refine list_alloc_nv rfl rfl 4 rfl (fun Y3 g3 hN3 hB3 hG3 => ?_)) | (refine list_load_nv rfl _ rfl 5 rfl _ _ x rfl (by exact (Tw.start hN1 hB1 hG1 hN2 hB2 hG2 hN3 hB3 hG3).a.cs) ?_) | (refine list_load_nv rfl _ rfl 6 rfl _ _ y rfl (by exact (Tw.start hN1 hB1 hG1 hN2 hB2 hG2 hN3 hB3 hG3).b.cs) ?_) | (refine list_load_nv rfl _ rfl 10 rfl _ _ x rfl (by exact (Tw.start hN1 hB1 hG1 hN2 hB2 hG2 hN3 hB3 hG3).a.cs) ?_) | (refine list_load_nv rfl _ rfl 11 rfl _ _ y rfl (by exact (Tw.start hN1 hB1 hG1 hN2 hB2 hG2 hN3 hB3 hG3).b.cs) ?_) | (refine list_slice2_nv rfl _ _ rfl x y rfl rfl (fun Y4 g4 hN4 hB4 _ => ?_)))
    refine (implGreatest _ 2 2 [x, y] _ rfl hN4 (by omega)).mono ?_
    rintro e W5 ⟨rfl, hb5⟩
    have st := ((Tw.start hN1 hB1 hG1 hN2 hB2 hG2 hN3 hB3 hG3).below hB4).below hb5
    go_wp2_with (guard_target = wpList _ _ _ _ _ _; (refine list_store_nv rfl _ _ rfl _ _ (gr [x, y]) rfl rfl st.r (fun Y6 hN6 hG6 => ?_)))
    refine bodyPost_ret (v := .agg (nv (gr [x, y]))) (results_nv Tryz.results42 _ _ g3 (gr [x, y]) rfl hN6.cs) rfl ⟨rfl, ?_⟩
    exact (st.kept hG6 hN6).bl


end Go.Proofs.YtnpbckgaeaameaaGreat
