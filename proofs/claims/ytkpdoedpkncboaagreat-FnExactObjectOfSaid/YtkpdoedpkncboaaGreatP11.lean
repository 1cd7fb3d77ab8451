/-
  Parts of one proof, one behind the other: TreeI3, ImpI, PackI, PackI2.
-/
import Derived.Test.YtkpdoedpkncboaaGreatP10
import Derived.Test.YtkpdoedpkncboaaGreatP2
import Derived.Test.YtkpdoedpkncboaaGreatP9
import Derived.Test.YtkpdoedpkncboaaGreatP5
import Derived.Deep.RegionHeld3
namespace Go.Proofs.YtkpdoedpkncboaaGreat
open Go.RowKit
theorem zjB (n : Nd) (w : World) (_hi : IntN n) (hp : n.2.2.1.length ≤ 1048576) (hf : n.2.2.2.length ≤ 1048576) :
 Calls Tryz.prog 104 #[zaa n] w fun e w' => e = .returned (.bool (zaD n)) ∧ Below w.heap.size w w' := by
 obtain ⟨k, a, p, f⟩ := n
 rcases zcZ (k, a, p, f) with ⟨_, e⟩ | ⟨_, e⟩ | ⟨_, e⟩ | ⟨_, e⟩ | ⟨_, e⟩ | ⟨_, e⟩
 ·
  rcases hs : shOk (.num a) with _ | _
  ·
   exact zge k a p f a w e hs
  ·
   exact zfr k a p f a w e hs
 ·
  rcases hs : shOk (.arg a) with _ | _
  ·
   exact zgf k a p f a w e hs
  ·
   exact zft k a p f a w e hs
 ·
  exact zez k a p f k w e rfl
 ·
  exact zeA k a p f w e rfl
 ·
  rcases hs : shOk (.call p f a) with _ | _
  ·
   exact zfs k a p f p f a w e hs hp hf
  ·
   exact zeB k a p f p f a w e hs hp hf
 ·
  exact zgS k a p f w e rfl
set_option maxHeartbeats 1000000 in
set_option maxRecDepth 100000 in
theorem zfS (n : Nd) (w : World) (hi : IntN n) (hp : n.2.2.1.length ≤ 1048576) (hf : n.2.2.2.length ≤ 1048576) :
 Calls Tryz.prog 77 #[zaa n] w fun e w' => e = .returned (.int .i64 (zbK n)) ∧ Below w.heap.size w w' := by
 have HC : Hid (_) := fun W : World => zjB n W hi hp hf
 have HS : Hid (_) := fun W : World => zb9 n W
 have HV : Hid (zaD n = false → zbK n = -1) := fun h => by unfold zbK; rw [if_neg (by rw [h]; simp)]
 have HV2 : Hid (zaD n = true → zbK n = zil (shOf n)) := fun h => by unfold zbK; rw [if_pos h, kids_sh h]
 generalize zaD n = nb at HC HV HV2
 generalize shOf n = s at HS HV2
 have HK : Hid (_) := fun W : World => zeL s W
 obtain ⟨k, a, p, f⟩ := n
 unfold zaa at HC HS ⊢
 simp only at HC HS ⊢
 clear hi hp hf
 obtain ⟨W0, hW0⟩ : ∃ W0, w.alloc (.cells #[.int .i64 k, .int .i64 a, .string ⟨p.toArray⟩, .string ⟨f.toArray⟩] 90) = W0 := ⟨_, rfl⟩
 have st := NdAt.new w k a p f
 have hB : Below w.heap.size w W0 := by rw [← hW0]; exact (Below.refl _ w).alloc (Nat.le_refl _) _
 rw [hW0] at st
 obtain ⟨D, hD0⟩ : ∃ D, w.heap.size = D := ⟨_, rfl⟩
 rw [hD0] at st hB
 have hD : Hid (w.heap.size = D) := hD0
 have c0 := st.c0
 have c1 := st.c1
 have c2 := st.c2
 have c3 := st.c3
 go_enter Tryz.func77, Tryz.ntmps77
 go_wp2_with fail
 refine Calls.mono (HC.out _) ?_
 rintro e wn ⟨rfl, hbn⟩
 replace hB := hB.trans (hbn.mono (Nat.le_trans (Nat.le_of_eq hD.out.symm) hB.size))
 replace st := st.below hbn
 replace c0 := st.c0
 replace c1 := st.c1
 replace c2 := st.c2
 replace c3 := st.c3
 clear hbn
 rcases nb with _ | _
 ·
  have HO : Hid (zbK (k, a, p, f) = -1) := HV.out rfl
  go_wp2
  go_ret
  exact ⟨by rw [HO.out]; rfl, by rw [hD.out]; exact hB⟩
 ·
  have HO : Hid (zbK (k, a, p, f) = zil s) := HV2.out rfl
  go_wp2_with fail
  refine Calls.mono (HS.out _) ?_
  rintro e wn ⟨rfl, hbn⟩
  replace hB := hB.trans (hbn.mono (Nat.le_trans (Nat.le_of_eq hD.out.symm) hB.size))
  clear hbn st c0 c1 c2 c3
  go_wp2_with fail
  refine Calls.mono (HK.out _) ?_
  rintro e wn ⟨rfl, hbn⟩
  replace hB := hB.trans (hbn.mono (Nat.le_trans (Nat.le_of_eq hD.out.symm) hB.size))
  go_wp2
  go_ret
  exact ⟨by rw [HO.out]; rfl, by rw [hD.out]; exact hB⟩
theorem kids_of (n : Nd) : (zaD n = false ∧ zbK n = -1) ∨ (zaD n = true ∧ zbK n = (za7 n : Int) ∧ za7 n ≤ 3) := by
 rcases h : zaD n with _ | _
 ·
  exact Or.inl ⟨rfl, by unfold zbK; rw [if_neg (by rw [h]; simp)]⟩
 ·
  obtain ⟨h1, h2⟩ := zaT h
  exact Or.inr ⟨rfl, by unfold zbK; rw [if_pos h]; exact h1, h2⟩
set_option maxHeartbeats 2000000 in
set_option maxRecDepth 100000 in
theorem zhc (a : Option Addr) (len cap : Nat) (ns : List Nd) (at_ : Int) (w : World) (hin : za4 w a len ns) (hint : IntT ns) (hsh : zam ns) (hlen : len ≤ 1048576) (hat : -9223372036854775808 ≤ at_ ∧ at_ ≤ 9223372036854775807) :
 Calls Tryz.prog 102 #[.slice a len cap, .int .i64 at_] w fun e w' => e = .returned (.int .i64 (endV ns at_)) ∧ Below w.heap.size w w' := by
 obtain rfl : ns.length = len := hin.1
 by_cases h0 : at_ < 0
 ·
  have HE : Hid (endV ns at_ = -1) := zca ns at_ (Or.inl h0)
  go_enter Tryz.func102, Tryz.ntmps102
  go_wp2
  go_ret
  exact ⟨by rw [HE.out]; rfl, Below.refl _ _⟩
 ·
  obtain ⟨k0, rfl⟩ : ∃ k0 : Nat, at_ = (k0 : Int) := Int.eq_ofNat_of_zero_le (by omega)
  have h0' : ¬ (k0 : Int) < 0 := by omega
  have HE : Hid (zcz ns k0 1 = endV ns (k0 : Int)) := by
   by_cases hk : k0 < ns.length
   ·
    exact zeX hk
   ·
    exact (by rw [zdU (by omega), zca ns (k0 : Int) (Or.inr (by omega))] : zcz ns k0 1 = endV ns (k0 : Int))
  have HI : Hid (za4 w a ns.length ns) := hin
  have HS : Hid (zam ns) := hsh
  have HN0 : Hid (IntT ns) := hint
  clear hin hsh hint h0
  go_enter Tryz.func102, Tryz.ntmps102
  go_wp2
  go_loopw [1, 5] (fun av ov wr => ∃ k o : Nat, av = .int .i64 k ∧ ov = .int .i64 o ∧ (k ≤ ns.length ∨ (k = k0 ∧ o = 1)) ∧ o ≤ 1 + 3 * k ∧ Hid (zcz ns k o = endV ns (k0 : Int)) ∧ Below w.heap.size w wr) (fun av _ _ => ns.length - (intOf av).toNat)
  case atStart => exact ⟨k0, 1, rfl, rfl, Or.inr ⟨rfl, rfl⟩, by omega, HE, Below.refl _ _⟩
  case round =>
   obtain ⟨k, o, rfl, rfl, hk, ho, HT, hb⟩ := hrel
   clear HE
   by_cases hoz : o = 0
   ·
    subst hoz
    have HF : Hid ((k : Int) = endV ns (k0 : Int)) := by exact (by rw [← HT.out, zfW] : (k : Int) = endV ns (k0 : Int))
    go_wp2
    go_ret
    exact ⟨by rw [← HF.out]; rfl, hb⟩
   ·
    obtain ⟨o', rfl⟩ : ∃ o', o = o' + 1 := ⟨o - 1, by omega⟩
    have ho1 : (0 : Int) < ((o' + 1 : Nat) : Int) := by omega
    by_cases hkl : (ns.length : Int) ≤ (k : Int)
    ·
     have HF : Hid (endV ns (k0 : Int) = -1) := by exact (by rw [← HT.out, zdU (by omega)] : endV ns (k0 : Int) = -1)
     clear hoz
     go_wp2
     go_ret
     exact ⟨by rw [HF.out]; rfl, hb⟩
    ·
     obtain ⟨b, off, rfl, hbl, hcells⟩ := (HI.out.below hb).at (by omega)
     obtain ⟨c0, c1, c2, c3⟩ := hcells k (by omega)
     have hs := HS.out k
     have hz := HN0.out k
     obtain ⟨n, hn⟩ : ∃ n, ns.getD k nd0 = n := ⟨_, rfl⟩
     rw [hn] at c0 c1 c2 c3 hs hz
     have HN : Hid (ns.getD k nd0 = n) := hn
     have HC : Hid (_) := fun W : World => zfS n W hz hs.1 hs.2
     have HK : Hid (_) := kids_of n
     generalize hkn : zbK n = kn at HC HK
     obtain ⟨kd, aa, p, f⟩ := n
     unfold zaa at HC
     simp only at c0 c1 c2 c3 HC
     clear hn hcells hoz hs hz hkn
     go_wp2_with fail
     refine Calls.mono (HC.out _) ?_
     rintro e w1 ⟨rfl, hb1⟩
     have hB1 := hb.trans (hb1.mono hb.size)
     clear c0 c1 c2 c3 hb1 hb HC
     rcases HK.out with ⟨hnb, rfl⟩ | ⟨hnb, rfl, hk3⟩
     ·
      have HF : Hid (endV ns (k0 : Int) = -1) := by exact (by rw [← HT.out, zhl (by omega) (by rw [HN.out]; exact hnb)] : endV ns (k0 : Int) = -1)
      clear hnb
      go_wp2
      go_ret
      exact ⟨by rw [HF.out]; rfl, hB1⟩
     ·
      have HT2 : Hid (zcz ns (k + 1) (o' + za7 (kd, aa, p, f)) = endV ns (k0 : Int)) := by
       have := zeY (o := o') (show k < ns.length by omega) (by rw [HN.out]; exact hnb)
       rw [HN.out] at this
       exact (by rw [← this]; exact HT.out : zcz ns (k + 1) (o' + za7 (kd, aa, p, f)) = endV ns (k0 : Int))
      clear hnb
      generalize za7 (kd, aa, p, f) = q at hk3 HT2 ⊢
      have hq1 : ((q : Int) == -1) = false := beq_eq_false_iff_ne.2 (by omega)
      have hkk : k ≤ ns.length := by omega
      clear hk HK
      go_wp2
      go_roundw
      case rel => exact ⟨k + 1, o' + q, by go_num, by go_num, Or.inl (by omega), by omega, HT2, hB1⟩
      case measure => simp [intOf]; omega
theorem zfE (ns : List Nd) (h : ¬ (1 ≤ ns.length ∧ ns.length ≤ 60)) : zaI ns = false := decide_eq_false (fun g => h g.1)
theorem zjS (ns : List Nd) (h : 1 ≤ ns.length ∧ ns.length ≤ 60) : zaI ns = (endV ns 0 == (ns.length : Int)) := by
 rw [Bool.eq_iff_iff, beq_iff_eq]
 unfold zaI
 rw [decide_eq_true_iff]
 exact ⟨fun g => g.2, fun g => ⟨h, g⟩⟩
set_option maxHeartbeats 1000000 in
set_option maxRecDepth 100000 in
theorem zd9 (a : Option Addr) (len cap : Nat) (ns : List Nd) (w : World) (hin : za4 w a len ns) (hint : IntT ns) (hsh : zam ns) (hlen : len ≤ 1048576) :
 Calls Tryz.prog 74 #[.slice a len cap] w fun e w' => e = .returned (.bool (zaI ns)) ∧ Below w.heap.size w w' := by
 obtain rfl : ns.length = len := hin.1
 have HC : Hid (_) := zhc a ns.length cap ns 0 w hin hint hsh hlen (by omega)
 by_cases h1 : (1 : Int) ≤ (ns.length : Int)
 ·
  by_cases h2 : (ns.length : Int) ≤ 60
  ·
   have HT : Hid (zaI ns = (endV ns 0 == (ns.length : Int))) := zjS ns (by omega)
   generalize endV ns 0 = e0 at HC HT
   clear hin hint hsh
   go_enter Tryz.func74, Tryz.ntmps74
   go_wp2_with fail
   refine Calls.mono HC.out ?_
   rintro e w1 ⟨rfl, hb1⟩
   go_wp2
   go_ret
   exact ⟨by rw [HT.out]; rfl, hb1⟩
  ·
   have HT : Hid (zaI ns = false) := zfE ns (by omega)
   clear hin hint hsh
   go_enter Tryz.func74, Tryz.ntmps74
   go_wp2
   go_ret
   exact ⟨by rw [HT.out]; rfl, Below.refl _ _⟩
 ·
  have HT : Hid (zaI ns = false) := zfE ns (by omega)
  clear hin hint hsh
  go_enter Tryz.func74, Tryz.ntmps74
  go_wp2
  go_ret
  exact ⟨by rw [HT.out]; rfl, Below.refl _ _⟩
theorem zf6 (l : List Nd) : ∀ r, zc8 l r (-1) = -1
 | 0 => rfl
 | r + 1 => by rw [zc8, zca l (-1) (by omega)]; exact zf6 l r
theorem zlW {l : List Nd} {t : Int} (h : 0 ≤ endV l t) : 0 ≤ t ∧ t < endV l t := by
 by_cases ht : t < 0
 ·
  rw [zca l t (Or.inl ht)] at h; omega
 ·
  obtain ⟨k, rfl⟩ : ∃ k : Nat, t = (k : Int) := Int.eq_ofNat_of_zero_le (by omega)
  exact ⟨by omega, (zac h).2.2.2.1⟩
theorem ziT (l : List Nd) : ∀ (r : Nat) (t : Int), 0 ≤ zc8 l r t → t ≤ zc8 l r t ∧ (0 < r → t < zc8 l r t)
 | 0, t, _ => ⟨Int.le_refl _, fun h => by omega⟩
 | r + 1, t, h => by
  rw [zc8] at h ⊢
  by_cases he : 0 ≤ endV l t
  ·
   have h1 := zlW he
   have h2 := (ziT l r (endV l t) h).1
   exact ⟨by omega, fun _ => by omega⟩
  ·
   have h1 := (zgB l t).1
   rw [show endV l t = -1 by omega, zf6] at h
   omega
set_option maxHeartbeats 2000000 in
set_option maxRecDepth 100000 in
theorem zbS (a : Option Addr) (len cap : Nat) (ns : List Nd) (at_ : Int) (w : World) (hin : za4 w a len ns) (hint : IntT ns) (hsh : zam ns) (hlen : len ≤ 1048576) (hat : -9223372036854775808 ≤ at_ ∧ at_ ≤ 9223372036854775807) :
 Calls Tryz.prog 113 #[.slice a len cap, .int .i64 at_] w fun e w' => ∃ v, e = .returned v ∧ w'.ownsRow w.heap.size 2 1 v (zcN ns at_).length (zaF (zcN ns at_)) ∧ Below w.heap.size w w' := by
 obtain rfl : ns.length = len := hin.1
 have HE : Hid (_) := fun (j : Int) (hj : -9223372036854775808 ≤ j ∧ j ≤ 9223372036854775807) (W : World) (h : za4 W a ns.length ns) => zhc a ns.length cap ns j W h hint hsh hlen hj
 have HI : Hid (za4 w a ns.length ns) := hin
 have hown0 := (World.ownsRow_lit (base := w.heap.size) (e := 2) (size := 1) w #[] 0 (Nat.le_refl _) (by decide) rfl)
 have hB0 : Below w.heap.size w (w.alloc (.cells #[] 2)) := (Below.refl _ w).alloc (Nat.le_refl _) _
 obtain ⟨i0, hi, hz0, hz1, hz2⟩ := info_parts zlh
 clear hin hint hsh
 by_cases hneg : endV ns at_ < 0
 ·
  have HP : Hid (zcN ns at_ = []) := by exact (by unfold zcN; rw [if_pos hneg] : zcN ns at_ = [])
  have hee : endV ns at_ = -1 := by have := (zgB ns at_).1; omega
  clear hneg
  go_enter Tryz.func113, Tryz.ntmps113
  go_wp2_with fail
  refine Calls.mono (HE.out at_ hat _ (HI.out.below hB0)) ?_
  rintro e w1 ⟨rfl, hb1⟩
  rw [hee]
  have hown1 := za2 hown0 hb1
  have hB1 := hB0.trans (hb1.mono hB0.size)
  clear hb1 hown0 hB0
  go_wp2
  go_ret
  exact ⟨_, rfl, by rw [HP.out]; exact hown1, hB1⟩
 ·
  have hin2 : ¬ (at_ < 0 ∨ (ns.length : Int) ≤ at_) := fun h => hneg (by rw [zca ns at_ h]; omega)
  obtain ⟨k, rfl⟩ : ∃ k : Nat, at_ = (k : Int) := Int.eq_ofNat_of_zero_le (by omega)
  obtain ⟨hk, hnb, hch, hlt, hle⟩ := zac (by omega : 0 ≤ endV ns (k : Int))
  have HP : Hid (zcN ns (k : Int) = zad ns (za7 (ns.getD k nd0)) ((k : Int) + 1)) := by
   exact (by unfold zcN; rw [if_neg hneg]; rfl : zcN ns (k : Int) = zad ns (za7 (ns.getD k nd0)) ((k : Int) + 1))
  have HCH : Hid (zc8 ns (za7 (ns.getD k nd0)) ((k : Int) + 1) = endV ns (k : Int)) := hch
  have hq3 := (zaT hnb).2
  rw [show ns.getD k (0, 0, [], []) = ns.getD k nd0 from rfl] at hq3
  generalize za7 (ns.getD k nd0) = q at HP HCH hq3
  have hC := HE.out (k : Int) hat _ (HI.out.below hB0)
  obtain ⟨E, hE⟩ : ∃ E : Int, endV ns (k : Int) = E := ⟨_, rfl⟩
  rw [hE] at HCH hlt hle hC
  have hC2 : Hid (_) := hC
  have hEn : ((E == -1) = false) := beq_eq_false_iff_ne.2 (by omega)
  have hkl : (k : Int) < 1048576 := by omega
  have hEl : E ≤ 1048576 := by omega
  have hE0 : 0 ≤ E := by omega
  clear hneg hin2 hE hnb hC hch hat hlt hle
  go_enter Tryz.func113, Tryz.ntmps113
  go_wp2_with fail
  refine Calls.mono hC2.out ?_
  rintro e w1 ⟨rfl, hb1⟩
  have hown1 := za2 hown0 hb1
  have hB1 := hB0.trans (hb1.mono hB0.size)
  clear hb1 hown0 hB0 hC2
  go_wp2
  go_loopw [5, 7] (fun v nx wr => ∃ (ds : List Int) (r : Nat) (t : Int), nx = .int .i64 t ∧ ds.length + r = q ∧ -1 ≤ t ∧ t ≤ 1048576 ∧ Hid (zc8 ns r t = E) ∧ Hid (ds ++ zad ns r t = zad ns q ((k : Int) + 1)) ∧ Hid (wr.ownsRow w.heap.size 2 1 v ds.length (zaF ds)) ∧ Below w.heap.size w wr) (fun _ nx _ => (E - intOf nx).toNat)
  case atStart => exact ⟨[], q, (k : Int) + 1, by go_num, by simp, by omega, by omega, HCH, (rfl : [] ++ zad ns q ((k : Int) + 1) = _), hown1, hB1⟩
  case round =>
   obtain ⟨ds, r, t, rfl, hr, ht0, ht1, HG, HQ, HV, hb⟩ := hrel
   clear hown1 hB1
   by_cases hrz : r = 0
   ·
    subst hrz
    have hte : t = E := HG.out
    subst hte
    have HF : Hid (ds = zcN ns (k : Int)) := by
     have h := HQ.out
     rw [zad, List.append_nil] at h
     exact (by rw [HP.out, h] : ds = zcN ns (k : Int))
    go_wp2
    go_ret
    exact ⟨_, rfl, by rw [← HF.out]; exact HV.out, hb⟩
   ·
    obtain ⟨r', rfl⟩ : ∃ r', r = r' + 1 := ⟨r - 1, by omega⟩
    have htE : t < E := by have h := (ziT ns (r' + 1) t (by rw [HG.out]; exact hE0)).2 (by omega); rw [HG.out] at h; exact h
    have hnc := zhN wr t
    have hV := HV.out
    have hB0 := hb
    clear hrz HV
    go_wp2_with (at_builtin; refine wpList_append_own_at _ rfl _ _ 91 rfl w.heap.size 2 i0 _ 1 8 Tryz.underlying91 hi hz0 hz1 hz2 rfl (by decide) _ _ _ rfl (hV.alloc _) ⟨wr.heap.size, 0, none⟩ 1 1 (zaF [t]) rfl rfl ?c1 ?c2 ?c3 ?c4 ?c5 ?_)
    first | (case c1 => exact hnc) | skip
    first | (case c2 => exact zeG _) | skip
    first | (case c3 => unfold maxLen; omega) | skip
    first | (case c4 => omega) | skip
    first | (case c5 => have := hB0.size; simp; try omega) | skip
    intro v' w3 hown3 hgrow3 hnil3 hat3
    have HV3 : Hid (w3.ownsRow w.heap.size 2 1 v' (ds ++ [t]).length (zaF (ds ++ [t]))) := by
     exact (by rw [zcU, List.length_append]; exact hown3 : w3.ownsRow w.heap.size 2 1 v' (ds ++ [t]).length (zaF (ds ++ [t])))
    have hb3 : Below w.heap.size w w3 := (hB0.alloc hB0.size _).grown hgrow3 (by have := hB0.size; simp; omega) (fun q e => (hV.lt q e).1)
    clear hown3 hgrow3 hnil3 hat3 hV hB0 hnc hb
    have HQ2 : Hid ((ds ++ [t]) ++ zad ns r' (endV ns t) = zad ns q ((k : Int) + 1)) := by
     exact (by rw [← HQ.out, zad, List.append_assoc]; rfl : (ds ++ [t]) ++ zad ns r' (endV ns t) = zad ns q ((k : Int) + 1))
    have HG2 : Hid (zc8 ns r' (endV ns t) = E) := HG.out
    have he := zgB ns t
    have hgt : t < endV ns t := by
     have hge : 0 ≤ endV ns t := by
      rcases Int.lt_or_le (endV ns t) 0 with hx | hx
      ·
       have h2 := HG2.out
       rw [show endV ns t = -1 by omega, zf6] at h2
       omega
      ·
       exact hx
     exact (zlW hge).2
    have hC := HE.out t (by omega) _ (HI.out.below hb3)
    obtain ⟨t', htt⟩ : ∃ t', endV ns t = t' := ⟨_, rfl⟩
    rw [htt] at HQ2 HG2 he hgt hC
    have hC2 : Hid (_) := hC
    clear htt hC HQ HG
    go_wp2_with fail
    refine Calls.mono hC2.out ?_
    rintro e w4 ⟨rfl, hb4⟩
    have hB4 := hb3.trans (hb4.mono hb3.size)
    have HV4 : Hid (w4.ownsRow w.heap.size 2 1 v' (ds ++ [t]).length (zaF (ds ++ [t]))) := za2 HV3.out hb4
    have hdl : (ds ++ [t]).length + r' = q := by simp; omega
    clear hb4 hb3 HV3 hC2
    go_wp2
    go_roundw
    case rel => exact ⟨ds ++ [t], r', t', rfl, hdl, by omega, by omega, HG2, HQ2, HV4, hB4⟩
    case measure => simp [intOf]; omega
def zcu (ts : List (List UInt8)) : Bool := decide (∀ i, i < ts.length → zak (ts.getD i []) = true) && zev ts
theorem zgq (ts : List (List UInt8)) : zal ts = (decide (ts.length ≤ 6) && zcu ts) := by
 unfold zal zcu
 cases decide (∀ i, i < ts.length → zak (ts.getD i []) = true) <;> cases decide (ts.length ≤ 6) <;> cases zev ts <;> rfl
structure NrSt (ts : List (List UInt8)) (k : Nat) (z : List UInt8) : Prop where
 names : ∀ i, i < k → zak (ts.getD i []) = true
 rise : ∀ i, i + 1 < k → leT (ts.getD (i + 1) []) (ts.getD i []) = false
 last : (k = 0 ∧ z = []) ∨ (0 < k ∧ z = ts.getD (k - 1) [])
theorem NrSt.noName {ts : List (List UInt8)} {k : Nat} (hk : k < ts.length) (hn : zak (ts.getD k []) = false) : zcu ts = false := by
 unfold zcu
 rw [decide_eq_false (fun g => by rw [g k hk] at hn; cases hn)]
 rfl
theorem leT_nil {x : List UInt8} (h : zak x = true) : leT x [] = false := by
 have h1 := (zcn h).1.1
 cases x with
 | nil => simp at h1
 | cons c r => simp [leT, Op.bytesLess]
theorem NrSt.noRise {ts : List (List UInt8)} {k : Nat} {z : List UInt8} (h : NrSt ts k z) (hk : k < ts.length) (hn : zak (ts.getD k []) = true) (hl : leT (ts.getD k []) z = true) : zcu ts = false := by
 rcases h.last with ⟨rfl, rfl⟩ | ⟨h0, rfl⟩
 ·
  rw [leT_nil hn] at hl; cases hl
 ·
  unfold zcu
  rw [zio (j := k - 1) (by omega) (by rw [show k - 1 + 1 = k by omega]; exact hl), Bool.and_false]
theorem NrSt.step {ts : List (List UInt8)} {k : Nat} {z : List UInt8} (h : NrSt ts k z) (hn : zak (ts.getD k []) = true) (hl : leT (ts.getD k []) z = false) : NrSt ts (k + 1) (ts.getD k []) := by
 refine ⟨fun i hi => ?_, fun i hi => ?_, Or.inr ⟨by omega, by rw [Nat.add_sub_cancel]⟩⟩
 ·
  rcases Nat.lt_or_ge i k with g | g
  ·
   exact h.names i g
  ·
   obtain rfl : i = k := by omega
   exact hn
 ·
  rcases Nat.lt_or_ge (i + 1) k with g | g
  ·
   exact h.rise i g
  ·
   obtain rfl : k = i + 1 := by omega
   rcases h.last with ⟨e, _⟩ | ⟨_, rfl⟩
   ·
    omega
   ·
    rw [Nat.add_sub_cancel] at hl; exact hl
theorem NrSt.all {ts : List (List UInt8)} {z : List UInt8} (h : NrSt ts ts.length z) : zcu ts = true := by
 unfold zcu
 rw [decide_eq_true h.names, zgN (j := ts.length - 1) (by omega) (fun i hi => h.rise i (by omega))]
 rfl
set_option maxHeartbeats 2000000 in
set_option maxRecDepth 100000 in
theorem zgv (a : Option Addr) (len cap : Nat) (ts : List (List UInt8)) (w : World) (hin : zae w a len ts) (hlen : len ≤ 1048576) (hs : ∀ i, (ts.getD i []).length ≤ 1048576) :
 Calls Tryz.prog 86 #[.slice a len cap] w fun e w' => e = .returned (.bool (zcu ts)) ∧ w' = w := by
 obtain rfl : ts.length = len := hin.1
 have HI : Hid (zae w a ts.length ts) := hin
 have HS : Hid (∀ i, (ts.getD i []).length ≤ 1048576) := hs
 clear hin hs
 go_enter Tryz.func86, Tryz.ntmps86
 go_wp2
 go_loopw [3, 8] (fun lv iv wr => ∃ k : Nat, iv = .int .i64 (k : Int) ∧ k ≤ ts.length ∧ (∃ z : List UInt8, lv = .string ⟨z.toArray⟩ ∧ Hid (NrSt ts k z)) ∧ wr = w) (fun _ iv _ => ts.length - (intOf iv).toNat)
 case atStart => exact ⟨0, rfl, by omega, ⟨[], rfl, (⟨fun i hi => by omega, fun i hi => by omega, Or.inl ⟨rfl, rfl⟩⟩ : NrSt ts 0 [])⟩, rfl⟩
 case round =>
  obtain ⟨k, rfl, hk, ⟨z, rfl, HZ⟩, rfl⟩ := hrel
  by_cases hlt : (k : Int) < (ts.length : Int)
  ·
   have hk2 : k < ts.length := by omega
   obtain ⟨b, off, rfl, hbl, c0⟩ := HI.out.2 k hk2
   have hxl := HS.out k
   obtain ⟨x, hx⟩ : ∃ x, ts.getD k [] = x := ⟨_, rfl⟩
   rw [hx] at c0 hxl
   have hC : Hid (_) := zby x wr hxl
   rcases hnb : zak x with _ | _
   ·
    have HR : Hid (zcu ts = false) := NrSt.noName hk2 (by rw [hx]; exact hnb)
    rw [hnb] at hC
    clear hx hnb HZ
    go_wp2_with (go_at_call 49; refine Calls.mono hC.out ?_; rintro e w1 ⟨rfl, rfl⟩)
    go_ret
    exact ⟨by rw [HR.out]; rfl, rfl⟩
   ·
    rcases hle : leT x z with _ | _
    ·
     have HZ2 : Hid (NrSt ts (k + 1) x) := by
      have h := HZ.out.step (by rw [hx]; exact hnb) (by rw [hx]; exact hle)
      rw [hx] at h
      exact h
     rw [hnb] at hC
     unfold leT at hle
     clear hx hnb HZ
     go_wp2_with (go_at_call 49; refine Calls.mono hC.out ?_; rintro e w1 ⟨rfl, rfl⟩)
     go_roundw
     case rel => exact ⟨k + 1, by go_num, by omega, ⟨x, rfl, HZ2⟩, trivial⟩
     case measure => simp [intOf]; omega
    ·
     have HR : Hid (zcu ts = false) := HZ.out.noRise hk2 (by rw [hx]; exact hnb) (by rw [hx]; exact hle)
     rw [hnb] at hC
     unfold leT at hle
     clear hx hnb HZ
     go_wp2_with (go_at_call 49; refine Calls.mono hC.out ?_; rintro e w1 ⟨rfl, rfl⟩)
     go_ret
     exact ⟨by rw [HR.out]; rfl, rfl⟩
  ·
   obtain rfl : k = ts.length := by omega
   have HR : Hid (zcu ts = true) := HZ.out.all
   go_wp2
   go_ret
   exact ⟨by rw [HR.out]; rfl, rfl⟩
set_option maxHeartbeats 1000000 in
set_option maxRecDepth 100000 in
theorem zdz (a : Option Addr) (len cap : Nat) (ts : List (List UInt8)) (w : World) (hin : zae w a len ts) (hlen : len ≤ 1048576) (hs : ∀ i, (ts.getD i []).length ≤ 1048576) :
 Calls Tryz.prog 50 #[.slice a len cap] w fun e w' => e = .returned (.bool (zal ts)) ∧ w' = w := by
 have hC : Hid (_) := zgv a len cap ts w hin hlen hs
 obtain rfl : ts.length = len := hin.1
 have HR : Hid (zal ts = (decide (ts.length ≤ 6) && zcu ts)) := zgq ts
 clear hin hs
 go_enter Tryz.func50, Tryz.ntmps50
 by_cases h6 : (ts.length : Int) ≤ 6
 ·
  have HD : Hid (decide (ts.length ≤ 6) = true) := decide_eq_true (by omega)
  go_wp2_with (go_at_call 86; refine Calls.mono hC.out ?_; rintro e w1 ⟨rfl, rfl⟩)
  go_ret
  exact ⟨by rw [HR.out, HD.out]; rfl, rfl⟩
 ·
  have HD : Hid (decide (ts.length ≤ 6) = false) := decide_eq_false (by omega)
  go_wp2
  go_ret
  exact ⟨by rw [HR.out, HD.out]; rfl, rfl⟩
set_option maxHeartbeats 2000000 in
set_option maxRecDepth 100000 in
theorem zdS (f : Fn) (ta : Option Addr) (tl tc : Nat) (w : World) (hin : za4 w ta tl f.2.2) (hint : IntT f.2.2) (hsh : zam f.2.2) (hlen : tl ≤ 1048576) (hn : f.1.length ≤ 1048576) :
 Calls Tryz.prog 100 #[.agg #[.string ⟨f.1.toArray⟩, .int .i64 f.2.1, .slice ta tl tc]] w fun e w' => e = .returned (.bool (zcW f)) ∧ Below w.heap.size w w' := by
 obtain ⟨s, n, t⟩ := f
 simp only at hin hint hsh hn ⊢
 obtain ⟨W, hW⟩ : ∃ W, w.alloc (.cells #[.string ⟨s.toArray⟩, .int .i64 n, .slice ta tl tc] 48) = W := ⟨_, rfl⟩
 have hbW : Below w.heap.size w W := by rw [← hW]; exact (Below.refl _ _).alloc (Nat.le_refl _) _
 have hA : W.heap[w.heap.size]? = some (.cells #[.string ⟨s.toArray⟩, .int .i64 n, .slice ta tl tc] 48) := by rw [← hW]; exact heap_alloc_new w _
 have c0 : W.cell? ⟨w.heap.size, 0, none⟩ = some (.string ⟨s.toArray⟩) := by simp [World.cell?, hA]
 have c1 : W.cell? ⟨w.heap.size, 1, none⟩ = some (.int .i64 n) := by simp [World.cell?, hA]
 have c2 : W.cell? ⟨w.heap.size, 2, none⟩ = some (.slice ta tl tc) := by simp [World.cell?, hA]
 have hC1 : Hid (_) := zby s W hn
 have hC3 : Hid (_) := zd9 ta tl tc t W (hin.below hbW) hint hsh hlen
 have HF : Hid (zcW (s, n, t) = (zak s && (inB n 0 3 && zaI t))) := rfl
 have HN0 : Hid (n < 0 → inB n 0 3 = false) := fun h => zbL _ _ _ (Or.inl h)
 have HN1 : Hid (3 < n → inB n 0 3 = false) := fun h => zbL _ _ _ (Or.inr h)
 have HN2 : Hid (0 ≤ n → n ≤ 3 → inB n 0 3 = true) := fun h k => zc7 _ _ _ h k
 generalize zak s = nb at hC1 HF
 generalize inB n 0 3 = ib at HF HN0 HN1 HN2
 generalize zaI t = tb at hC3 HF
 clear hin hint hsh hA
 go_enter Tryz.func100, Tryz.ntmps100
 rcases nb with _ | _
 ·
  go_wp2_with (go_at_call 49; refine Calls.mono hC1.out ?_; rintro e w1 ⟨rfl, rfl⟩)
  go_ret
  exact ⟨by rw [HF.out]; rfl, hbW⟩
 ·
  by_cases h0 : 0 ≤ n
  ·
   by_cases h3 : n ≤ 3
   ·
    have hi := HN2.out h0 h3
    subst hi
    go_wp2_with (first | (go_at_call 49; refine Calls.mono hC1.out ?_; rintro e w1 ⟨rfl, rfl⟩) | (go_at_call 74; refine Calls.mono hC3.out ?_; rintro e w2 ⟨rfl, hb2⟩))
    go_ret
    exact ⟨by rw [HF.out]; rfl, hbW.trans (hb2.mono hbW.size)⟩
   ·
    have hi := HN1.out (by omega)
    subst hi
    go_wp2_with (go_at_call 49; refine Calls.mono hC1.out ?_; rintro e w1 ⟨rfl, rfl⟩)
    go_ret
    exact ⟨by rw [HF.out]; rfl, hbW⟩
  ·
   have hi := HN0.out (by omega)
   subst hi
   go_wp2_with (go_at_call 49; refine Calls.mono hC1.out ?_; rintro e w1 ⟨rfl, rfl⟩)
   go_ret
   exact ⟨by rw [HF.out]; rfl, hbW⟩
theorem zf8 (s : List UInt8) : ∀ (l r : List Fn) (k : Nat), (atGo s l k = -1 ∧ atGo s (l ++ r) k = atGo s r (k + l.length)) ∨ (0 ≤ atGo s l k ∧ atGo s l k < (k : Int) + l.length ∧ atGo s (l ++ r) k = atGo s l k)
 | [], r, k => Or.inl ⟨rfl, rfl⟩
 | f :: l, r, k => by
  by_cases h : f.1 = s
  ·
   refine Or.inr ?_
   simp only [List.cons_append, atGo, if_pos h, List.length_cons]
   exact ⟨by omega, by omega, trivial⟩
  ·
   simp only [List.cons_append, atGo, if_neg h, List.length_cons]
   rcases zf8 s l r (k + 1) with ⟨a, b⟩ | ⟨a, b, c⟩
   ·
    exact Or.inl ⟨a, by rw [b, show k + 1 + l.length = k + (l.length + 1) by omega]⟩
   ·
    exact Or.inr ⟨a, by omega, c⟩
theorem at_first {fs : List Fn} {i : Nat} (hi : i < fs.length) {s : List UInt8} (hs : (fs.getD i fn0).1 = s) : atV (fs.take i) s = -1 ↔ atV fs s = (i : Int) := by
 have h := zf8 s (fs.take i) (fs.drop i) 0
 rw [List.take_append_drop, List.length_take, Nat.min_eq_left (by omega), Nat.zero_add, zf7 hi, if_pos hs] at h
 unfold atV
 rcases h with ⟨a, b⟩ | ⟨a, b, c⟩
 ·
  exact ⟨fun _ => b, fun _ => a⟩
 ·
  exact ⟨fun e => by omega, fun e => by omega⟩
def fnsB (fs : List Fn) : Bool := inB (fs.length : Int) 1 8 && decide (∀ i, i < fs.length → zbi fs i)
theorem pkgB_fns (p : Pk) : pkgB p = (zak p.1 && (zal p.2.1 && fnsB p.2.2)) := by
 unfold pkgB fnsB
 cases zak p.1 <;> cases zal p.2.1 <;> cases inB (p.2.2.length : Int) 1 8 <;> rfl
theorem ziI {fs : List Fn} (h : (fs.length : Int) < 1 ∨ 8 < (fs.length : Int)) : fnsB fs = false := by unfold fnsB; rw [zbL _ _ _ h]; rfl
theorem zlN {fs : List Fn} {j : Nat} (hj : j < fs.length) (h : ¬ zbi fs j) : fnsB fs = false := by unfold fnsB; rw [decide_eq_false (fun g => h (g j hj)), Bool.and_false]
theorem fnsB_yes {fs : List Fn} (h1 : 1 ≤ (fs.length : Int)) (h8 : (fs.length : Int) ≤ 8) (h : ∀ i, i < fs.length → zbi fs i) : fnsB fs = true := by unfold fnsB; rw [zc7 _ _ _ h1 h8, decide_eq_true h]; rfl
theorem zav.take {w : World} {a : Option Addr} {len : Nat} {fs : List Fn} (h : zav w a len fs) {i : Nat} (hi : i ≤ len) : zav w a i (fs.take i) := by
 refine ⟨by rw [List.length_take, h.1]; omega, fun j hj => ?_⟩
 have e : (fs.take i).getD j fn0 = fs.getD j fn0 := by rw [List.getD_eq_getElem?_getD, List.getD_eq_getElem?_getD, List.getElem?_take, if_pos hj]
 rw [e]
 exact h.2 j (by omega)
set_option maxHeartbeats 2000000 in
set_option maxRecDepth 100000 in
theorem zeK (fa : Option Addr) (fl fc : Nat) (fs : List Fn) (s : List UInt8) (w : World) (hin : zav w fa fl fs) (hlen : fl ≤ 1048576) :
 Calls Tryz.prog 101 #[.slice fa fl fc, .string ⟨s.toArray⟩] w fun e w' => e = .returned (.int .i64 (atV fs s)) ∧ Below w.heap.size w w' := by
 obtain rfl : fs.length = fl := hin.1
 have HI : Hid (zav w fa fs.length fs) := hin
 clear hin
 go_enter Tryz.func101, Tryz.ntmps101
 go_wp2
 go_loopw [9] (fun iv wr => ∃ j : Nat, iv = .int .i64 (j : Int) ∧ j ≤ fs.length ∧ Hid (atV fs s = atGo s (fs.drop j) j) ∧ Hid (Below w.heap.size w wr)) (fun iv _ => fs.length - (intOf iv).toNat)
 case atStart => exact ⟨0, rfl, by omega, (rfl : atV fs s = atGo s (fs.drop 0) 0), Below.refl _ _⟩
 case round =>
  obtain ⟨j, rfl, hj, HA, HB⟩ := hrel
  by_cases hlt : (j : Int) < (fs.length : Int)
  ·
   obtain ⟨b, off, rfl, hbl, c0, c1, ta, tl, tc, c2, _, _⟩ := (HI.out.below HB.out).2 j (by omega)
   have hg := zf7 (fs := fs) (k := j) (by omega) s
   obtain ⟨x, hx⟩ : ∃ x, (fs.getD j fn0).1 = x := ⟨_, rfl⟩
   obtain ⟨n, hn⟩ : ∃ n, (fs.getD j fn0).2.1 = n := ⟨_, rfl⟩
   rw [hx] at c0 hg
   rw [hn] at c1
   obtain ⟨bx, hbx⟩ := Box3.new wr (.string ⟨x.toArray⟩) (.int .i64 n) (.slice ta tl tc) 48
   obtain ⟨X, hX⟩ : ∃ X, wr.alloc (.cells #[.string ⟨x.toArray⟩, .int .i64 n, .slice ta tl tc] 48) = X := ⟨_, rfl⟩
   rw [hX] at bx hbx
   have d0 := bx.c0
   have d1 := bx.c1
   have d2 := bx.c2
   have HB2 : Hid (Below w.heap.size w X) := HB.out.trans (hbx.mono HB.out.size)
   clear bx hbx
   by_cases hxs : x = s
   ·
    subst hxs
    have HR : Hid (atV fs x = (j : Int)) := by exact (by rw [HA.out, hg, if_pos rfl] : atV fs x = (j : Int))
    have hself : (x == x) = true := by simp
    clear HA hg hx hn
    go_wp2
    go_ret
    exact ⟨by rw [HR.out]; rfl, HB2.out⟩
   ·
    have HR : Hid (atV fs s = atGo s (fs.drop (j + 1)) (j + 1)) := by exact (by rw [HA.out, hg, if_neg hxs] : atV fs s = atGo s (fs.drop (j + 1)) (j + 1))
    have hne : (x == s) = false := by rw [beq_eq_false_iff_ne]; exact hxs
    clear HA hg hx hn
    go_wp2
    go_roundw
    case rel => exact ⟨j + 1, by go_num, by omega, HR, HB2⟩
    case measure => simp [intOf]; omega
  ·
   have HR : Hid (atV fs s = -1) := by exact (by rw [HA.out, List.drop_of_length_le (by omega)]; rfl : atV fs s = -1)
   go_wp2
   go_ret
   exact ⟨by rw [HR.out]; rfl, HB.out⟩
structure FkSt (w X : World) (E : Nat) (fa : Option Addr) (fl : Nat) (fs : List Fn) (s : List UInt8) (n : Int) (ta : Option Addr) (tl tc : Nat) (t : List Nd) : Prop where
 b : Box3 X E (.string ⟨s.toArray⟩) (.int .i64 n) (.slice ta tl tc)
 n : za4 X ta tl t
 f : zav X fa fl fs
 h : Below w.heap.size w X
theorem FkSt.below {w X Y : World} {E : Nat} {fa : Option Addr} {fl : Nat} {fs : List Fn} {s : List UInt8} {n : Int} {ta : Option Addr} {tl tc : Nat} {t : List Nd} (g : FkSt w X E fa fl fs s n ta tl tc t) (hb : Below X.heap.size X Y) : FkSt w Y E fa fl fs s n ta tl tc t :=
 ⟨g.b.below hb, g.n.below hb, g.f.below hb, g.h.trans (hb.mono g.h.size)⟩
theorem FkSt.drew {w X : World} {E : Nat} {fa : Option Addr} {fl : Nat} {fs : List Fn} {s : List UInt8} {n : Int} {ta : Option Addr} {tl tc : Nat} {t : List Nd} (g : FkSt w X E fa fl fs s n ta tl tc t) : FkSt w X.drew E fa fl fs s n ta tl tc t :=
 g.below ((Below.refl _ _).grown (zcx X none) (Nat.le_refl _) (fun k e => by cases e))
set_option maxHeartbeats 4000000 in
set_option maxRecDepth 100000 in
theorem zi0 (fa : Option Addr) (fl fc : Nat) (fs : List Fn) (w : World) (hin : zav w fa fl fs) (hlen : fl ≤ 1048576) (hfc : fl ≤ fc) (hint : IntF fs) (hsh : zdk fs) :
 Calls Tryz.prog 72 #[.slice fa fl fc] w fun e w' => e = .returned (.bool (fnsB fs)) ∧ Below w.heap.size w w' := by
 obtain rfl : fs.length = fl := hin.1
 have HI : Hid (zav w fa fs.length fs) := hin
 have HIF : Hid (IntF fs) := hint
 have HSF : Hid (zdk fs) := hsh
 clear hin hint hsh
 by_cases h1 : (fs.length : Int) < 1
 ·
  have HR : Hid (fnsB fs = false) := ziI (Or.inl h1)
  go_enter Tryz.func72, Tryz.ntmps72
  go_wp2
  go_ret
  exact ⟨by rw [HR.out]; rfl, Below.refl _ _⟩
 by_cases h8 : 8 < (fs.length : Int)
 ·
  have HR : Hid (fnsB fs = false) := ziI (Or.inr h8)
  go_enter Tryz.func72, Tryz.ntmps72
  go_wp2
  go_ret
  exact ⟨by rw [HR.out]; rfl, Below.refl _ _⟩
 go_enter Tryz.func72, Tryz.ntmps72
 go_wp2
 go_loopw [15] (fun iv wr => ∃ j : Nat, iv = .int .i64 (j : Int) ∧ j ≤ fs.length ∧ Hid (∀ i, i < j → zbi fs i) ∧ Hid (Below w.heap.size w wr)) (fun iv _ => fs.length - (intOf iv).toNat)
 case atStart => exact ⟨0, rfl, by omega, (fun i hi => by omega), Below.refl _ _⟩
 case round =>
  obtain ⟨j, rfl, hj, HA, HB⟩ := hrel
  by_cases hlt : (j : Int) < (fs.length : Int)
  ·
   have hin := HI.out.below HB.out
   obtain ⟨b, off, rfl, hbl, c0, c1, ta, tl, tc, c2, _, hnd⟩ := hin.2 j (by omega)
   have hsh := HSF.out j
   have hit := (HIF.out j).2
   have haf := at_first (fs := fs) (i := j) (by omega) rfl
   obtain ⟨f, hfj⟩ : ∃ f, fs.getD j fn0 = f := ⟨_, rfl⟩
   have HOK : Hid (zbi fs j ↔ (zcW f = true ∧ atV fs f.1 = (j : Int))) := by exact (by unfold zbi; rw [hfj] : zbi fs j ↔ (zcW f = true ∧ atV fs f.1 = (j : Int)))
   rw [hfj] at c0 c1 hnd hsh hit haf
   clear hfj
   obtain ⟨s, n, t⟩ := f
   simp only at c0 c1 hnd hsh hit haf
   have HSH : Hid (s.length ≤ 1048576 ∧ t.length ≤ 1048576 ∧ zam t) := hsh
   have HIT : Hid (IntT t) := hit
   have htl : tl ≤ 1048576 := by rw [← hnd.1]; exact hsh.2.1
   obtain ⟨bx, hbx⟩ := Box3.new wr (.string ⟨s.toArray⟩) (.int .i64 n) (.slice ta tl tc) 48
   obtain ⟨X, hX⟩ : ∃ X, wr.alloc (.cells #[.string ⟨s.toArray⟩, .int .i64 n, .slice ta tl tc] 48) = X := ⟨_, rfl⟩
   obtain ⟨E, hE⟩ : ∃ E, wr.heap.size = E := ⟨_, rfl⟩
   rw [hX] at bx hbx
   rw [hE] at bx
   have st : FkSt w X E (some ⟨b, off, none⟩) fs.length fs s n ta tl tc t := ⟨bx, hnd.below hbx, hin.below hbx, HB.out.trans (hbx.mono HB.out.size)⟩
   obtain ⟨fb, hfb⟩ : ∃ fb, zcW (s, n, t) = fb := ⟨_, rfl⟩
   obtain ⟨av, hav⟩ : ∃ av, atV (fs.take j) s = av := ⟨_, rfl⟩
   have HFB : Hid (zcW (s, n, t) = fb) := hfb
   have HAT : Hid (atV (fs.take j) s = av) := hav
   have HAF : Hid (av = -1 ↔ atV fs s = (j : Int)) := by rw [hav] at haf; exact haf
   have hjc : (j : Int) ≤ (fc : Int) := by omega
   have hjc2 : j ≤ fc := by omega
   clear hsh hit hnd hbx bx hfb hav haf hin HB
   have d0 := st.b.c0
   have d1 := st.b.c1
   have d2 := st.b.c2
   go_upto_region 6 with fail
   replace st := st.drew
   replace d0 := st.b.c0
   replace d1 := st.b.c1
   replace d2 := st.b.c2
   rcases fb with _ | _
   ·
    have HR : Hid (fnsB fs = false) := zlN (j := j) (by omega) (fun h => by have := (HOK.out.1 h).1; rw [HFB.out] at this; cases this)
    refine wp_region_held_drew (S := (fun w' => w'.cell? ⟨E, 0, none⟩ = some (.string ⟨s.toArray⟩) ∧ w'.cell? ⟨E, 1, none⟩ = some (.int .i64 n) ∧ w'.cell? ⟨E, 2, none⟩ = some (.slice ta tl tc))) (by kernel_rfl) ?_ (fun hHeld => ?_)
    ·
     first | (dsimp only; done) | (dsimp only; go_keep) | go_keep
    refine tkO [(0, 20)] ?_
    repeat (refine tkY ?_ rfl (by rfl) ?_ ?_; rotate_left; (focus (intro wq hSw; (try dsimp only at hSw); first | (go_simp; done) | (go_simp; with_reducible rfl))); simp only [zP])
    refine tkZ ?_
    refine zR 1 rfl (fun K hK => ?_)
    go_simp
    (go_at_call 100; refine (zdS (s, n, t) ta tl tc _ st.n HIT.out HSH.out.2.2 htl HSH.out.1).mono ?_; rintro e wn ⟨rfl, hbn⟩; replace st := st.below hbn; clear hbn; replace d0 := st.b.c0; replace d1 := st.b.c1; replace d2 := st.b.c2; rw [HFB.out])
    refine hK.out _ _ ?_ (fun hHeld => ?_)
    ·
     first | (dsimp only; done) | (dsimp only; go_keep) | go_keep
    clear hK K
    refine tkO [(2, 22), (3, 23), (4, 24), (5, 25), (6, 26), (7, 27), (8, 28), (9, 29), (10, 30), (11, 31)] ?_
    repeat ((first | (refine tkY ?_ rfl (by rfl) ?_ ?_; rotate_left; (focus (intro wq hSw; (try dsimp only at hSw); first | (go_simp; done) | (go_simp; with_reducible rfl)))) | refine tkN rfl (by rfl) ?_); simp only [zP])
    refine tkZ ?_
    refine wpAnyH_done (by kernel_rfl) ?_ _
    go_wp2
    go_ret
    exact ⟨by rw [HR.out]; rfl, st.h⟩
   ·
    by_cases hje : av = -1
    ·
     subst hje
     have HA2 : Hid (∀ i, i < j + 1 → zbi fs i) := fun i hi => by
      rcases Nat.lt_or_ge i j with h | h
      ·
       exact HA.out i h
      ·
       obtain rfl : i = j := by omega
       exact HOK.out.2 ⟨HFB.out, HAF.out.1 rfl⟩
     go_region_held3 (fun w' => w'.cell? ⟨E, 0, none⟩ = some (.string ⟨s.toArray⟩) ∧ w'.cell? ⟨E, 1, none⟩ = some (.int .i64 n) ∧ w'.cell? ⟨E, 2, none⟩ = some (.slice ta tl tc)) (go_keep) (first | (go_at_call 101; refine (zeK (some ⟨b, off, none⟩) j fc (fs.take j) s _ (st.f.take (by omega)) (by omega)).mono ?_; rintro e wn ⟨rfl, hbn⟩; replace st := st.below hbn; clear hbn; replace d0 := st.b.c0; replace d1 := st.b.c1; replace d2 := st.b.c2; rw [HAT.out]) | (go_at_call 100; refine (zdS (s, n, t) ta tl tc _ st.n HIT.out HSH.out.2.2 htl HSH.out.1).mono ?_; rintro e wn ⟨rfl, hbn⟩; replace st := st.below hbn; clear hbn; replace d0 := st.b.c0; replace d1 := st.b.c1; replace d2 := st.b.c2; rw [HFB.out]))
     all_goals go_wp2
     all_goals go_roundw
     case rel => exact ⟨j + 1, by go_num, by omega, HA2, st.h⟩
     case measure => simp [intOf]; omega
    ·
     have HR : Hid (fnsB fs = false) := zlN (j := j) (by omega) (fun h => hje (HAF.out.2 (HOK.out.1 h).2))
     have hjb : (av != -1) = true := by rw [bne_iff_ne]; exact hje
     have hjd : (av == -1) = false := by rw [beq_eq_false_iff_ne]; exact hje
     go_region_held3 (fun w' => w'.cell? ⟨E, 0, none⟩ = some (.string ⟨s.toArray⟩) ∧ w'.cell? ⟨E, 1, none⟩ = some (.int .i64 n) ∧ w'.cell? ⟨E, 2, none⟩ = some (.slice ta tl tc)) (go_keep) (first | (go_at_call 101; refine (zeK (some ⟨b, off, none⟩) j fc (fs.take j) s _ (st.f.take (by omega)) (by omega)).mono ?_; rintro e wn ⟨rfl, hbn⟩; replace st := st.below hbn; clear hbn; replace d0 := st.b.c0; replace d1 := st.b.c1; replace d2 := st.b.c2; rw [HAT.out]) | (go_at_call 100; refine (zdS (s, n, t) ta tl tc _ st.n HIT.out HSH.out.2.2 htl HSH.out.1).mono ?_; rintro e wn ⟨rfl, hbn⟩; replace st := st.below hbn; clear hbn; replace d0 := st.b.c0; replace d1 := st.b.c1; replace d2 := st.b.c2; rw [HFB.out]))
     all_goals go_wp2
     all_goals go_ret
     all_goals exact ⟨by rw [HR.out]; rfl, st.h⟩
  ·
   have HR : Hid (fnsB fs = true) := fnsB_yes (by omega) (by omega) (fun i hi => HA.out i (by omega))
   go_wp2
   go_ret
   exact ⟨by rw [HR.out]; rfl, HB.out⟩
set_option maxHeartbeats 2000000 in
set_option maxRecDepth 100000 in
theorem zgu (nm : List UInt8) (ia : Option Addr) (il ic : Nat) (fa : Option Addr) (fl fc : Nat) (ims : List (List UInt8)) (fs : List Fn) (w : World) (h : PkOk w nm ia il ic fa fl fc ims fs) :
 Calls Tryz.prog 42 #[.agg #[.string ⟨nm.toArray⟩, .slice ia il ic, .slice fa fl fc]] w fun e w' => e = .returned (.bool (pkgB (nm, ims, fs))) ∧ Below w.heap.size w w' := by
 obtain ⟨W, hW⟩ : ∃ W, w.alloc (.cells #[.string ⟨nm.toArray⟩, .slice ia il ic, .slice fa fl fc] 33) = W := ⟨_, rfl⟩
 obtain ⟨st, hB⟩ := PkIn.new (w := w) (nm := nm) (ic := ic) (fc := fc) h.i h.f
 rw [hW] at st hB
 have k0 := st.k0
 have k1 := st.k1
 have k2 := st.k2
 have hC1 : Hid (_) := zby nm W h.nm
 have hC2 : Hid (_) := zdz ia il ic ims W st.i h.il h.is
 have hC3 : Hid (_) := zi0 fa fl fc fs W st.f h.fl h.fc.2 h.int h.fs
 have HP : Hid (pkgB (nm, ims, fs) = (zak nm && (zal ims && fnsB fs))) := pkgB_fns (nm, ims, fs)
 generalize zak nm = nb at hC1 HP
 generalize zal ims = ib at hC2 HP
 generalize fnsB fs = fb at hC3 HP
 clear h st
 go_enter Tryz.func42, Tryz.ntmps42
 rcases nb with _ | _
 ·
  go_wp2_with (go_at_call 49; refine Calls.mono hC1.out ?_; rintro e w1 ⟨rfl, rfl⟩)
  go_ret
  exact ⟨by rw [HP.out]; rfl, hB⟩
 ·
  rcases ib with _ | _
  ·
   go_wp2_with (first | (go_at_call 49; refine Calls.mono hC1.out ?_; rintro e w1 ⟨rfl, rfl⟩) | (go_at_call 50; refine Calls.mono hC2.out ?_; rintro e w1 ⟨rfl, rfl⟩))
   go_ret
   exact ⟨by rw [HP.out]; rfl, hB⟩
  ·
   go_wp2_with (first | (go_at_call 49; refine Calls.mono hC1.out ?_; rintro e w1 ⟨rfl, rfl⟩) | (go_at_call 50; refine Calls.mono hC2.out ?_; rintro e w1 ⟨rfl, rfl⟩) | (go_at_call 72; refine Calls.mono hC3.out ?_; rintro e w2 ⟨rfl, hb2⟩))
   go_ret
   exact ⟨by rw [HP.out]; rfl, hB.trans (hb2.mono hB.size)⟩
theorem ziq {w : World} {base e size g n cp : Nat} {xs : List Value} (h : w.ownsRow base e size (.slice (some ⟨g, 0, none⟩) n cp) n xs) (j : Nat) (u : Value) (hx : xs[j]? = some u) :
 (w.setCell ⟨g, j, none⟩ u).ownsRow base e size (.slice (some ⟨g, 0, none⟩) n cp) n xs ∧ w.grownBy (w.setCell ⟨g, j, none⟩ u) (some g) := by
 have hs := h.stored j u
 obtain ⟨hj, e⟩ := List.getElem?_eq_some_iff.1 hx
 subst e
 rw [List.set_getElem_self] at hs
 exact hs
set_option maxHeartbeats 1000000 in
set_option maxRecDepth 100000 in
theorem zjN (a : Option Addr) (len cap : Nat) (ns : List Nd) (w : World) (hin : za4 w a len ns) (hc : a = none → cap = 0) (hlen : len ≤ 1048576) :
 Calls Tryz.prog 103 #[.slice a len cap] w fun e w' => ∃ v, e = .returned v ∧ w'.ownsRow w.heap.size 90 4 v ns.length (za0 ns) ∧ Below w.heap.size w w' := by
 obtain rfl : ns.length = len := hin.1
 obtain ⟨i0, hi, hz0, hz1, hz2⟩ := info_parts zd8
 rcases a with _ | ad
 ·
  obtain rfl := hc rfl
  have h0 : ns.length = 0 := by
   rcases Nat.eq_zero_or_pos ns.length with h | h
   ·
    exact h
   ·
    obtain ⟨b, off, e, _⟩ := hin.at h; cases e
  obtain rfl : ns = [] := List.eq_nil_of_length_eq_zero h0
  have HO : Hid (w.ownsRow w.heap.size 90 4 (.slice none 0 0) 0 (za0 [])) := World.ownsRow_nil w _ _ _
  have heq : ∀ V : World, (binOp .eql 46 (.slice none 0 0) (.slice none 0 0)).run Tryz.prog V = .ok (.bool true) V := fun V => Lib.run_eql_slice_nil V _ _ none 0 0 0 0 Tryz.underlying46
  clear hin hc h0
  go_enter Tryz.func103, Tryz.ntmps103
  go_wp2
  go_ret
  exact ⟨_, rfl, HO.out, Below.refl _ _⟩
 ·
  have hbA : Below w.heap.size w (w.alloc (.cells #[] 90)) := (Below.refl _ _).alloc (Nat.le_refl _) _
  have hown0 := (World.ownsRow_lit (base := w.heap.size) (e := 90) (size := 4) w #[] 0 (Nat.le_refl _) (by decide) rfl)
  obtain ⟨v', w', hrun, hown', hg, _⟩ := zaS (P := Tryz.prog) (w.alloc (.cells #[] 90)) w.heap.size 46 46 90 i0 _ 4 48 Tryz.underlying46 hi hz0 hz1 hz2 rfl (by decide) _ _ _ hown0 (.slice (some ad) ns.length cap) ns.length (za0 ns) ((hin.below hbA).src hc) (by unfold maxLen; omega) (by omega) (by simp)
  have hb : Below w.heap.size w w' := hbA.grown hg hbA.size (fun q e => by simp [Value.ownBlock] at e; omega)
  have HO : Hid (w'.ownsRow w.heap.size 90 4 v' ns.length (za0 ns)) := by
   simp only [Nat.zero_add] at hown'
   exact (by simpa using hown' : w'.ownsRow w.heap.size 90 4 v' ns.length (za0 ns))
  have heq : ∀ V : World, (binOp .eql 46 (.slice (some ad) ns.length cap) (.slice none 0 0)).run Tryz.prog V = .ok (.bool false) V := fun V => Lib.run_eql_slice_nil V _ _ (some ad) ns.length cap 0 0 Tryz.underlying46
  clear hown' hg hown0 hbA hin hc
  go_enter Tryz.func103, Tryz.ntmps103
  go_wp2_with (at_builtin; refine wpList_append_run rfl (.tmp 5) (.tmp 6) 46 rfl _ _ _ rfl rfl hrun ?_; clear hrun)
  go_ret
  exact ⟨v', rfl, HO.out, hb⟩
set_option maxHeartbeats 2000000 in
set_option maxRecDepth 100000 in
theorem zhd (a : Option Addr) (len cap : Nat) (ns : List Nd) (w : World) (hin : za4 w a len ns) (hc : a = none → cap = 0) (hlen : len ≤ 1048576) (hsh : zam ns) :
 Calls Tryz.prog 75 #[.slice a len cap] w fun e w' => ∃ v, e = .returned v ∧ w'.ownsRow w.heap.size 90 4 v ns.length (za0 ns) ∧ Below w.heap.size w w' := by
 have HC : Hid (_) := zjN a len cap ns w hin hc hlen
 obtain rfl : ns.length = len := hin.1
 have HSH : Hid (zam ns) := hsh
 clear hin hc hsh
 go_enter Tryz.func75, Tryz.ntmps75
 go_wp2_with fail
 refine Calls.mono HC.out ?_
 rintro e w1 ⟨v, rfl, hown, hb⟩
 obtain ⟨_, av, cv, rfl, _⟩ := zaq hown
 have HO : Hid (w1.ownsRow w.heap.size 90 4 (.slice av ns.length cv) ns.length (za0 ns)) := hown
 clear HC hown
 go_wp2
 go_loopw [10] (fun iv wr => ∃ k : Nat, iv = .int .i64 (k : Int) ∧ k ≤ ns.length ∧ Hid (wr.ownsRow w.heap.size 90 4 (.slice av ns.length cv) ns.length (za0 ns)) ∧ Hid (Below w.heap.size w wr)) (fun iv _ => ns.length - (intOf iv).toNat)
 case atStart => exact ⟨0, rfl, by omega, HO, hb⟩
 case round =>
  obtain ⟨k, rfl, hk, HV, HB⟩ := hrel
  clear HO hb
  by_cases hlt : (k : Int) < (ns.length : Int)
  ·
   have hk2 : k < ns.length := by omega
   obtain ⟨g, cp, he⟩ := zag HV.out (by omega)
   injection he with e1 _ e3
   subst e1 e3
   obtain ⟨v0, v1, v2, v3⟩ := zcv ns k hk2
   obtain ⟨hp, hf⟩ := HSH.out k
   obtain ⟨nd, hnd⟩ : ∃ nd, ns.getD k nd0 = nd := ⟨_, rfl⟩
   rw [hnd] at v0 v1 v2 v3 hp hf
   obtain ⟨kd, aa, p, f⟩ := nd
   simp only at v0 v1 v2 v3 hp hf
   have hat := fun i (hi : i < ns.length * 4) => World.ownsRow.cellAt HV.out i hi
   have c0 := (hat (k * 4) (by omega)).trans v0
   have c1 := (hat (k * 4 + 1) (by omega)).trans v1
   have c2 := (hat (k * 4 + 2) (by omega)).trans v2
   have c3 := (hat (k * 4 + 3) (by omega)).trans v3
   have hgl := HV.out.lt g rfl
   have H2 : Hid ((za0 ns)[k * 4 + 2]? = some (.string ⟨p.toArray⟩)) := v2
   have H3 : Hid ((za0 ns)[k * 4 + 3]? = some (.string ⟨f.toArray⟩)) := v3
   obtain ⟨X, hX⟩ : ∃ X, wr.alloc (.cells #[.int .i64 kd, .int .i64 aa, .string ⟨p.toArray⟩, .string ⟨f.toArray⟩] 90) = X := ⟨_, rfl⟩
   obtain ⟨E, hE⟩ : ∃ E, wr.heap.size = E := ⟨_, rfl⟩
   have hbX : Below wr.heap.size wr X := by rw [← hX]; exact (Below.refl _ wr).alloc (Nat.le_refl _) _
   have st := NdAt.new wr kd aa p f
   rw [hX, hE] at st
   have d0 := st.c0
   have d1 := st.c1
   have d2 := st.c2
   have d3 := st.c3
   have hgE : g < E := by omega
   have hgn : ¬ g = E := by omega
   have hgm : ¬ E = g := by omega
   have hBX : Below w.heap.size w X := HB.out.trans (hbX.mono HB.out.size)
   have hoX := za2 HV.out hbX
   clear v0 v1 v2 v3 hat hnd hbX HV HB hgl
   go_wp2_with fail
   refine (zbY p _ hp).mono ?_
   rintro e w2 ⟨rfl, hb2⟩
   have hB2 := hBX.trans (hb2.mono hBX.size)
   have ho2 := za2 hoX hb2
   replace st := st.below hb2
   obtain ⟨ho3, hg3⟩ := ziq ho2 (k * 4 + 2) (.string ⟨p.toArray⟩) H2.out
   have q2 : w2.cell? ⟨g, k * 4 + 2, none⟩ = some (.string ⟨p.toArray⟩) := (World.ownsRow.cellAt ho2 _ (by omega)).trans H2.out
   have z2 := World.ownsRow.frozenAt ho2 (k * 4 + 2)
   have hE2 : E < w2.heap.size := World.block_lt_of_cell? w2 ⟨E, 0, none⟩ st.c0
   have hg2 := (ho2.lt g rfl)
   obtain ⟨Y, hY⟩ : ∃ Y, w2.setCell ⟨g, k * 4 + 2, none⟩ (.string ⟨p.toArray⟩) = Y := ⟨_, rfl⟩
   rw [hY] at ho3 hg3
   have hB3 : Below w.heap.size w Y := hB2.grown hg3 hB2.size (fun q e => by injection e with e; omega)
   have hk3 : Y.heap[E]? = w2.heap[E]? := hg3.block E hE2 (by simp; omega)
   have t3 : Y.cell? ⟨E, 3, none⟩ = some (.string ⟨f.toArray⟩) := (World.cell?_of_block (a := ⟨E, 3, none⟩) hk3).trans st.c3
   clear hBX hoX hb2 hB2 ho2 st hE2 hg2 hg3 hk3 d0 d1 d2 d3 c0 c1 c2 c3
   go_wp2_with fail
   refine (zbY f _ hf).mono ?_
   rintro e w3 ⟨rfl, hb4⟩
   have hB4 := hB3.trans (hb4.mono hB3.size)
   have ho4 := za2 ho3 hb4
   obtain ⟨ho5, hg5⟩ := ziq ho4 (k * 4 + 3) (.string ⟨f.toArray⟩) H3.out
   have q3 : w3.cell? ⟨g, k * 4 + 3, none⟩ = some (.string ⟨f.toArray⟩) := (World.ownsRow.cellAt ho4 _ (by omega)).trans H3.out
   have z3 := World.ownsRow.frozenAt ho4 (k * 4 + 3)
   have hg4 := (ho4.lt g rfl)
   obtain ⟨Z, hZ⟩ : ∃ Z, w3.setCell ⟨g, k * 4 + 3, none⟩ (.string ⟨f.toArray⟩) = Z := ⟨_, rfl⟩
   rw [hZ] at ho5 hg5
   have HB5 : Hid (Below w.heap.size w Z) := hB4.grown hg5 hB4.size (fun q e => by injection e with e; omega)
   have HO5 : Hid (Z.ownsRow w.heap.size 90 4 (.slice (some ⟨g, 0, none⟩) ns.length cv) ns.length (za0 ns)) := ho5
   clear hB3 ho3 hb4 hB4 ho4 ho5 hg5 hg4 t3 q2 z2
   go_wp2
   go_roundw
   case rel => exact ⟨k + 1, by go_num, by omega, HO5, HB5⟩
   case measure => simp [intOf]; omega
  ·
   go_wp2
   go_ret
   exact ⟨_, rfl, HV.out, HB.out⟩
structure CfSt (w X : World) (D : Nat) (s : List UInt8) (n : Int) (ta : Option Addr) (tl tc : Nat) (t : List Nd) : Prop where
 b : Box3 X D (.string ⟨s.toArray⟩) (.int .i64 n) (.slice ta tl tc)
 n : za4 X ta tl t
 r : Box3 X (D + 1) (.string ⟨#[]⟩) (.int .i64 0) (.slice none 0 0)
 fr : ∀ j, X.frozen? ⟨D + 1, j, none⟩ = false
 h : Below D w X
 hs : D + 2 ≤ X.heap.size
theorem CfSt.below {w X Y : World} {D : Nat} {s : List UInt8} {n : Int} {ta : Option Addr} {tl tc : Nat} {t : List Nd} (g : CfSt w X D s n ta tl tc t) (hb : Below X.heap.size X Y) : CfSt w Y D s n ta tl tc t :=
 ⟨g.b.below hb, g.n.below hb, g.r.below hb, fun j => (hb.frozen (p := ⟨D + 1, j, none⟩) (by have := g.hs; show D + 1 < _; omega)).trans (g.fr j), g.h.trans (hb.mono (by have := g.hs; omega)), Nat.le_trans g.hs hb.size⟩
theorem CfSt.drew {w X : World} {D : Nat} {s : List UInt8} {n : Int} {ta : Option Addr} {tl tc : Nat} {t : List Nd} (g : CfSt w X D s n ta tl tc t) : CfSt w X.drew D s n ta tl tc t :=
 g.below ((Below.refl _ _).grown (zcx X none) (Nat.le_refl _) (fun k e => by cases e))
end Go.Proofs.YtkpdoedpkncboaaGreat
