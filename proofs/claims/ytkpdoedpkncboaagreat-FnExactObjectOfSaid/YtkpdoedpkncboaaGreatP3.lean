/-
  Parts of one proof, one behind the other: TreeS6, FoldS, Math11V, Math11S, HasS, PackS, PackS2, PackS3, ProjS, ProjS2, ProjS3, ProjS4, ProjS5, ProjS6, Bend1, Bend2, RowW, PackS4, PackC.
-/
import Derived.Test.YtkpdoedpkncboaaGreatP2
import Derived.Test.YtkpdoedpkncboaaGreatP1
import Derived.BigQuiet
import Derived.Deep.RegionHeld3
import Derived.Deep.Cut
import Derived.Deep.RegionLaw
import Derived.Deep.DrawnRows
import Derived.Laws.IdiomCopy
namespace Go.Proofs.YtkpdoedpkncboaaGreat
open Go.RowKit
def zaF (l : List Int) : List Value := l.map (fun i => Value.int .i64 i)
theorem zh1 (l : List Int) : (zaF l).length = l.length := by simp [zaF]
theorem zcU (x y : List Int) : zaF (x ++ y) = zaF x ++ zaF y := by simp [zaF]
theorem zeG (l : List Int) : ∀ u ∈ zaF l, u.oneCell' = true := by
 intro u hu
 simp only [zaF, List.mem_map] at hu
 obtain ⟨i, _, rfl⟩ := hu
 rfl
theorem zlh : (Tryz.prog.info? 2).map (fun i => (i.zero, i.size, i.bytes)) = some (some (.int .i64 0), 1, 8) := by kernel_rfl
theorem zhN (w : World) (n : Int) : ∀ j u, (zaF [n])[j]? = some u → (w.alloc (.cells #[.int .i64 n] 2)).cell? ((⟨w.heap.size, 0, none⟩ : Addr).add j) = some u := by
 intro j u hu
 have e : (⟨w.heap.size, 0, none⟩ : Addr).add j = ⟨w.heap.size, j, none⟩ := by unfold Addr.add; split <;> simp_all
 rw [e]
 match j, hu with
 | 0, hu => simp [zaF] at hu; subst hu; simp
 | j + 1, hu => simp [zaF] at hu
theorem zgB (l : List Nd) (a : Int) : -1 ≤ endV l a ∧ endV l a ≤ l.length := by
 by_cases h : 0 ≤ endV l a
 ·
  by_cases ha : a < 0 ∨ (l.length : Int) ≤ a
  ·
   rw [zca l a ha] at h; omega
  ·
   obtain ⟨k, rfl⟩ : ∃ k : Nat, a = (k : Int) := Int.eq_ofNat_of_zero_le (by omega)
   have := zac h
   omega
 ·
  by_cases ha : a < 0 ∨ (l.length : Int) ≤ a
  ·
   rw [zca l a ha]; omega
  ·
   obtain ⟨k, rfl⟩ : ∃ k : Nat, a = (k : Int) := Int.eq_ofNat_of_zero_le (by omega)
   rw [zcp] at h ⊢
   unfold endN at h ⊢
   rw [if_pos (by omega)] at h ⊢
   cases he : zbj (l.drop k) 1 with
   | none => simp only; omega
   | some d => rw [he] at h; simp only at h; omega
set_option maxHeartbeats 2000000 in
set_option maxRecDepth 100000 in
theorem zaU (a : Option Addr) (cap : Nat) (ns : List Nd) (k0 : Nat) (w : World) (hin : za4 w a ns.length ns) (hsh : zam ns) (hlen : ns.length ≤ 1048576) (hk0 : k0 < ns.length) (hnb : zaD (ns.getD k0 nd0) = true) :
 Calls Tryz.prog 64 #[.slice a ns.length cap, .int .i64 k0] w fun e w' => ∃ v, e = .returned v ∧ w'.ownsRow w.heap.size 2 1 v (za7 (ns.getD k0 nd0)) (zaF (zad ns (za7 (ns.getD k0 nd0)) ((k0 : Int) + 1))) ∧ Below w.heap.size w w' := by
 have hown0 := (World.ownsRow_lit (base := w.heap.size) (e := 2) (size := 1) w #[] 0 (Nat.le_refl _) (by decide) rfl)
 obtain ⟨i0, hi, hz0, hz1, hz2⟩ := info_parts zlh
 obtain ⟨b, off, rfl, hbl, hcells⟩ := hin.at (by omega)
 obtain ⟨c0, c1, c2, c3⟩ := hcells k0 hk0
 obtain ⟨n, hn⟩ : ∃ n, ns.getD k0 nd0 = n := ⟨_, rfl⟩
 rw [hn] at c0 c1 c2 c3 hnb ⊢
 have HK : Hid (_) := fun W : World => zig n W
 obtain ⟨hk1, hk3⟩ := @zaT n hnb
 have HI : Hid (za4 w (some ⟨b, off, none⟩) ns.length ns) := hin
 have HE : Hid (_) := fun (j : Int) (W : World) (h : za4 W (some ⟨b, off, none⟩) ns.length ns) => zgM (some ⟨b, off, none⟩) ns.length cap ns j W h hsh hlen
 have hk0i : (k0 : Int) < 1048576 := by omega
 obtain ⟨kd, aa, p, f⟩ := n
 unfold zaa at HK
 simp only at c0 c1 c2 c3 HK
 clear hn hcells hin hsh hnb
 go_enter Tryz.func64, Tryz.ntmps64
 go_wp2_with fail
 refine Calls.mono (HK.out _) ?_
 rintro e w1 ⟨rfl, hb1⟩
 rw [hk1]
 obtain ⟨q, hq⟩ : ∃ q, za7 (kd, aa, p, f) = q := ⟨_, rfl⟩
 rw [hq] at hk3 ⊢
 have HQ : Hid (za7 (kd, aa, p, f) = q) := hq
 have hB1 := zi8 hb1
 have hown1 := za2 hown0 hb1
 clear hk1 hq hb1 hown0 HK c0 c1 c2 c3
 go_wp2
 go_loopw [5, 6, 7] (fun v nx kv wr => ∃ (ds : List Int) (r : Nat) (t : Int), kv = .int .i64 r ∧ nx = .int .i64 t ∧ ds.length + r = q ∧ -1 ≤ t ∧ t ≤ 1048576 ∧ Hid (ds ++ zad ns r t = zad ns q ((k0 : Int) + 1)) ∧ Hid (wr.ownsRow w.heap.size 2 1 v ds.length (zaF ds)) ∧ Below w.heap.size w wr) (fun _ _ kv _ => (intOf kv).toNat)
 case atStart => exact ⟨[], q, (k0 : Int) + 1, rfl, by go_num, by simp, by omega, by omega, (rfl : [] ++ zad ns q ((k0 : Int) + 1) = _), hown1, hB1⟩
 case round =>
  obtain ⟨ds, r, t, rfl, rfl, hr, ht0, ht1, HP, HV, hb⟩ := hrel
  clear hown1 hB1
  by_cases hrz : r = 0
  ·
   subst hrz
   have HF : Hid (ds = zad ns q ((k0 : Int) + 1) ∧ ds.length = q) := by
    have h := HP.out
    rw [zad, List.append_nil] at h
    exact (⟨h, by omega⟩ : ds = zad ns q ((k0 : Int) + 1) ∧ ds.length = q)
   go_wp2
   go_ret
   exact ⟨_, rfl, by rw [HQ.out, ← HF.out.1, ← HF.out.2]; exact HV.out, hb⟩
  ·
   obtain ⟨r', rfl⟩ : ∃ r', r = r' + 1 := ⟨r - 1, by omega⟩
   have hr1 : (0 : Int) < ((r' + 1 : Nat) : Int) := by omega
   have hnc := zhN wr t
   have hV := HV.out
   have hB0 := hb
   clear hrz HV
   go_wp2_with (at_builtin; refine wpList_append_own_at _ rfl _ _ 91 rfl w.heap.size 2 i0 _ 1 8 Tryz.underlying91 hi hz0 hz1 hz2 rfl (by decide) _ _ _ rfl (hV.alloc _) ⟨wr.heap.size, 0, none⟩ 1 1 (zaF [t]) rfl rfl ?c1 ?c2 ?c3 ?c4 ?c5 ?_)
   first | (case c1 => exact hnc) | skip
   first | (case c2 => exact zeG _) | skip
   first | (case c3 => unfold maxLen; omega) | skip
   first | (case c4 => omega) | skip
   first | (case c5 => have := hB0.size; simp; try omega) | skip
   intro v' w3 hown3 hgrow3 hnil3 hat3
   have HV3 : Hid (w3.ownsRow w.heap.size 2 1 v' (ds ++ [t]).length (zaF (ds ++ [t]))) := by
    exact (by rw [zcU, List.length_append]; exact hown3 : w3.ownsRow w.heap.size 2 1 v' (ds ++ [t]).length (zaF (ds ++ [t])))
   have hb3 : Below w.heap.size w w3 := (hB0.alloc hB0.size _).grown hgrow3 (by have := hB0.size; simp; omega) (fun q e => (hV.lt q e).1)
   clear hown3 hgrow3 hnil3 hat3 hV hB0 hnc hb
   have HP2 : Hid ((ds ++ [t]) ++ zad ns r' (endV ns t) = zad ns q ((k0 : Int) + 1)) := by
    exact (by rw [← HP.out, zad, List.append_assoc]; rfl : (ds ++ [t]) ++ zad ns r' (endV ns t) = zad ns q ((k0 : Int) + 1))
   have he := zgB ns t
   go_wp2_with fail
   refine Calls.mono (HE.out t _ (HI.out.below hb3)) ?_
   rintro e w4 ⟨rfl, hb4⟩
   have hB4 := hb3.trans (hb4.mono hb3.size)
   have HV4 : Hid (w4.ownsRow w.heap.size 2 1 v' (ds ++ [t]).length (zaF (ds ++ [t]))) := za2 HV3.out hb4
   obtain ⟨t', htt⟩ : ∃ t', endV ns t = t' := ⟨_, rfl⟩
   rw [htt] at HP2 he ⊢
   have hdl : (ds ++ [t]).length + r' = q := by simp; omega
   clear htt hb4 hb3 HV3 HP
   go_wp2
   go_roundw
   case rel => exact ⟨ds ++ [t], r', t', by go_num, rfl, hdl, by omega, by omega, HP2, HV4, hB4⟩
   case measure => simp [intOf]
theorem one_no {ns : List Nd} (h : ns.length ≠ 1) : zai ns = false := decide_eq_false (fun e => h e.1)
theorem one_eq (k v : Int) (p q : List UInt8) : zai [((k, v, p, q) : Nd)] = (k == 1) := by
 unfold zai
 by_cases h : k = 1
 ·
  simp [h]
 ·
  simp [h]
theorem num_eq (k v u : Int) (p q : List UInt8) : zap [((k, v, p, q) : Nd)] u = ((k == 1) && (v == u)) := by
 unfold zap
 rw [one_eq]
 by_cases h : v = u
 ·
  simp [h]
 ·
  simp [h]
set_option maxHeartbeats 1000000 in
set_option maxRecDepth 100000 in
theorem zbE (a : Option Addr) (len cap : Nat) (ns : List Nd) (w : World) (hin : za4 w a len ns) (hlen : len ≤ 1048576) :
 Calls Tryz.prog 65 #[.slice a len cap] w fun e w' => e = .returned (.bool (zai ns)) ∧ w' = w := by
 obtain rfl : ns.length = len := hin.1
 by_cases hl : ns.length = 1
 ·
  obtain ⟨n, rfl⟩ := List.length_eq_one_iff.1 hl
  obtain ⟨b, off, rfl, _, c0, _⟩ := hin.2 0 (by simp)
  obtain ⟨k, v, p, q⟩ := n
  simp at c0
  rw [one_eq]
  clear hin hl hlen
  rcases hk : (k == 1) with _ | _
  ·
   go_enter Tryz.func65, Tryz.ntmps65
   go_wp2
   go_ret
   exact ⟨rfl, rfl⟩
  ·
   go_enter Tryz.func65, Tryz.ntmps65
   go_wp2
   go_ret
   exact ⟨rfl, rfl⟩
 ·
  rw [one_no hl]
  have hb : ((ns.length : Int) == 1) = false := beq_eq_false_iff_ne.2 (by omega)
  clear hin hl
  go_enter Tryz.func65, Tryz.ntmps65
  go_wp2
  go_ret
  exact ⟨rfl, rfl⟩
set_option maxHeartbeats 1000000 in
set_option maxRecDepth 100000 in
theorem zbF (a : Option Addr) (len cap : Nat) (ns : List Nd) (u : Int) (w : World) (hin : za4 w a len ns) (hlen : len ≤ 1048576) :
 Calls Tryz.prog 67 #[.slice a len cap, .int .i64 u] w fun e w' => e = .returned (.bool (zap ns u)) ∧ w' = w := by
 obtain rfl : ns.length = len := hin.1
 by_cases hl : ns.length = 1
 ·
  obtain ⟨n, rfl⟩ := List.length_eq_one_iff.1 hl
  obtain ⟨b, off, rfl, _, c0, c1, _⟩ := hin.2 0 (by simp)
  obtain ⟨k, v, p, q⟩ := n
  simp at c0 c1
  rw [num_eq]
  clear hin hl hlen
  rcases hk : (k == 1) with _ | _
  ·
   go_enter Tryz.func67, Tryz.ntmps67
   go_wp2
   go_ret
   exact ⟨rfl, rfl⟩
  ·
   rcases hv : (v == u) with _ | _
   ·
    go_enter Tryz.func67, Tryz.ntmps67
    go_wp2
    go_ret
    exact ⟨rfl, rfl⟩
   ·
    go_enter Tryz.func67, Tryz.ntmps67
    go_wp2
    go_ret
    exact ⟨rfl, rfl⟩
 ·
  have hn : zap ns u = false := by unfold zap; rw [one_no hl]; rfl
  rw [hn]
  have hb : ((ns.length : Int) == 1) = false := beq_eq_false_iff_ne.2 (by omega)
  clear hin hl hn
  go_enter Tryz.func67, Tryz.ntmps67
  go_wp2
  go_ret
  exact ⟨rfl, rfl⟩

theorem one_is {t : List Nd} (h : zai t = true) : ∃ v p f, t = [((1, v, p, f) : Nd)] := by
 obtain ⟨h1, h2⟩ := of_decide_eq_true h
 obtain ⟨n, rfl⟩ := List.length_eq_one_iff.1 h1
 obtain ⟨k, v, p, f⟩ := n
 simp at h2
 subst h2
 exact ⟨v, p, f, rfl⟩
theorem zgg {ts : List (List UInt8)} {s : List UInt8} {k : Nat} (h : ∀ i, i < k → ts.getD i [] ≠ s) (hk : ts.length ≤ k) : ¬ s ∈ ts := fun hm => by
 obtain ⟨i, hi, rfl⟩ := List.mem_iff_getElem.1 hm
 exact h i (by omega) (by simp [List.getD, hi])
theorem zlK {ts : List (List UInt8)} {k : Nat} (hk : k < ts.length) : ts.getD k [] ∈ ts := by
 rw [List.getD_eq_getElem?_getD, List.getElem?_eq_getElem hk]; exact List.getElem_mem hk
set_option maxHeartbeats 1000000 in
set_option maxRecDepth 100000 in
theorem specHas (a : Option Addr) (len cap : Nat) (ts : List (List UInt8)) (s : List UInt8) (w : World) (hin : zae w a len ts) (hlen : len ≤ 4194304) :
 Calls Tryz.prog 70 #[.slice a len cap, .string ⟨s.toArray⟩] w fun e w' => e = .returned (.bool (decide (s ∈ ts))) ∧ w' = w := by
 obtain rfl : ts.length = len := hin.1
 have HI : Hid (zae w a ts.length ts) := hin
 clear hin
 go_enter Tryz.func70, Tryz.ntmps70
 go_wp2
 go_loopw [5] (fun iv wr => ∃ k : Nat, iv = .int .i64 (k : Int) ∧ k ≤ ts.length ∧ Hid (∀ i, i < k → ts.getD i [] ≠ s) ∧ wr = w) (fun iv _ => ts.length - (intOf iv).toNat)
 case atStart => exact ⟨0, rfl, by omega, (fun i hi => by omega), rfl⟩
 case round =>
  obtain ⟨k, rfl, hk, HA, rfl⟩ := hrel
  by_cases hlt : (k : Int) < (ts.length : Int)
  ·
   have hk2 : k < ts.length := by omega
   obtain ⟨b, off, rfl, hbl, c0⟩ := HI.out.2 k hk2
   have hmem := zlK hk2
   obtain ⟨x, hx⟩ : ∃ x, ts.getD k [] = x := ⟨_, rfl⟩
   rw [hx] at c0 hmem
   by_cases hxs : x = s
   ·
    subst hxs
    have HR : Hid (decide (x ∈ ts) = true) := decide_eq_true hmem
    have hself : (x == x) = true := by simp
    clear HA hx hmem
    go_wp2
    go_ret
    exact ⟨by rw [HR.out]; rfl, rfl⟩
   ·
    have HA2 : Hid (∀ i, i < k + 1 → ts.getD i [] ≠ s) := fun i hi => by
     rcases Nat.lt_or_ge i k with h | h
     ·
      exact HA.out i h
     ·
      obtain rfl : i = k := by omega
      rw [hx]; exact hxs
    have hne : (x == s) = false := by rw [beq_eq_false_iff_ne]; exact hxs
    clear HA hx hmem
    go_wp2
    go_roundw
    case rel => exact ⟨k + 1, by go_num, by omega, HA2, trivial⟩
    case measure => simp [intOf]; omega
  ·
   have HR : Hid (decide (s ∈ ts) = false) := decide_eq_false (zgg HA.out (by omega))
   go_wp2
   go_ret
   exact ⟨by rw [HR.out]; rfl, rfl⟩
set_option maxHeartbeats 2000000 in
set_option maxRecDepth 100000 in
theorem specRise (a : Option Addr) (len cap : Nat) (ts : List (List UInt8)) (w : World) (hin : zae w a len ts) (hlen : len ≤ 1048576) :
 Calls Tryz.prog 61 #[.slice a len cap] w fun e w' => e = .returned (.bool (zev ts)) ∧ Below w.heap.size w w' := by
 obtain rfl : ts.length = len := hin.1
 have HI : Hid (zae w a ts.length ts) := hin
 clear hin
 go_enter Tryz.func61, Tryz.ntmps61
 go_wp2
 go_loopw [3] (fun iv wr => ∃ j : Nat, iv = .int .i64 ((j : Int) + 1) ∧ j ≤ ts.length ∧ Hid (∀ i, i < j → leT (ts.getD (i + 1) []) (ts.getD i []) = false) ∧ Hid (zae wr a ts.length ts) ∧ Hid (Below w.heap.size w wr)) (fun iv _ => ts.length + 1 - (intOf iv).toNat)
 case atStart => exact ⟨0, rfl, by omega, (fun i hi => by omega), HI, Below.refl _ _⟩
 case round =>
  obtain ⟨j, rfl, hj, HA, HT, HB⟩ := hrel
  clear HI
  by_cases hlt : (j : Int) + 1 < (ts.length : Int)
  ·
   obtain ⟨b, off, rfl, hbl, c0⟩ := HT.out.2 j (by omega)
   obtain ⟨b', off', he, _, c1⟩ := HT.out.2 (j + 1) (by omega)
   simp only [Option.some.injEq, Addr.mk.injEq, and_true] at he
   obtain ⟨rfl, rfl⟩ := he
   obtain ⟨x, hx⟩ : ∃ x, ts.getD j [] = x := ⟨_, rfl⟩
   obtain ⟨y, hy⟩ : ∃ y, ts.getD (j + 1) [] = y := ⟨_, rfl⟩
   rw [hx] at c0
   rw [hy] at c1
   rcases hle : leT y x with _ | _
   ·
    have HA2 : Hid (∀ i, i < j + 1 → leT (ts.getD (i + 1) []) (ts.getD i []) = false) := fun i hi => by
     rcases Nat.lt_or_ge i j with h | h
     ·
      exact HA.out i h
     ·
      obtain rfl : i = j := by omega
      rw [hx, hy]; exact hle
    have HT2 : Hid (zae wr (some ⟨b, off, none⟩) ts.length ts) := HT.out
    unfold leT at hle
    clear HA HT hx hy
    go_wp2_with fail
    go_quiet (fail)
    go_wp2
    go_roundw
    case rel => exact ⟨j + 1, by go_num, by omega, HA2, HT2, HB.out.trans ⟨rfl, rfl, rfl, Nat.le_refl _, fun _ _ => rfl⟩⟩
    case measure => simp [intOf]; omega
   ·
    have HR : Hid (zev ts = false) := zio (j := j) (by omega) (by rw [hx, hy]; exact hle)
    unfold leT at hle
    clear HA HT hx hy
    go_wp2_with fail
    go_quiet (fail)
    go_wp2
    go_ret
    exact ⟨by rw [HR.out]; rfl, HB.out.trans ⟨rfl, rfl, rfl, Nat.le_refl _, fun _ _ => rfl⟩⟩
  ·
   have HR : Hid (zev ts = true) := zgN (j := j) (by omega) HA.out
   go_wp2
   go_ret
   exact ⟨by rw [HR.out]; rfl, HB.out⟩
set_option maxHeartbeats 2000000 in
set_option maxRecDepth 100000 in
theorem zes (a : Option Addr) (len cap : Nat) (ts : List (List UInt8)) (w : World) (hin : zae w a len ts) (hlen : len ≤ 1048576) (hs : ∀ i, (ts.getD i []).length ≤ 1048576) :
 Calls Tryz.prog 33 #[.slice a len cap] w fun e w' => e = .returned (.bool (zal ts)) ∧ Below w.heap.size w w' := by
 obtain rfl : ts.length = len := hin.1
 have HI : Hid (zae w a ts.length ts) := hin
 have HS : Hid (∀ i, (ts.getD i []).length ≤ 1048576) := hs
 clear hin hs
 go_enter Tryz.func33, Tryz.ntmps33
 go_wp2
 go_loopw [3] (fun iv wr => ∃ j : Nat, iv = .int .i64 (j : Int) ∧ j ≤ ts.length ∧ Hid (∀ i, i < j → zak (ts.getD i []) = true) ∧ Hid (zae wr a ts.length ts) ∧ Hid (Below w.heap.size w wr)) (fun iv _ => ts.length - (intOf iv).toNat)
 case atStart => exact ⟨0, rfl, by omega, (fun i hi => by omega), HI, Below.refl _ _⟩
 case round =>
  obtain ⟨j, rfl, hj, HA, HT, HB⟩ := hrel
  clear HI
  by_cases hlt : (j : Int) < (ts.length : Int)
  ·
   obtain ⟨b, off, rfl, hbl, c0⟩ := HT.out.2 j (by omega)
   have hxl := HS.out j
   obtain ⟨x, hx⟩ : ∃ x, ts.getD j [] = x := ⟨_, rfl⟩
   rw [hx] at c0 hxl
   have hC : Hid (_) := zbu x wr hxl
   rcases hnb : zak x with _ | _
   ·
    have HR : Hid (zal ts = false) := zhW (j := j) (by omega) (by rw [hx]; exact hnb)
    rw [hnb] at hC
    clear HA HT hx hnb
    go_wp2_with (go_at_call 32; refine Calls.mono hC.out ?_; rintro e w1 ⟨rfl, rfl⟩)
    go_ret
    exact ⟨by rw [HR.out]; rfl, HB.out⟩
   ·
    have HA2 : Hid (∀ i, i < j + 1 → zak (ts.getD i []) = true) := fun i hi => by
     rcases Nat.lt_or_ge i j with h | h
     ·
      exact HA.out i h
     ·
      obtain rfl : i = j := by omega
      rw [hx]; exact hnb
    rw [hnb] at hC
    clear HA hx hnb
    go_wp2_with (go_at_call 32; refine Calls.mono hC.out ?_; rintro e w1 ⟨rfl, rfl⟩)
    go_roundw
    case rel => exact ⟨j + 1, by go_num, by omega, HA2, HT, HB⟩
    case measure => simp [intOf]; omega
  ·
   have hall := zh6 (l := ts) (fun i hi => HA.out i (by omega))
   by_cases h6 : (ts.length : Int) ≤ 6
   ·
    have HR : Hid (zal ts = zev ts) := by
     exact (by rw [hall, decide_eq_true (show ts.length ≤ 6 by omega)]; rfl : zal ts = zev ts)
    have hC : Hid (_) := specRise a ts.length cap ts wr HT.out hlen
    clear hall HA HT
    go_wp2_with (go_at_call 61; refine Calls.mono hC.out ?_; rintro e w1 ⟨rfl, hb1⟩)
    go_ret
    exact ⟨by rw [HR.out]; rfl, HB.out.trans (hb1.mono HB.out.size)⟩
   ·
    have HR : Hid (zal ts = false) := by
     exact (by rw [hall, decide_eq_false (show ¬ ts.length ≤ 6 by omega)]; rfl : zal ts = false)
    clear hall HA HT
    go_wp2
    go_ret
    exact ⟨by rw [HR.out]; rfl, HB.out⟩
set_option maxHeartbeats 2000000 in
set_option maxRecDepth 100000 in
theorem zdJ (f : Fn) (ta : Option Addr) (tl tc : Nat) (w : World) (hin : za4 w ta tl f.2.2) (hsh : zam f.2.2) (hlen : tl ≤ 1048576) (hn : f.1.length ≤ 1048576) :
 Calls Tryz.prog 35 #[.agg #[.string ⟨f.1.toArray⟩, .int .i64 f.2.1, .slice ta tl tc]] w fun e w' => e = .returned (.bool (zcW f)) ∧ Below w.heap.size w w' := by
 obtain ⟨s, n, t⟩ := f
 simp only at hin hsh hn ⊢
 obtain ⟨W, hW⟩ : ∃ W, w.alloc (.cells #[.string ⟨s.toArray⟩, .int .i64 n, .slice ta tl tc] 48) = W := ⟨_, rfl⟩
 have hbW : Below w.heap.size w W := by rw [← hW]; exact (Below.refl _ _).alloc (Nat.le_refl _) _
 have hA : W.heap[w.heap.size]? = some (.cells #[.string ⟨s.toArray⟩, .int .i64 n, .slice ta tl tc] 48) := by rw [← hW]; exact heap_alloc_new w _
 have c0 : W.cell? ⟨w.heap.size, 0, none⟩ = some (.string ⟨s.toArray⟩) := by simp [World.cell?, hA]
 have c1 : W.cell? ⟨w.heap.size, 1, none⟩ = some (.int .i64 n) := by simp [World.cell?, hA]
 have c2 : W.cell? ⟨w.heap.size, 2, none⟩ = some (.slice ta tl tc) := by simp [World.cell?, hA]
 have hC1 : Hid (_) := zbu s W hn
 have hC2 : Hid (_) := zch n 0 3 W
 have hC3 : Hid (_) := zj3 ta tl tc t W (hin.below hbW) hsh hlen
 have HF : Hid (zcW (s, n, t) = (zak s && (inB n 0 3 && zaI t))) := rfl
 generalize zak s = nb at hC1 HF
 generalize inB n 0 3 = ib at hC2 HF
 generalize zaI t = tb at hC3 HF
 clear hin hsh hA
 go_enter Tryz.func35, Tryz.ntmps35
 rcases nb with _ | _
 ·
  go_wp2_with (go_at_call 32; refine Calls.mono hC1.out ?_; rintro e w1 ⟨rfl, rfl⟩)
  go_ret
  exact ⟨by rw [HF.out]; rfl, hbW⟩
 ·
  rcases ib with _ | _
  ·
   go_wp2_with (first | (go_at_call 32; refine Calls.mono hC1.out ?_; rintro e w1 ⟨rfl, rfl⟩) | (go_at_call 34; refine Calls.mono hC2.out ?_; rintro e w1 ⟨rfl, rfl⟩))
   go_ret
   exact ⟨by rw [HF.out]; rfl, hbW⟩
  ·
   go_wp2_with (first | (go_at_call 32; refine Calls.mono hC1.out ?_; rintro e w1 ⟨rfl, rfl⟩) | (go_at_call 34; refine Calls.mono hC2.out ?_; rintro e w1 ⟨rfl, rfl⟩) | (go_at_call 62; refine Calls.mono hC3.out ?_; rintro e w2 ⟨rfl, hb2⟩))
   go_ret
   exact ⟨by rw [HF.out]; rfl, hbW.trans (hb2.mono hbW.size)⟩
def zav (w : World) (a : Option Addr) (len : Nat) (fs : List Fn) : Prop :=
 fs.length = len ∧ ∀ j, j < len → ∃ b off, a = some ⟨b, off, none⟩ ∧ b < w.heap.size ∧ w.cell? ⟨b, off + j * 3, none⟩ = some (.string ⟨(fs.getD j fn0).1.toArray⟩) ∧ w.cell? ⟨b, off + j * 3 + 1, none⟩ = some (.int .i64 (fs.getD j fn0).2.1) ∧
  ∃ ta tl tc, w.cell? ⟨b, off + j * 3 + 2, none⟩ = some (.slice ta tl tc) ∧ (ta = none → tc = 0) ∧ za4 w ta tl (fs.getD j fn0).2.2
theorem zav.below {w w' : World} {a : Option Addr} {len : Nat} {fs : List Fn} (h : zav w a len fs) (hb : Below w.heap.size w w') : zav w' a len fs := by
 refine ⟨h.1, fun j hj => ?_⟩
 obtain ⟨b, off, e, hlt, c0, c1, ta, tl, tc, c2, hnc, hn⟩ := h.2 j hj
 exact ⟨b, off, e, Nat.lt_of_lt_of_le hlt hb.size, (hb.cell (p := ⟨b, off + j * 3, none⟩) hlt).trans c0, (hb.cell (p := ⟨b, off + j * 3 + 1, none⟩) hlt).trans c1, ta, tl, tc, (hb.cell (p := ⟨b, off + j * 3 + 2, none⟩) hlt).trans c2, hnc, hn.below hb⟩
def zdk (fs : List Fn) : Prop := ∀ j, (fs.getD j fn0).1.length ≤ 1048576 ∧ (fs.getD j fn0).2.2.length ≤ 1048576 ∧ zam (fs.getD j fn0).2.2
set_option maxHeartbeats 2000000 in
set_option maxRecDepth 100000 in
theorem specAt (nm s : List UInt8) (ia : Option Addr) (il ic : Nat) (fa : Option Addr) (fl fc : Nat) (fs : List Fn) (w : World) (hin : zav w fa fl fs) (hlen : fl ≤ 1048576) :
 Calls Tryz.prog 36 #[.agg #[.string ⟨nm.toArray⟩, .slice ia il ic, .slice fa fl fc], .string ⟨s.toArray⟩] w fun e w' => e = .returned (.int .i64 (atV fs s)) ∧ Below w.heap.size w w' := by
 obtain rfl : fs.length = fl := hin.1
 obtain ⟨W, hW⟩ : ∃ W, w.alloc (.cells #[.string ⟨nm.toArray⟩, .slice ia il ic, .slice fa fs.length fc] 33) = W := ⟨_, rfl⟩
 have hbW : Below w.heap.size w W := by rw [← hW]; exact (Below.refl _ _).alloc (Nat.le_refl _) _
 have hA : W.heap[w.heap.size]? = some (.cells #[.string ⟨nm.toArray⟩, .slice ia il ic, .slice fa fs.length fc] 33) := by rw [← hW]; exact heap_alloc_new w _
 have k2 : W.cell? ⟨w.heap.size, 2, none⟩ = some (.slice fa fs.length fc) := by simp [World.cell?, hA]
 have HI : Hid (zav W fa fs.length fs) := hin.below hbW
 clear hin hA
 go_enter Tryz.func36, Tryz.ntmps36
 go_wp2
 go_loopw [5] (fun iv wr => ∃ j : Nat, iv = .int .i64 (j : Int) ∧ j ≤ fs.length ∧ Hid (atV fs s = atGo s (fs.drop j) j) ∧ wr = W) (fun iv _ => fs.length - (intOf iv).toNat)
 case atStart => exact ⟨0, rfl, by omega, (rfl : atV fs s = atGo s (fs.drop 0) 0), rfl⟩
 case round =>
  obtain ⟨j, rfl, hj, HA, rfl⟩ := hrel
  by_cases hlt : (j : Int) < (fs.length : Int)
  ·
   obtain ⟨b, off, rfl, hbl, c0, _⟩ := HI.out.2 j (by omega)
   have hg := zf7 (fs := fs) (k := j) (by omega) s
   obtain ⟨x, hx⟩ : ∃ x, (fs.getD j fn0).1 = x := ⟨_, rfl⟩
   rw [hx] at c0 hg
   by_cases hxs : x = s
   ·
    subst hxs
    have HR : Hid (atV fs x = (j : Int)) := by exact (by rw [HA.out, hg, if_pos rfl] : atV fs x = (j : Int))
    have hself : (x == x) = true := by simp
    clear HA hg hx
    go_wp2
    go_ret
    exact ⟨by rw [HR.out]; rfl, hbW⟩
   ·
    have HR : Hid (atV fs s = atGo s (fs.drop (j + 1)) (j + 1)) := by exact (by rw [HA.out, hg, if_neg hxs] : atV fs s = atGo s (fs.drop (j + 1)) (j + 1))
    have hne : (x == s) = false := by rw [beq_eq_false_iff_ne]; exact hxs
    clear HA hg hx
    go_wp2
    go_roundw
    case rel => exact ⟨j + 1, by go_num, by omega, HR, trivial⟩
    case measure => simp [intOf]; omega
  ·
   have HR : Hid (atV fs s = -1) := by exact (by rw [HA.out, List.drop_of_length_le (by omega)]; rfl : atV fs s = -1)
   go_wp2
   go_ret
   exact ⟨by rw [HR.out]; rfl, hbW⟩
structure PkIn (W : World) (D : Nat) (nm : List UInt8) (ia : Option Addr) (il ic : Nat) (fa : Option Addr) (fl fc : Nat) (ims : List (List UInt8)) (fs : List Fn) : Prop where
 k0 : W.cell? ⟨D, 0, none⟩ = some (.string ⟨nm.toArray⟩)
 k1 : W.cell? ⟨D, 1, none⟩ = some (.slice ia il ic)
 k2 : W.cell? ⟨D, 2, none⟩ = some (.slice fa fl fc)
 i : zae W ia il ims
 f : zav W fa fl fs
theorem PkIn.below {W W' : World} {D : Nat} {nm : List UInt8} {ia : Option Addr} {il ic : Nat} {fa : Option Addr} {fl fc : Nat} {ims : List (List UInt8)} {fs : List Fn} (h : PkIn W D nm ia il ic fa fl fc ims fs) (hb : Below W.heap.size W W') : PkIn W' D nm ia il ic fa fl fc ims fs :=
 have hl : D < W.heap.size := World.block_lt_of_cell? W ⟨D, 0, none⟩ h.k0
 ⟨(hb.cell (p := ⟨D, 0, none⟩) hl).trans h.k0, (hb.cell (p := ⟨D, 1, none⟩) hl).trans h.k1, (hb.cell (p := ⟨D, 2, none⟩) hl).trans h.k2, h.i.below hb, h.f.below hb⟩
theorem PkIn.drew {W : World} {D : Nat} {nm : List UInt8} {ia : Option Addr} {il ic : Nat} {fa : Option Addr} {fl fc : Nat} {ims : List (List UInt8)} {fs : List Fn} (h : PkIn W D nm ia il ic fa fl fc ims fs) : PkIn W.drew D nm ia il ic fa fl fc ims fs := ⟨h.k0, h.k1, h.k2, h.i, h.f⟩
theorem PkIn.new {w : World} {nm : List UInt8} {ia : Option Addr} {il ic : Nat} {fa : Option Addr} {fl fc : Nat} {ims : List (List UInt8)} {fs : List Fn} (hi : zae w ia il ims) (hf : zav w fa fl fs) :
 PkIn (w.alloc (.cells #[.string ⟨nm.toArray⟩, .slice ia il ic, .slice fa fl fc] 33)) w.heap.size nm ia il ic fa fl fc ims fs ∧ Below w.heap.size w (w.alloc (.cells #[.string ⟨nm.toArray⟩, .slice ia il ic, .slice fa fl fc] 33)) := by
 have hb : Below w.heap.size w (w.alloc (.cells #[.string ⟨nm.toArray⟩, .slice ia il ic, .slice fa fl fc] 33)) := (Below.refl _ _).alloc (Nat.le_refl _) _
 have hA := heap_alloc_new w (.cells #[.string ⟨nm.toArray⟩, .slice ia il ic, .slice fa fl fc] 33)
 generalize w.alloc (.cells #[.string ⟨nm.toArray⟩, .slice ia il ic, .slice fa fl fc] 33) = W at hb hA ⊢
 exact ⟨⟨by simp [World.cell?, hA], by simp [World.cell?, hA], by simp [World.cell?, hA], hi.below hb, hf.below hb⟩, hb⟩
theorem zkC (p : Pk) (h : (zak p.1 && (zal p.2.1 && inB (p.2.2.length : Int) 1 8)) = false) : pkgB p = false := by unfold pkgB; rw [h]; rfl
theorem zkB (p : Pk) {j : Nat} (hj : j < p.2.2.length) (h : ¬ zbi p.2.2 j) : pkgB p = false := by unfold pkgB; rw [decide_eq_false (fun g => h (g j hj)), Bool.and_false]
theorem pkgB_yes (p : Pk) (h : (zak p.1 && (zal p.2.1 && inB (p.2.2.length : Int) 1 8)) = true) (k : ∀ i, i < p.2.2.length → zbi p.2.2 i) : pkgB p = true := by unfold pkgB; rw [h, decide_eq_true k]; rfl
set_option maxHeartbeats 4000000 in
set_option maxRecDepth 100000 in
theorem zg8 (nm : List UInt8) (ia : Option Addr) (il ic : Nat) (fa : Option Addr) (fl fc : Nat) (ims : List (List UInt8)) (fs : List Fn) (w : World) (hi : zae w ia il ims) (hf : zav w fa fl fs) (hil : il ≤ 1048576) (hfl : fl ≤ 1048576) (hnl : nm.length ≤ 1048576) (his : ∀ i, (ims.getD i []).length ≤ 1048576) (hfs : zdk fs) :
 Calls Tryz.prog 15 #[.agg #[.string ⟨nm.toArray⟩, .slice ia il ic, .slice fa fl fc]] w fun e w' => e = .returned (.bool (pkgB (nm, ims, fs))) ∧ Below w.heap.size w w' := by
 obtain rfl : fs.length = fl := hf.1
 obtain ⟨W, hW⟩ : ∃ W, w.alloc (.cells #[.string ⟨nm.toArray⟩, .slice ia il ic, .slice fa fs.length fc] 33) = W := ⟨_, rfl⟩
 obtain ⟨st, hB⟩ := PkIn.new (w := w) (nm := nm) (ic := ic) (fc := fc) hi hf
 rw [hW] at st hB
 have HIS : Hid (∀ i, (ims.getD i []).length ≤ 1048576) := his
 have HFS : Hid (zdk fs) := hfs
 obtain ⟨D, hD⟩ : ∃ D, w.heap.size = D := ⟨_, rfl⟩
 rw [hD] at st
 have k0 := st.k0
 have k1 := st.k1
 have k2 := st.k2
 have hC1 : Hid (_) := zbu nm W hnl
 have hC2 : Hid (_) := zes ia il ic ims W st.i hil his
 have hC3 : Hid (_) := fun V : World => zch (fs.length : Int) 1 8 V
 have HH0 : Hid ((zak nm && (zal ims && inB (fs.length : Int) 1 8)) = false → pkgB (nm, ims, fs) = false) := zkC (nm, ims, fs)
 have HH1 : Hid ((zak nm && (zal ims && inB (fs.length : Int) 1 8)) = true → (∀ i, i < fs.length → zbi fs i) → pkgB (nm, ims, fs) = true) := pkgB_yes (nm, ims, fs)
 generalize zak nm = nb at hC1 HH0 HH1
 generalize zal ims = ib at hC2 HH0 HH1
 generalize inB (fs.length : Int) 1 8 = lb at hC3 HH0 HH1
 clear hi hf his hfs
 go_enter Tryz.func15, Tryz.ntmps15
 rcases nb with _ | _
 ·
  go_wp2_with (go_at_call 32; refine Calls.mono hC1.out ?_; rintro e w1 ⟨rfl, rfl⟩)
  go_ret
  exact ⟨by rw [HH0.out rfl]; rfl, (by first | exact hB | (rw [← hD]; exact hB))⟩
 ·
  rcases ib with _ | _
  ·
   go_wp2_with (first | (go_at_call 32; refine Calls.mono hC1.out ?_; rintro e w1 ⟨rfl, rfl⟩) | (go_at_call 33; refine Calls.mono hC2.out ?_; rintro e w1 ⟨rfl, hb1⟩))
   go_ret
   exact ⟨by rw [HH0.out rfl]; rfl, hB.trans (hb1.mono hB.size)⟩
  ·
   go_wp2_with fail
   refine Calls.mono hC1.out ?_
   rintro e w1 ⟨rfl, rfl⟩
   go_wp2_with fail
   refine Calls.mono hC2.out ?_
   rintro e w1 ⟨rfl, hb1⟩
   replace st := st.below hb1
   replace hB := hB.trans (hb1.mono hB.size)
   replace k0 := st.k0
   replace k1 := st.k1
   replace k2 := st.k2
   clear hb1 hC1 hC2
   rcases lb with _ | _
   ·
    go_wp2_with (go_at_call 34; refine Calls.mono (hC3.out _) ?_; rintro e w1 ⟨rfl, rfl⟩)
    go_ret
    exact ⟨by rw [HH0.out rfl]; rfl, (by first | exact hB | (rw [← hD]; exact hB))⟩
   ·
    go_wp2_with (go_at_call 34; refine Calls.mono (hC3.out _) ?_; rintro e w1 ⟨rfl, rfl⟩)
    have ST : Hid (PkIn w1 D nm ia il ic fa fs.length fc ims fs) := st
    have HB : Hid (Below w.heap.size w w1) := hB
    clear st hB k0 k1 k2
    go_loopw [3] (fun iv wr => ∃ j : Nat, iv = .int .i64 (j : Int) ∧ j ≤ fs.length ∧ Hid (∀ i, i < j → zbi fs i) ∧ Hid (PkIn wr D nm ia il ic fa fs.length fc ims fs) ∧ Hid (Below w.heap.size w wr)) (fun iv _ => fs.length - (intOf iv).toNat)
    case atStart => exact ⟨0, rfl, by omega, (fun i hi => by omega), ST, HB⟩
    case round =>
     obtain ⟨j, rfl, hj, HA, ST2, HB2⟩ := hrel
     clear ST HB
     have st := ST2.out
     have hB := HB2.out
     clear ST2 HB2
     have k0 := st.k0
     have k1 := st.k1
     have k2 := st.k2
     by_cases hlt : (j : Int) < (fs.length : Int)
     ·
      obtain ⟨b, off, rfl, hbl, c0, c1, ta, tl, tc, c2, _, hin⟩ := st.f.2 j (by omega)
      have hsh := HFS.out j
      obtain ⟨f, hfj⟩ : ∃ f, fs.getD j fn0 = f := ⟨_, rfl⟩
      have HOK : Hid (zbi fs j ↔ (zcW f = true ∧ atV fs f.1 = (j : Int))) := by exact (by unfold zbi; rw [hfj] : zbi fs j ↔ (zcW f = true ∧ atV fs f.1 = (j : Int)))
      rw [hfj] at c0 c1 hin hsh
      clear hfj
      obtain ⟨s, n, t⟩ := f
      simp only at c0 c1 hin hsh
      have HSH : Hid (s.length ≤ 1048576 ∧ t.length ≤ 1048576 ∧ zam t) := hsh
      have htl : tl ≤ 1048576 := by rw [← hin.1]; exact hsh.2.1
      clear hsh
      obtain ⟨fb, hfb⟩ : ∃ fb, zcW (s, n, t) = fb := ⟨_, rfl⟩
      obtain ⟨av, hav⟩ : ∃ av, atV fs s = av := ⟨_, rfl⟩
      have HFB : Hid (zcW (s, n, t) = fb) := hfb
      have HAT : Hid (atV fs s = av) := hav
      clear hfb hav
      replace st := st.drew
      replace hB : Below w.heap.size w wr.drew := hB.drew
      replace hin : za4 wr.drew ta tl t := hin
      replace hbl : b < wr.drew.heap.size := hbl
      rcases fb with _ | _
      ·
       have HR : Hid (pkgB (nm, ims, fs) = false) := zkB (nm, ims, fs) (j := j) (by show j < fs.length; omega) (fun h => by have := (HOK.out.1 h).1; rw [HFB.out] at this; cases this)
       go_wp2_with fail
       refine wp_region_held_drew (S := (fun w' => w'.cell? ⟨D, 0, none⟩ = some (.string ⟨nm.toArray⟩) ∧ w'.cell? ⟨D, 1, none⟩ = some (.slice ia il ic) ∧ w'.cell? ⟨D, 2, none⟩ = some (.slice (some ⟨b, off, none⟩) fs.length fc) ∧ w'.cell? ⟨b, off + j * 3, none⟩ = some (.string ⟨s.toArray⟩) ∧ w'.cell? ⟨b, off + j * 3 + 1, none⟩ = some (.int .i64 n) ∧ w'.cell? ⟨b, off + j * 3 + 2, none⟩ = some (.slice ta tl tc))) (by kernel_rfl) ?_ (fun hHeld => ?_)
       ·
        first | (dsimp only; done) | (dsimp only; go_keep) | go_keep
       refine tkO [(0, 28), (1, 29), (2, 30), (3, 31), (4, 32)] ?_
       repeat (refine tkY ?_ rfl (by rfl) ?_ ?_; rotate_left; (focus (intro wq hSw; (try dsimp only at hSw); first | (go_simp; done) | (go_simp; with_reducible rfl))); simp only [zP])
       refine tkZ ?_
       refine zR 5 rfl (fun K hK => ?_)
       go_simp
       (go_at_call 35; refine (zdJ (s, n, t) ta tl tc _ hin HSH.out.2.2 (by omega) HSH.out.1).mono ?_; rintro e wn ⟨rfl, hbn⟩; replace st := st.below hbn; replace hB := hB.trans (hbn.mono hB.size); replace k0 := st.k0; replace k1 := st.k1; replace k2 := st.k2; replace c0 := (hbn.cell (p := ⟨b, off + j * 3, none⟩) hbl).trans c0; replace c1 := (hbn.cell (p := ⟨b, off + j * 3 + 1, none⟩) hbl).trans c1; replace c2 := (hbn.cell (p := ⟨b, off + j * 3 + 2, none⟩) hbl).trans c2; replace hin := hin.below hbn; replace hbl := Nat.lt_of_lt_of_le hbl hbn.size; clear hbn; rw [HFB.out])
       refine hK.out _ _ ?_ (fun hHeld => ?_)
       ·
        first | (dsimp only; done) | (dsimp only; go_keep) | go_keep
       clear hK K
       refine tkO [(6, 34), (7, 35), (8, 36), (9, 37), (10, 38), (11, 39), (12, 40), (13, 41), (14, 42), (15, 43), (16, 44), (17, 45), (18, 46)] ?_
       repeat ((first | (refine tkY ?_ rfl (by rfl) ?_ ?_; rotate_left; (focus (intro wq hSw; (try dsimp only at hSw); first | (go_simp; done) | (go_simp; with_reducible rfl)))) | refine tkN rfl (by rfl) ?_); simp only [zP])
       refine tkZ ?_
       refine wpAnyH_done (by kernel_rfl) ?_ _
       go_wp2
       go_ret
       exact ⟨by rw [HR.out]; rfl, (by first | exact hB | (rw [← hD]; exact hB))⟩
      ·
       by_cases hje : av = (j : Int)
       ·
        subst hje
        have HA2 : Hid (∀ i, i < j + 1 → zbi fs i) := fun i hi => by
         rcases Nat.lt_or_ge i j with h | h
         ·
          exact HA.out i h
         ·
          obtain rfl : i = j := by omega
          exact HOK.out.2 ⟨HFB.out, HAT.out⟩
        go_wp2_with fail
        go_region_held3 (fun w' => w'.cell? ⟨D, 0, none⟩ = some (.string ⟨nm.toArray⟩) ∧ w'.cell? ⟨D, 1, none⟩ = some (.slice ia il ic) ∧ w'.cell? ⟨D, 2, none⟩ = some (.slice (some ⟨b, off, none⟩) fs.length fc) ∧ w'.cell? ⟨b, off + j * 3, none⟩ = some (.string ⟨s.toArray⟩) ∧ w'.cell? ⟨b, off + j * 3 + 1, none⟩ = some (.int .i64 n) ∧ w'.cell? ⟨b, off + j * 3 + 2, none⟩ = some (.slice ta tl tc)) (go_keep) (first | (go_at_call 35; refine (zdJ (s, n, t) ta tl tc _ hin HSH.out.2.2 (by omega) HSH.out.1).mono ?_; rintro e wn ⟨rfl, hbn⟩; replace st := st.below hbn; replace hB := hB.trans (hbn.mono hB.size); replace k0 := st.k0; replace k1 := st.k1; replace k2 := st.k2; replace c0 := (hbn.cell (p := ⟨b, off + j * 3, none⟩) hbl).trans c0; replace c1 := (hbn.cell (p := ⟨b, off + j * 3 + 1, none⟩) hbl).trans c1; replace c2 := (hbn.cell (p := ⟨b, off + j * 3 + 2, none⟩) hbl).trans c2; replace hin := hin.below hbn; replace hbl := Nat.lt_of_lt_of_le hbl hbn.size; clear hbn; rw [HFB.out]) | (go_at_call 36; refine (specAt nm s ia il ic (some ⟨b, off, none⟩) fs.length fc fs _ st.f (by omega)).mono ?_; rintro e wn ⟨rfl, hbn⟩; replace st := st.below hbn; replace hB := hB.trans (hbn.mono hB.size); replace k0 := st.k0; replace k1 := st.k1; replace k2 := st.k2; replace c0 := (hbn.cell (p := ⟨b, off + j * 3, none⟩) hbl).trans c0; replace c1 := (hbn.cell (p := ⟨b, off + j * 3 + 1, none⟩) hbl).trans c1; replace c2 := (hbn.cell (p := ⟨b, off + j * 3 + 2, none⟩) hbl).trans c2; replace hin := hin.below hbn; replace hbl := Nat.lt_of_lt_of_le hbl hbn.size; clear hbn; rw [HAT.out]))
        all_goals go_wp2
        all_goals go_roundw
        case rel => exact ⟨j + 1, by go_num, by omega, HA2, st, hB⟩
        case measure => simp [intOf]; omega
       ·
        have HR : Hid (pkgB (nm, ims, fs) = false) := zkB (nm, ims, fs) (j := j) (by show j < fs.length; omega) (fun h => hje (by have := (HOK.out.1 h).2; rw [← this]; exact HAT.out.symm))
        have hjb : (av != (j : Int)) = true := by rw [bne_iff_ne]; exact hje
        have hjc : (av == (j : Int)) = false := by rw [beq_eq_false_iff_ne]; exact hje
        go_wp2_with fail
        go_region_held3 (fun w' => w'.cell? ⟨D, 0, none⟩ = some (.string ⟨nm.toArray⟩) ∧ w'.cell? ⟨D, 1, none⟩ = some (.slice ia il ic) ∧ w'.cell? ⟨D, 2, none⟩ = some (.slice (some ⟨b, off, none⟩) fs.length fc) ∧ w'.cell? ⟨b, off + j * 3, none⟩ = some (.string ⟨s.toArray⟩) ∧ w'.cell? ⟨b, off + j * 3 + 1, none⟩ = some (.int .i64 n) ∧ w'.cell? ⟨b, off + j * 3 + 2, none⟩ = some (.slice ta tl tc)) (go_keep) (first | (go_at_call 35; refine (zdJ (s, n, t) ta tl tc _ hin HSH.out.2.2 (by omega) HSH.out.1).mono ?_; rintro e wn ⟨rfl, hbn⟩; replace st := st.below hbn; replace hB := hB.trans (hbn.mono hB.size); replace k0 := st.k0; replace k1 := st.k1; replace k2 := st.k2; replace c0 := (hbn.cell (p := ⟨b, off + j * 3, none⟩) hbl).trans c0; replace c1 := (hbn.cell (p := ⟨b, off + j * 3 + 1, none⟩) hbl).trans c1; replace c2 := (hbn.cell (p := ⟨b, off + j * 3 + 2, none⟩) hbl).trans c2; replace hin := hin.below hbn; replace hbl := Nat.lt_of_lt_of_le hbl hbn.size; clear hbn; rw [HFB.out]) | (go_at_call 36; refine (specAt nm s ia il ic (some ⟨b, off, none⟩) fs.length fc fs _ st.f (by omega)).mono ?_; rintro e wn ⟨rfl, hbn⟩; replace st := st.below hbn; replace hB := hB.trans (hbn.mono hB.size); replace k0 := st.k0; replace k1 := st.k1; replace k2 := st.k2; replace c0 := (hbn.cell (p := ⟨b, off + j * 3, none⟩) hbl).trans c0; replace c1 := (hbn.cell (p := ⟨b, off + j * 3 + 1, none⟩) hbl).trans c1; replace c2 := (hbn.cell (p := ⟨b, off + j * 3 + 2, none⟩) hbl).trans c2; replace hin := hin.below hbn; replace hbl := Nat.lt_of_lt_of_le hbl hbn.size; clear hbn; rw [HAT.out]))
        all_goals go_wp2
        all_goals go_ret
        all_goals exact ⟨by rw [HR.out]; rfl, (by first | exact hB | (rw [← hD]; exact hB))⟩
     ·
      have HR : Hid (pkgB (nm, ims, fs) = true) := HH1.out rfl (fun i hi => HA.out i (by omega))
      go_wp2
      go_ret
      exact ⟨by rw [HR.out]; rfl, (by first | exact hB | (rw [← hD]; exact hB))⟩






theorem zdC (b off j : Nat) : (⟨b, off, none⟩ : Addr).add j = ⟨b, off + j, none⟩ := by unfold Addr.add; split <;> simp_all



theorem zae.src {w : World} {a : Option Addr} {len cap : Nat} {ts : List (List UInt8)} (h : zae w a len ts) (hc : a = none → cap = 0) : Src w (.slice a len cap) len 1 (strV ts) := by
 have hl : (strV ts).length = len := by simp [strV, h.1]
 refine ⟨by rw [hl]; omega, fun u hu => ?_, ?_⟩
 ·
  simp only [strV, List.mem_map] at hu
  obtain ⟨x, _, rfl⟩ := hu
  rfl
 rcases a with _ | ad
 ·
  have h0 : len = 0 := by
   rcases Nat.eq_zero_or_pos len with h' | h'
   ·
    exact h'
   ·
    obtain ⟨b, off, e, _⟩ := h.2 0 h'
    cases e
  exact Or.inl ⟨by rw [h0, hc rfl], h0⟩
 ·
  refine Or.inr ⟨ad, cap, rfl, fun j u hu => ?_⟩
  have hj : j < (strV ts).length := by
   rcases Nat.lt_or_ge j (strV ts).length with h' | h'
   ·
    exact h'
   ·
    rw [List.getElem?_eq_none h'] at hu; cases hu
  rw [hl] at hj
  obtain ⟨b, off, e, _, c0⟩ := h.2 j hj
  injection e with e
  subst e
  rw [zdC, c0]
  rw [zg7 ts j (by rw [h.1]; exact hj)] at hu
  rw [← hu, List.getD_eq_getElem?_getD, List.getElem?_eq_getElem (by rw [h.1]; exact hj)]
  rfl
theorem za4.src {w : World} {a : Option Addr} {len cap : Nat} {ns : List Nd} (h : za4 w a len ns) (hc : a = none → cap = 0) : Src w (.slice a len cap) len 4 (za0 ns) := by
 refine ⟨by rw [zd5, h.1], zd4 ns, ?_⟩
 rcases a with _ | ad
 ·
  have h0 : len = 0 := by
   rcases Nat.eq_zero_or_pos len with h' | h'
   ·
    exact h'
   ·
    obtain ⟨b, off, e, _⟩ := h.2 0 h'
    cases e
  exact Or.inl ⟨by rw [h0, hc rfl], h0⟩
 ·
  refine Or.inr ⟨ad, cap, rfl, fun j u hu => ?_⟩
  have hj : j < (za0 ns).length := by
   rcases Nat.lt_or_ge j (za0 ns).length with h' | h'
   ·
    exact h'
   ·
    rw [List.getElem?_eq_none h'] at hu; cases hu
  rw [zd5, h.1] at hj
  obtain ⟨b, off, e, _, c0, c1, c2, c3⟩ := h.2 (j / 4) (by omega)
  injection e with e
  subst e
  obtain ⟨v0, v1, v2, v3⟩ := zcv ns (j / 4) (by rw [h.1]; omega)
  rw [zdC]
  rcases (show j % 4 = 0 ∨ j % 4 = 1 ∨ j % 4 = 2 ∨ j % 4 = 3 by omega) with h' | h' | h' | h'
  ·
   rw [show j / 4 * 4 = j by omega] at v0 c0
   rw [hu] at v0
   rw [c0, v0]
  ·
   rw [show j / 4 * 4 + 1 = j by omega] at v1
   rw [hu] at v1
   rw [show off + j = off + j / 4 * 4 + 1 by omega, c1, v1]
  ·
   rw [show j / 4 * 4 + 2 = j by omega] at v2
   rw [hu] at v2
   rw [show off + j = off + j / 4 * 4 + 2 by omega, c2, v2]
  ·
   rw [show j / 4 * 4 + 3 = j by omega] at v3
   rw [hu] at v3
   rw [show off + j = off + j / 4 * 4 + 3 by omega, c3, v3]
set_option maxHeartbeats 1000000 in
set_option maxRecDepth 100000 in
theorem zk3 (a : Option Addr) (len cap : Nat) (ts : List (List UInt8)) (w : World) (hin : zae w a len ts) (hc : a = none → cap = 0) (hlen : len ≤ 1048576) :
 Calls Tryz.prog 37 #[.slice a len cap] w fun e w' => ∃ v, e = .returned v ∧ w'.ownsRow w.heap.size 9 1 v ts.length (strV ts) ∧ Below w.heap.size w w' := by
 obtain rfl : ts.length = len := hin.1
 obtain ⟨i0, hi, hz0, hz1, hz2⟩ := info_parts info9
 have hbA : Below w.heap.size w (w.alloc (.cells #[] 9)) := (Below.refl _ _).alloc (Nat.le_refl _) _
 have hown0 := (World.ownsRow_lit (base := w.heap.size) (e := 9) (size := 1) w #[] 0 (Nat.le_refl _) (by decide) rfl)
 obtain ⟨v', w', hrun, hown', hg, _⟩ := zaS (P := Tryz.prog) (w.alloc (.cells #[] 9)) w.heap.size 22 22 9 i0 _ 1 16 Tryz.underlying22 hi hz0 hz1 hz2 rfl (by decide) _ _ _ hown0 (.slice a ts.length cap) ts.length (strV ts) ((hin.below hbA).src hc) (by unfold maxLen; omega) (by omega) (by simp)
 have hb : Below w.heap.size w w' := hbA.grown hg hbA.size (fun q e => by simp [Value.ownBlock] at e; omega)
 have HO : Hid (w'.ownsRow w.heap.size 9 1 v' ts.length (strV ts)) := by
  simp only [Nat.zero_add] at hown'
  exact (by simpa using hown' : w'.ownsRow w.heap.size 9 1 v' ts.length (strV ts))
 clear hown' hg hown0 hbA hin
 go_enter Tryz.func37, Tryz.ntmps37
 go_wp2_with (at_builtin; refine wpList_append_run rfl (.tmp 3) (.tmp 4) 22 rfl _ _ _ rfl rfl hrun ?_; clear hrun)
 go_ret
 exact ⟨v', rfl, HO.out, hb⟩
end Go.Proofs.YtkpdoedpkncboaaGreat
