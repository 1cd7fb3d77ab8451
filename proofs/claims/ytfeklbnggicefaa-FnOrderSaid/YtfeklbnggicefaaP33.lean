/-
  Parts of one proof, one behind the other: LawOr.
-/
import Derived.Test.YtfeklbnggicefaaP32
import Derived.Test.YtfeklbnggicefaaP6
import Derived.Test.YtfeklbnggicefaaP23
import Derived.Test.YtfeklbnggicefaaP9

/-! FnOrder, whole. -/
namespace Go.Proofs.Ytfeklbnggicefaa
open Go.RowKit

theorem own_lencap {w : World} {base e size n : Nat} {v : Value} {ys : List Value} (h : w.ownsRow base e size v n ys) : ∀ a c, v = .slice a n c → n ≤ c := fun a c hv => by
  rcases h.2 with ⟨e, h0⟩ | ⟨g, cap, cur, e, _, _, hc, _⟩
  · omega
  · rw [hv] at e; injection e with _ _ e3; rw [e3]; exact hc
theorem TextsIn.take8 {w : World} {a : Option Addr} {len k : Nat} {ts : List (List UInt8)} (h : TextsIn w a len ts) (hk : k ≤ len) : TextsIn w a k (ts.take k) := by
  have hl := h.1
  refine ⟨by rw [List.length_take]; omega, fun j hj => ?_⟩
  have e : (ts.take k).getD j [] = ts.getD j [] := by simp [List.getD, hj]
  rw [e]
  exact h.2 j (by omega)

theorem names8_take (ps : List Pk) (k : Nat) (hk : k < ps.length) : (names8 ps).take (k + 1) = (names8 ps).take k ++ [(ps.getD k pk0).1] := by
  have h1 : k < (names8 ps).length := by simpa [names8] using hk
  rw [List.take_succ_eq_append_getElem h1]
  simp [names8, List.getD, hk]

def allB (ps : List Pk) (o l : List (List UInt8)) : Bool := decide (∀ m ∈ l, m ∈ names8 ps → m ∈ o)
theorem allB_snoc (ps : List Pk) (o l : List (List UInt8)) (x : List UInt8) : allB ps o (l ++ [x]) = (allB ps o l && decide (x ∈ names8 ps → x ∈ o)) := by
  unfold allB
  rw [← Bool.decide_and]
  refine decide_eq_decide.2 ⟨fun h => ⟨fun m hm => h m (List.mem_append_left _ hm), h _ (by simp)⟩, fun h m hm => ?_⟩
  rw [List.mem_append, List.mem_singleton] at hm
  rcases hm with hm | hm
  · exact h.1 m hm
  · rw [hm]; exact h.2
theorem all_take (ps : List Pk) (o ims : List (List UInt8)) {j : Nat} (hj : j < ims.length) : allB ps o (ims.take (j + 1)) = (allB ps o (ims.take j) && decide (ims.getD j [] ∈ names8 ps → ims.getD j [] ∈ o)) := by
  have e : ims.getD j [] = ims[j] := by simp [List.getD, hj]
  rw [List.take_succ_eq_append_getElem hj, e, allB_snoc]

set_option maxHeartbeats 8000000 in
set_option maxRecDepth 100000 in
theorem lawOrder (w : World) (a : Option Addr) (len cap : Nat) (hcode : Code w w.heap.size a len) :
    Calls Try.prog 3 #[.slice a len cap] w fun e w' => e = .returned (.bool true) ∧ Below w.heap.size w w' := by
  by_cases hbig : 4096 < (len : Int)
  · have hd : decide (4096 < (len : Int)) = true := decide_eq_true hbig
    go_enter Try.func3, Try.ntmps3
    go_wp2_with (go_at_call 8; refine (bigB _ _ _ _).mono ?_; rintro e w' ⟨rfl, rfl⟩)
    go_ret
    exact ⟨rfl, Below.refl _ _⟩
  · have hd : decide (4096 < (len : Int)) = false := decide_eq_false hbig
    have hselfb : ∀ n : Bool, (n != n) = false := by simp
    go_enter Try.func3, Try.ntmps3
    go_wp2_with fail
    refine (bigB _ _ _ _).mono ?_
    rintro e w1 ⟨rfl, hw1⟩
    obtain rfl := hw1.symm
    go_wp2_with fail
    refine (drawOrder8 _ _ _ _ (by omega) hcode).mono ?_
    rintro e w2 ⟨v, rfl, la, n, lc, ps, rfl, hn, hok, hB2⟩
    have HOK2 : Hid (PkgsOk w2 la n lc ps) := hok
    clear hok hcode
    go_wp2_with fail
    refine (implOrder la n lc ps w2 HOK2.out).mono ?_
    rintro e w3 ⟨v3, rfl, ho3, hb3⟩
    have HOK3 : Hid (PkgsOk w3 la n lc ps) := HOK2.out.below hb3
    have hB3 := hB2.trans (hb3.mono hB2.size)
    obtain ⟨out, hout⟩ : ∃ out, orderV ps = out := ⟨_, rfl⟩
    have HOut : Hid (orderV ps = out) := hout
    have hol : out.length ≤ 8 := by rw [← hout]; exact orderV_len ps
    rw [hout] at ho3
    clear hout hb3 HOK2 hB2
    go_wp2_with fail
    refine (specOrder la n lc ps w3 HOK3.out.in HOK3.out.small HOK3.out.short).mono ?_
    rintro e w4 ⟨v4, rfl, ho4, hb4⟩
    rw [HOut.out] at ho4
    have HOK4 : Hid (PkgsOk w4 la n lc ps) := HOK3.out.below hb4
    have ho34 := own_below ho3 hb4
    have hB4 := hB3.trans (hb4.mono hB3.size)
    have hoc0 := own_lencap ho34
    obtain ⟨_, oa, oc, rfl, hin3⟩ := own_texts ho34
    have hoc : out.length ≤ oc := hoc0 _ _ rfl
    clear hoc0
    obtain ⟨_, oa4, oc4, rfl, hin4⟩ := own_texts ho4
    clear hb4 HOK3 hB3 ho3
    go_wp2_with fail
    refine (likeTexts8 oa oa4 out.length oc oc4 out w4 hin3 hin4 (by omega)).mono ?_
    rintro e w5 ⟨rfl, hb5⟩
    have HOK5 : Hid (PkgsOk w5 la n lc ps) := HOK4.out.below hb5
    have hin5 := hin3.below hb5
    have hB5 := hB4.trans (hb5.mono hB4.size)
    clear hb5 HOK4 hB4 ho34 ho4 hin4 hin3
    go_wp2_with fail
    refine (implProjectOk la n lc ps w5 HOK5.out).mono ?_
    rintro e w6 ⟨rfl, hb6⟩
    have HOK6 : Hid (PkgsOk w6 la n lc ps) := HOK5.out.below hb6
    have hin6 := hin5.below hb6
    have hB6 := hB5.trans (hb6.mono hB5.size)
    clear hb6 HOK5 hB5 hin5
    go_wp2_with fail
    refine (specProjectOk la n lc ps w6 HOK6.out.in HOK6.out.small HOK6.out.short).mono ?_
    rintro e w7 ⟨rfl, hb7⟩
    have HOK7 : Hid (PkgsOk w7 la n lc ps) := HOK6.out.below hb7
    have hin7 := hin6.below hb7
    have hB7 := hB6.trans (hb7.mono hB6.size)
    clear hb7 HOK6 hB6 hin6
    go_wp2_with fail
    refine (specProjectOk la n lc ps w7 HOK7.out.in HOK7.out.small HOK7.out.short).mono ?_
    rintro e w8 ⟨rfl, hb8⟩
    have HOK8 : Hid (PkgsOk w8 la n lc ps) := HOK7.out.below hb8
    have HT8 : Hid (TextsIn w8 oa out.length out) := hin7.below hb8
    have HB8 : Hid (Below w.heap.size w w8) := hB7.trans (hb8.mono hB7.size)
    clear hb8 HOK7 hB7 hin7
    rcases hpr : projB ps with _ | _
    · have e0 : out = [] := by rw [← HOut.out]; unfold orderV; rw [if_neg (by rw [hpr]; simp)]
      subst e0
      go_wp2
      go_ret
      exact ⟨rfl, HB8.out⟩
    · have HPr : Hid (projB ps = true) := hpr
      have HO8 : Hid (order8 ps = out) := by exact (by rw [← HOut.out]; unfold orderV; rw [if_pos hpr] : order8 ps = out)
      clear hpr HOut
      go_wp2
      go_loopw [5] (fun iv wr => ∃ k : Nat, iv = .int .i64 (k : Int) ∧ k ≤ out.length ∧ Hid (Below w8.heap.size w8 wr)) (fun iv _ => out.length - (intOf iv).toNat)
      case atStart => exact ⟨0, rfl, by omega, Below.refl _ _⟩
      case round =>
        obtain ⟨k, rfl, hk, HBr⟩ := hrel
        have HTr : Hid (TextsIn wr oa out.length out) := HT8.out.below HBr.out
        by_cases hkl : (k : Int) < (out.length : Int)
        · have hk2 : k < out.length := by omega
          have hno : decide (out.getD k [] ∈ out.take k) = false := decide_eq_false (nodup_take8 (by rw [← HO8.out]; exact (order8_end HPr.out).1.nd) hk2)
          obtain ⟨b, off, rfl, _, c0⟩ := HTr.out.2 k hk2
          have hH := lawHas (some ⟨b, off, none⟩) k oc (out.take k) (out.getD k [])
          rw [hno] at hH
          obtain ⟨x, hx⟩ : ∃ x, out.getD k [] = x := ⟨_, rfl⟩
          rw [hx] at c0 hH
          have HH : Hid (_) := hH
          have HTk : Hid (TextsIn wr (some ⟨b, off, none⟩) k (out.take k)) := HTr.out.take8 (by omega)
          have hkc : (k : Int) ≤ (oc : Int) := by omega
          clear hno hH hx
          go_wp2_with fail
          go_quiet (first | (go_at_call 15; refine Calls.quiet_of_same (HH.out _ (HTk.out.below ⟨rfl, rfl, rfl, Nat.le_refl _, fun _ _ => rfl⟩) (by omega))))
          go_wp2
          go_roundw
          case rel => exact ⟨k + 1, by go_num, by omega, HBr.out.trans ⟨rfl, rfl, rfl, Nat.le_refl _, fun _ _ => rfl⟩⟩
          case measure => simp [intOf]; omega
        · obtain ⟨V, hV⟩ : ∃ V, V = wr := ⟨_, rfl⟩
          subst hV
          have HOKv : Hid (PkgsOk V la n lc ps) := HOK8.out.below HBr.out
          have HBv : Hid (Below w.heap.size w V) := HB8.out.trans (HBr.out.mono HB8.out.size)
          have HN0 : Hid ((V.alloc (.cells #[] 9)).ownsRow V.heap.size 9 1 (.slice (some ⟨V.heap.size, 0, none⟩) 0 0) 0 (strV ((names8 ps).take 0))) := World.ownsRow_lit (base := V.heap.size) (e := 9) (size := 1) V #[] 0 (Nat.le_refl _) (by decide) rfl
          have HB0 : Hid (Below V.heap.size V (V.alloc (.cells #[] 9))) := (Below.refl _ _).alloc (Nat.le_refl _) _
          clear HOK8 HB8 HT8 HBr
          go_wp2
          go_loopw [6, 7] (fun nv iv wx => ∃ (k : Nat) (na : Option Addr) (nc : Nat), nv = .slice na k nc ∧ iv = .int .i64 (k : Int) ∧ k ≤ n ∧ Hid (wx.ownsRow V.heap.size 9 1 (.slice na k nc) k (strV ((names8 ps).take k))) ∧ Hid (Below V.heap.size V wx)) (fun _ iv _ => n - (intOf iv).toNat)
          case atStart => exact ⟨0, _, 0, rfl, rfl, by omega, HN0, HB0⟩
          case round =>
            obtain ⟨i, na, nc, rfl, rfl, hi, HN, HBx⟩ := hrel
            clear HN0 HB0
            obtain ⟨X, hX⟩ : ∃ X, X = wr := ⟨_, rfl⟩
            subst hX
            by_cases hil : (i : Int) < (n : Int)
            · have hok := HOKv.out.below HBx.out
              obtain ⟨b, off, rfl, _, c0, _⟩ := hok.each i (by omega)
              have hnt := names8_take ps i (by rw [hok.hlen]; omega)
              obtain ⟨x, hx⟩ : ∃ x, (ps.getD i pk0).1 = x := ⟨_, rfl⟩
              rw [hx] at c0 hnt
              obtain ⟨v', Y, hr, ho, hg⟩ := push_text x HN.out HBx.out.size (by omega)
              rw [← hnt] at ho
              obtain ⟨g', c', rfl⟩ := own_some ho (by omega)
              have HN2 : Hid (Y.ownsRow V.heap.size 9 1 (.slice (some ⟨g', 0, none⟩) (i + 1) c') (i + 1) (strV ((names8 ps).take (i + 1)))) := ho
              have HBY : Hid (Below V.heap.size V Y) := HBx.out.grown hg HBx.out.size (fun q e => (HN.out.lt q e).1)
              clear hok hnt hx ho hg
              go_wp2_with (at_builtin; refine wpList_append_run rfl (.tmp 60) (.tmp 66) 26 rfl _ _ _ rfl rfl hr ?_; clear hr)
              go_roundw
              case rel => exact ⟨i + 1, _, c', rfl, by go_num, by omega, HN2, HBY⟩
              case measure => simp [intOf]; omega
            · obtain rfl : i = n := by omega
              have hnl : (names8 ps).take i = names8 ps := List.take_of_length_le (by simp [names8, HOKv.out.hlen])
              have hN := HN.out
              rw [hnl] at hN
              obtain ⟨_, na', nc', e0, hNin⟩ := own_texts hN
              injection e0 with e0 _ e2
              subst e0
              subst e2
              have HOKu : Hid (PkgsOk X la i lc ps) := HOKv.out.below HBx.out
              have HTu : Hid (TextsIn X oa out.length out) := HTr.out.below HBx.out
              have HNu : Hid (TextsIn X na i (names8 ps)) := hNin
              have HBu : Hid (Below w.heap.size w X) := HBv.out.trans (HBx.out.mono HBv.out.size)
              clear hN hNin hnl HN HBx HTr HOKv HBv
              go_wp2
              go_loopw [8] (fun iv wx => ∃ q : Nat, iv = .int .i64 (q : Int) ∧ q ≤ i ∧ Hid (Below X.heap.size X wx)) (fun iv _ => i - (intOf iv).toNat)
              case atStart => exact ⟨0, rfl, by omega, Below.refl _ _⟩
              case round =>
                obtain ⟨q, rfl, hq, HB3⟩ := hrel
                obtain ⟨X3, hX3⟩ : ∃ X3, X3 = wr := ⟨_, rfl⟩
                subst hX3
                by_cases hqi : (q : Int) < (i : Int)
                · have hok3 := HOKu.out.below HB3.out
                  have hq2 : q < ps.length := by rw [hok3.hlen]; omega
                  obtain ⟨b, off, rfl, hbl, c0, ia, il, ic, fa, fl, fc, c1, _, hpk⟩ := hok3.each q (by omega)
                  have hmem : ps.getD q pk0 ∈ ps := by simp [List.getD, hq2]
                  have HLaw : Hid (_) := order8_law HPr.out hmem
                  rw [HO8.out] at HLaw
                  have hti := hpk.i
                  obtain ⟨x, hx⟩ : ∃ x, (ps.getD q pk0).1 = x := ⟨_, rfl⟩
                  obtain ⟨ims, hims⟩ : ∃ ims, (ps.getD q pk0).2.1 = ims := ⟨_, rfl⟩
                  rw [hx] at c0 HLaw
                  rw [hims] at hti HLaw
                  have hto3 := HTu.out.below HB3.out
                  have htn3 := HNu.out.below HB3.out
                  have hil := hpk.il
                  have HZ : Hid (∀ Z, Below X3.heap.size X3 Z → Z.cell? ⟨b, off + q * 3, none⟩ = some (.string ⟨x.toArray⟩) ∧ Z.cell? ⟨b, off + q * 3 + 1, none⟩ = some (.slice ia il ic) ∧ TextsIn Z ia il ims ∧ TextsIn Z oa out.length out ∧ TextsIn Z na i (names8 ps)) := fun Z hZ => ⟨(hZ.cell (p := ⟨b, off + q * 3, none⟩) hbl).trans c0, (hZ.cell (p := ⟨b, off + q * 3 + 1, none⟩) hbl).trans c1, hti.below hZ, hto3.below hZ, htn3.below hZ⟩
                  have HW0 : Hid ((X3.alloc (.cells #[] 9)).ownsRow X3.heap.size 9 1 (.slice (some ⟨X3.heap.size, 0, none⟩) 0 0) 0 (strV (out.take 0))) := World.ownsRow_lit (base := X3.heap.size) (e := 9) (size := 1) X3 #[] 0 (Nat.le_refl _) (by decide) rfl
                  have HB0 : Hid (Below X3.heap.size X3 (X3.alloc (.cells #[] 9))) := (Below.refl _ _).alloc (Nat.le_refl _) _
                  clear hok3 hpk hx hims hti hto3 htn3 hmem c0 c1
                  go_wp2
                  go_loopw [9, 10] (fun bv kv wx => ∃ (k : Nat) (ba : Option Addr) (bc : Nat), bv = .slice ba k bc ∧ kv = .int .i64 (k : Int) ∧ k ≤ out.length ∧ Hid (∀ t, t < k → out.getD t [] ≠ x) ∧ Hid (wx.ownsRow X3.heap.size 9 1 (.slice ba k bc) k (strV (out.take k))) ∧ Hid (Below X3.heap.size X3 wx)) (fun _ kv _ => out.length - (intOf kv).toNat)
                  case atStart => exact ⟨0, _, 0, rfl, rfl, by omega, (fun t ht => by omega), HW0, HB0⟩
                  case round =>
                    obtain ⟨k, ba, bc, rfl, rfl, hk, HNe, HW, HB4⟩ := hrel
                    clear HW0 HB0
                    obtain ⟨X4, hX4⟩ : ∃ X4, X4 = wr := ⟨_, rfl⟩
                    subst hX4
                    obtain ⟨c0, c1, _, hto, _⟩ := HZ.out X4 HB4.out
                    by_cases hgo : k < out.length ∧ out.getD k [] ≠ x
                    · obtain ⟨hk2, hox⟩ := hgo
                      have hkl : (k : Int) < (out.length : Int) := by omega
                      obtain ⟨bo, oo, rfl, _, d0⟩ := hto.2 k hk2
                      have htk : out.take (k + 1) = out.take k ++ [out.getD k []] := by rw [List.take_succ_eq_append_getElem hk2]; simp [List.getD, hk2]
                      have HNe2 : Hid (∀ t, t < k + 1 → out.getD t [] ≠ x) := fun t ht => by
                        rcases Nat.lt_or_ge t k with h | h
                        · exact HNe.out t h
                        · obtain rfl : t = k := by omega
                          exact hox
                      obtain ⟨o, ho⟩ : ∃ o, out.getD k [] = o := ⟨_, rfl⟩
                      rw [ho] at d0 htk hox
                      have hne : (o != x) = true := by rw [bne_iff_ne]; exact hox
                      have hne2 : (o == x) = false := by rw [beq_eq_false_iff_ne]; exact hox
                      have hne3 : ¬ o = x := hox
                      have hdk : decide ((k : Int) < (out.length : Int)) = true := decide_eq_true hkl
                      clear HNe ho hto hox
                      go_wp2_with fail
                      go_quiet (fail)
                      generalize hX5 : X4.drewN _ = X5
                      have hB5 : Below X3.heap.size X3 X5 := by rw [← hX5]; exact HB4.out.trans ⟨rfl, rfl, rfl, Nat.le_refl _, fun _ _ => rfl⟩
                      have hW5 : X5.ownsRow X3.heap.size 9 1 (.slice ba k bc) k (strV (out.take k)) := by rw [← hX5]; exact own_below HW.out ⟨rfl, rfl, rfl, Nat.le_refl _, fun _ _ => rfl⟩
                      have d5 : X5.cell? ⟨bo, oo + k, none⟩ = some (.string ⟨o.toArray⟩) := by rw [← hX5]; exact d0
                      obtain ⟨v', Y, hr, hoY, hgY⟩ := push_text o hW5 hB5.size (by omega)
                      rw [← htk] at hoY
                      obtain ⟨g', c', rfl⟩ := own_some hoY (by omega)
                      have HWY : Hid (Y.ownsRow X3.heap.size 9 1 (.slice (some ⟨g', 0, none⟩) (k + 1) c') (k + 1) (strV (out.take (k + 1)))) := hoY
                      have HBY : Hid (Below X3.heap.size X3 Y) := hB5.grown hgY hB5.size (fun q e => (hW5.lt q e).1)
                      clear hX5 hoY hgY hW5 hB5 htk c0 c1 d0 HW HB4
                      go_wp2_with (at_builtin; refine wpList_append_run rfl (.tmp 93) (.tmp 98) 26 rfl _ _ _ rfl rfl hr ?_; clear hr)
                      go_roundw
                      case rel => exact ⟨k + 1, _, c', rfl, by go_num, by omega, HNe2, HWY, HBY⟩
                      case measure => simp [intOf]; omega
                    · have hk3 : k = out.length ∨ out.getD k [] = x := by
                        rcases Nat.lt_or_ge k out.length with h | h
                        · right; exact Decidable.byContradiction (fun e => hgo ⟨h, e⟩)
                        · left; omega
                      have htw := takeW_at out k hk HNe.out hk3
                      rw [htw] at HLaw
                      have hway : (k : Int) = (out.length : Int) ∨ (k < out.length ∧ out.getD k [] = x) := by
                        rcases Nat.lt_or_ge k out.length with h | h
                        · right; rcases hk3 with e | e
                          · omega
                          · exact ⟨h, e⟩
                        · left; omega
                      clear htw hk3 hgo HNe
                      rcases hway with hw | ⟨hk2, hox⟩
                      focus
                        have hdk : decide ((k : Int) < (out.length : Int)) = false := decide_eq_false (by omega)
                        have hkl : ¬ (k : Int) < (out.length : Int) := by omega
                        clear hw hto
                        go_wp2_with fail
                        refine wp_region_held_drew (S := (fun w' => w'.cell? ⟨b, off + q * 3, none⟩ = some (.string ⟨x.toArray⟩))) (by kernel_rfl) ?_ (fun hHeld => ?_)
                        · first | (dsimp only; done) | (dsimp only; go_keep) | go_keep
                        refine wpAnyH_take (i := 0) (oi := ⟨some 75, _, _, _, _, _⟩) (v := ?vz0) rfl (by kernel_rfl) (by kernel_rfl) (by kernel_rfl) (fun _ _ _ h => h) (Or.inl ⟨by rfl, ?hyz0⟩) (by assumption) ?restz0
                        case hyz0 => (intro wq hSw; (try dsimp only at hSw); first | (go_simp; done) | (go_simp; with_reducible rfl))
                        simp only [Act.put, List.setIfInBounds_toArray, List.set_cons_zero, List.set_cons_succ]
                        refine wpAnyH_take (i := 1) (oi := ⟨some 76, _, _, _, _, _⟩) (v := ?vz1) rfl (by kernel_rfl) (by kernel_rfl) (by kernel_rfl) (fun _ _ _ h => h) (Or.inl ⟨by rfl, ?hyz1⟩) (by assumption) ?restz1
                        case hyz1 => (intro wq hSw; (try dsimp only at hSw); first | (go_simp; done) | (go_simp; with_reducible rfl))
                        simp only [Act.put, List.setIfInBounds_toArray, List.set_cons_zero, List.set_cons_succ]
                        refine wpAnyH_take (i := 2) (oi := ⟨some 77, _, _, _, _, _⟩) (v := ?vz2) rfl (by kernel_rfl) (by kernel_rfl) (by kernel_rfl) (fun _ _ _ h => h) (Or.inl ⟨by rfl, ?hyz2⟩) (by assumption) ?restz2
                        case hyz2 => (intro wq hSw; (try dsimp only at hSw); first | (go_simp; done) | (go_simp; with_reducible rfl))
                        simp only [Act.put, List.setIfInBounds_toArray, List.set_cons_zero, List.set_cons_succ]
                        refine wpAnyH_take (i := 3) (oi := ⟨some 78, _, _, _, _, _⟩) (v := .bool false) rfl (by kernel_rfl) (by kernel_rfl) (by kernel_rfl) (fun _ _ _ h => h) (Or.inl ⟨by rfl, ?hyz3⟩) (by assumption) ?restz3
                        case hyz3 => (intro wq hSw; (try dsimp only at hSw); go_simp; omega)
                        simp only [Act.put, List.setIfInBounds_toArray, List.set_cons_zero, List.set_cons_succ]
                        refine wpAnyH_take (i := 4) (oi := ⟨some 79, _, _, _, _, _⟩) (v := ?vz4) rfl (by kernel_rfl) (by kernel_rfl) (by kernel_rfl) (fun _ _ _ h => h) (Or.inl ⟨by rfl, ?hyz4⟩) (by assumption) ?restz4
                        case hyz4 => (intro wq hSw; (try dsimp only at hSw); first | (go_simp; done) | (go_simp; with_reducible rfl))
                        simp only [Act.put, List.setIfInBounds_toArray, List.set_cons_zero, List.set_cons_succ]
                        refine wpAnyH_take (i := 5) (oi := ⟨some 80, _, _, _, _, _⟩) (v := undef) rfl (by kernel_rfl) (by kernel_rfl) (by kernel_rfl) (fun _ _ _ h => h) (Or.inr ⟨by rfl, rfl⟩) (by assumption) ?_
                        simp only [Act.put, List.setIfInBounds_toArray, List.set_cons_zero, List.set_cons_succ]
                        refine wpAnyH_take (i := 6) (oi := ⟨some 81, _, _, _, _, _⟩) (v := undef) rfl (by kernel_rfl) (by kernel_rfl) (by kernel_rfl) (fun _ _ _ h => h) (Or.inr ⟨by rfl, rfl⟩) (by assumption) ?_
                        simp only [Act.put, List.setIfInBounds_toArray, List.set_cons_zero, List.set_cons_succ]
                        refine wpAnyH_take (i := 7) (oi := ⟨some 82, _, _, _, _, _⟩) (v := undef) rfl (by kernel_rfl) (by kernel_rfl) (by kernel_rfl) (fun _ _ _ h => h) (Or.inr ⟨by rfl, rfl⟩) (by assumption) ?_
                        simp only [Act.put, List.setIfInBounds_toArray, List.set_cons_zero, List.set_cons_succ]
                        refine wpAnyH_take (i := 8) (oi := ⟨some 83, _, _, _, _, _⟩) (v := undef) rfl (by kernel_rfl) (by kernel_rfl) (by kernel_rfl) (fun _ _ _ h => h) (Or.inr ⟨by rfl, rfl⟩) (by assumption) ?_
                        simp only [Act.put, List.setIfInBounds_toArray, List.set_cons_zero, List.set_cons_succ]
                        refine wpAnyH_take (i := 9) (oi := ⟨some 84, _, _, _, _, _⟩) (v := undef) rfl (by kernel_rfl) (by kernel_rfl) (by kernel_rfl) (fun _ _ _ h => h) (Or.inr ⟨by rfl, rfl⟩) (by assumption) ?_
                        simp only [Act.put, List.setIfInBounds_toArray, List.set_cons_zero, List.set_cons_succ]
                        refine wpAnyH_take (i := 10) (oi := ⟨some 85, _, _, _, _, _⟩) (v := undef) rfl (by kernel_rfl) (by kernel_rfl) (by kernel_rfl) (fun _ _ _ h => h) (Or.inr ⟨by rfl, rfl⟩) (by assumption) ?_
                        simp only [Act.put, List.setIfInBounds_toArray, List.set_cons_zero, List.set_cons_succ]
                        refine wpAnyH_take (i := 11) (oi := ⟨some 86, _, _, _, _, _⟩) (v := undef) rfl (by kernel_rfl) (by kernel_rfl) (by kernel_rfl) (fun _ _ _ h => h) (Or.inr ⟨by rfl, rfl⟩) (by assumption) ?_
                        simp only [Act.put, List.setIfInBounds_toArray, List.set_cons_zero, List.set_cons_succ]
                        refine wpAnyH_take (i := 12) (oi := ⟨some 87, _, _, _, _, _⟩) (v := undef) rfl (by kernel_rfl) (by kernel_rfl) (by kernel_rfl) (fun _ _ _ h => h) (Or.inr ⟨by rfl, rfl⟩) (by assumption) ?_
                        simp only [Act.put, List.setIfInBounds_toArray, List.set_cons_zero, List.set_cons_succ]
                        refine wpAnyH_take (i := 13) (oi := ⟨some 88, _, _, _, _, _⟩) (v := undef) rfl (by kernel_rfl) (by kernel_rfl) (by kernel_rfl) (fun _ _ _ h => h) (Or.inr ⟨by rfl, rfl⟩) (by assumption) ?_
                        simp only [Act.put, List.setIfInBounds_toArray, List.set_cons_zero, List.set_cons_succ]
                        refine wpAnyH_take (i := 14) (oi := ⟨some 89, _, _, _, _, _⟩) (v := undef) rfl (by kernel_rfl) (by kernel_rfl) (by kernel_rfl) (fun _ _ _ h => h) (Or.inr ⟨by rfl, rfl⟩) (by assumption) ?_
                        simp only [Act.put, List.setIfInBounds_toArray, List.set_cons_zero, List.set_cons_succ]
                        refine wpAnyH_take (i := 15) (oi := ⟨some 90, _, _, _, _, _⟩) (v := ?vz15) rfl (by kernel_rfl) (by kernel_rfl) (by kernel_rfl) (fun _ _ _ h => h) (Or.inl ⟨by rfl, ?hyz15⟩) (by assumption) ?restz15
                        case hyz15 => (intro wq hSw; (try dsimp only at hSw); first | (go_simp; done) | (go_simp; with_reducible rfl))
                        simp only [Act.put, List.setIfInBounds_toArray, List.set_cons_zero, List.set_cons_succ]
                        refine wpAnyH_done (by kernel_rfl) ?_ _
                        generalize hX5 : X4.drew = X5
                        have HB5 : Hid (Below X3.heap.size X3 X5) := by exact (by rw [← hX5]; exact HB4.out.trans ⟨rfl, rfl, rfl, Nat.le_refl _, fun _ _ => rfl⟩ : Below X3.heap.size X3 X5)
                        have hW5 : X5.ownsRow X3.heap.size 9 1 (.slice ba k bc) k (strV (out.take k)) := by rw [← hX5]; exact own_below HW.out ⟨rfl, rfl, rfl, Nat.le_refl _, fun _ _ => rfl⟩
                        clear hX5
                      rotate_left
                      focus
                        have hkl : (k : Int) < (out.length : Int) := by omega
                        have hdk : decide ((k : Int) < (out.length : Int)) = true := decide_eq_true hkl
                        obtain ⟨bo, oo, rfl, _, d0⟩ := hto.2 k hk2
                        rw [hox] at d0
                        have hne : (x != x) = false := by simp
                        have hne2 : (x == x) = true := by simp
                        clear hto hox
                        go_wp2_with fail
                        go_quiet (fail)
                        generalize hX5 : X4.drewN _ = X5
                        have HB5 : Hid (Below X3.heap.size X3 X5) := by exact (by rw [← hX5]; exact HB4.out.trans ⟨rfl, rfl, rfl, Nat.le_refl _, fun _ _ => rfl⟩ : Below X3.heap.size X3 X5)
                        have hW5 : X5.ownsRow X3.heap.size 9 1 (.slice ba k bc) k (strV (out.take k)) := by rw [← hX5]; exact own_below HW.out ⟨rfl, rfl, rfl, Nat.le_refl _, fun _ _ => rfl⟩
                        clear hX5
                      all_goals
                        obtain ⟨_, ba', bc', e0, hbin⟩ := own_texts hW5
                        injection e0 with e0 _ e2
                        subst e0
                        subst e2
                        obtain ⟨c5, c15, hti5, hto5, htn5⟩ := HZ.out X5 HB5.out
                        obtain rfl : ims.length = il := hti5.1
                        obtain ⟨b1, hb1⟩ : ∃ b1, decide (x ∈ out) = b1 := ⟨_, rfl⟩
                        have HHo : Hid (_) := lawHas _ out.length oc out x X5 hto5 (by omega)
                        rw [hb1] at HHo
                        have HBb : Hid (b1 = allB ps (out.take k) (ims)) := by exact (by rw [← hb1]; exact decide_eq_decide.2 HLaw.out : b1 = allB ps (out.take k) (ims))
                        have HHn : Hid (_) := fun m => lawHas _ i nc (names8 ps) m X5 htn5 (by omega)
                        have HHb : Hid (_) := fun m => lawHas _ k bc (out.take k) m X5 hbin (by omega)
                        have HTi : Hid (TextsIn X5 ia ims.length ims) := hti5
                        clear hb1 HLaw hW5 hbin hti5 hto5 htn5 c0 c1 HW HB4
                        go_wp2_with (go_at_call 15; refine Calls.mono HHo.out ?_; rintro e w9 ⟨rfl, hw9⟩; obtain rfl := hw9.symm)
                        go_loopw [12, 13] (fun rv jv wx => ∃ (j : Nat) (bb : Bool), rv = .bool bb ∧ jv = .int .i64 (j : Int) ∧ j ≤ ims.length ∧ Hid (bb = allB ps (out.take k) (ims.take j)) ∧ wx = X5) (fun _ jv _ => ims.length - (intOf jv).toNat)
                        case atStart => exact ⟨0, true, rfl, rfl, by omega, (by exact (by unfold allB; rw [decide_eq_true (by simp)] : true = allB ps (out.take k) (ims.take 0))), rfl⟩
                        case round =>
                          obtain ⟨j, bb, rfl, rfl, hj, HBB, hwx⟩ := hrel
                          obtain rfl := hwx.symm
                          by_cases hjl : (j : Int) < (ims.length : Int)
                          · have hj2 : j < ims.length := by omega
                            obtain ⟨bi, oi, rfl, _, d1⟩ := HTi.out.2 j hj2
                            have hat := all_take ps (out.take k) ims hj2
                            rw [← HBB.out] at hat
                            have hHn := HHn.out (ims.getD j [])
                            have hHb := HHb.out (ims.getD j [])
                            obtain ⟨m, hm⟩ : ∃ m, ims.getD j [] = m := ⟨_, rfl⟩
                            rw [hm] at d1 hat hHn hHb
                            have HHn1 : Hid (_) := hHn
                            have HHb1 : Hid (_) := hHb
                            clear hHn hHb hm
                            by_cases h1 : m ∈ names8 ps
                            · rw [decide_eq_true h1] at HHn1
                              by_cases h2 : m ∈ out.take k
                              · rw [decide_eq_true h2] at HHb1
                                have HBB2 : Hid (bb = allB ps (out.take k) (ims.take (j + 1))) := by exact (by rw [hat, decide_eq_true (fun _ => h2), Bool.and_true] : bb = allB ps (out.take k) (ims.take (j + 1)))
                                clear h1 h2 hat
                                go_wp2_with fail
                                refine Calls.mono HHn1.out ?_
                                rintro e w9 ⟨rfl, hw9⟩
                                obtain rfl := hw9.symm
                                go_wp2_with fail
                                refine Calls.mono HHb1.out ?_
                                rintro e w9 ⟨rfl, hw9⟩
                                obtain rfl := hw9.symm
                                go_wp2
                                go_roundw
                                case rel => exact ⟨j + 1, bb, rfl, by go_num, by omega, HBB2, trivial⟩
                                case measure => simp [intOf]; omega
                              · rw [decide_eq_false h2] at HHb1
                                have HBB2 : Hid (false = allB ps (out.take k) (ims.take (j + 1))) := by exact (by rw [hat, decide_eq_false (fun h => h2 (h h1)), Bool.and_false] : false = allB ps (out.take k) (ims.take (j + 1)))
                                clear h1 h2 hat
                                go_wp2_with fail
                                refine Calls.mono HHn1.out ?_
                                rintro e w9 ⟨rfl, hw9⟩
                                obtain rfl := hw9.symm
                                go_wp2_with fail
                                refine Calls.mono HHb1.out ?_
                                rintro e w9 ⟨rfl, hw9⟩
                                obtain rfl := hw9.symm
                                go_wp2
                                go_roundw
                                case rel => exact ⟨j + 1, false, rfl, by go_num, by omega, HBB2, trivial⟩
                                case measure => simp [intOf]; omega
                            · rw [decide_eq_false h1] at HHn1
                              have HBB2 : Hid (bb = allB ps (out.take k) (ims.take (j + 1))) := by exact (by rw [hat, decide_eq_true (fun h => absurd h h1), Bool.and_true] : bb = allB ps (out.take k) (ims.take (j + 1)))
                              clear h1 hat
                              go_wp2_with fail
                              refine Calls.mono HHn1.out ?_
                              rintro e w9 ⟨rfl, hw9⟩
                              obtain rfl := hw9.symm
                              go_wp2
                              go_roundw
                              case rel => exact ⟨j + 1, bb, rfl, by go_num, by omega, HBB2, trivial⟩
                              case measure => simp [intOf]; omega
                          · have hbb : bb = b1 := by rw [HBB.out, HBb.out, show ims.take j = ims from List.take_of_length_le (by omega)]
                            subst hbb
                            have hsb := hselfb bb
                            go_wp2
                            go_roundw
                            case rel => exact ⟨q + 1, by go_num, by omega, HB3.out.trans (HB5.out.mono HB3.out.size)⟩
                            case measure => simp [intOf]; omega
                · go_wp2
                  go_ret
                  exact ⟨rfl, HBu.out.trans (HB3.out.mono HBu.out.size)⟩

end Go.Proofs.Ytfeklbnggicefaa
