/-
  Parts of one proof, one behind the other: OrdJ, Draw3, DrawW, DrawT, DrawX, DrawN.
-/
import Derived.Test.YtmloocbbcnhooaaGreatDoorP25
import Derived.Test.YtmloocbbcnhooaaGreatDoorP2
import Derived.Deep.RegionWith
import Derived.Test.YtmloocbbcnhooaaGreatDoorP1
import Derived.Test.YtmloocbbcnhooaaGreatDoorP9

/-! The contract of the landed placesInOrder, walked. -/
namespace Go.Proofs.YtmloocbbcnhooaaGreatDoor
open Go.RowKit

theorem g_len8 {ps : List Pk} {out : List Nat} {f : Nat} (g : Kf8 ps out f) : out.length + 1 ≤ 8 := by
  have h1 := (g.or.step (projB_parts g.pj).1.nodup g.nx).len
  have h2 := (projB_parts g.pj).2.1.2
  simp [nmsAt] at h1
  omega

set_option maxHeartbeats 8000000 in
set_option maxRecDepth 100000 in
theorem implPlacesInOrder (a : Option Addr) (len cap : Nat) (ps : List Pk) (w : World) (h : PkgsOk w a len cap ps) (hpj : projB ps = true) :
    Calls Tryz.prog 99 #[.slice a len cap] w fun e w' => ∃ v, e = .returned v ∧ ∃ out, w'.ownsRow w.heap.size 3 1 v out.length (natV out) ∧ nmsAt ps out = order8 ps ∧ (∀ x ∈ out, x < len) ∧ out.length ≤ 8 ∧ Below w.heap.size w w' := by
  obtain rfl : ps.length = len := h.hlen
  have hn8 : ps.length ≤ 8 := (projB_parts hpj).2.1.2
  have HI : Hid (PkgsOk w a ps.length cap ps) := h
  have HP : Hid (projB ps = true) := hpj
  clear h hpj
  obtain ⟨i0, hi, hz0, hz1, hz2⟩ := info_parts info3
  have hmk : ∀ W : World, (Instr.makeSlice 144 (.int .i64 (ps.length : Int)) (.int .i64 (ps.length : Int))).run Tryz.prog W = .ok (.slice (some ⟨W.heap.size, 0, none⟩) ps.length ps.length) (W.alloc (.cells (madeCells (Value.int .i64 0).cells ps.length) 3)) := fun W => by
    have h := run_make (P := Tryz.prog) W 144 3 i0 (.int .i64 0) Tryz.underlying144 hi hz0 .i64 .i64 (ps.length : Int) (ps.length : Int) (by omega) (by omega) (by rw [hz2]; omega) (by omega)
    rw [hz1] at h
    simpa using h
  clear hi hz0 hz1 hz2
  have HS0 : Hid (_) := po8_start w ps.length (by omega)
  have HB0 : Hid (Below w.heap.size w (((w.alloc (.cells (madeCells (Value.int .i64 0).cells ps.length) 3)).alloc (.cells #[] 3)).alloc (.cells #[.slice (some ⟨w.heap.size + 1, 0, none⟩) 0 0] 170))) := (((Below.refl _ _).alloc (Nat.le_refl _) _).alloc (by simp) _).alloc (by simp; omega) _
  have HK0 : Hid (Ks8 ps 0 (List.replicate ps.length 0) []) := Ks8.zero ps List.length_replicate
  obtain ⟨nb, hnb⟩ : ∃ nb, w.heap.size + 1 + 1 = nb := ⟨_, rfl⟩
  rw [show w.heap.size + 2 = w.heap.size + 1 + 1 from rfl, hnb] at HS0
  go_enter Tryz.func99, Tryz.ntmps99
  go_wp2
  go_loopw [17] (fun iv wr => ∃ (k : Nat) (hv : Value) (ws hl : List Nat), iv = .int .i64 (k : Int) ∧ k ≤ ps.length ∧ Hid (Po8 wr w.heap.size w.heap.size nb ps.length hv (.slice none 0 0) ws hl []) ∧ Hid (Ks8 ps k ws hl) ∧ Hid (Below w.heap.size w wr)) (fun iv _ => ps.length - (intOf iv).toNat)
  case atStart => exact ⟨0, _, _, _, rfl, by omega, HS0, HK0, HB0⟩
  case round =>
    obtain ⟨k, hv, ws, hl, rfl, hk, HS, HK, HB⟩ := hrel
    clear HS0 HB0 HK0 hmk
    by_cases hlt : (k : Int) < (ps.length : Int)
    · have hk2 : k < ps.length := by omega
      have HPo : Hid (_) := implPlacesOf a ps.length cap ps k wr (HI.out.below HB.out) hk2
      obtain ⟨m, hm⟩ : ∃ m, wt8 ps [] k = m := ⟨_, rfl⟩
      have hlm : (plc ps (imsAt ps k)).length = m := by rw [← wt8_nil]; exact hm
      have hhl := HK.out.hlen (by omega)
      go_wp2_with fail
      refine Calls.mono HPo.out ?_
      rintro e w1 ⟨v1, rfl, ho1, hb1⟩
      rw [hlm] at ho1
      obtain ⟨pa, pc, rfl, _⟩ := own_nats ho1 hlm
      have s1 := HS.out.below hb1
      have hB1 : Below w.heap.size w w1 := HB.out.trans (hb1.mono HB.out.size)
      obtain ⟨s2, hB2⟩ := s1.setw hB1.size k m
      have c1 := nat_cell s1.ow s1.wl k hk2
      have f1 := s1.ow.frozenAt k
      have c2 := nat_cell s2.ow s2.wl k hk2
      rw [getD_set (by rw [s1.wl]; exact hk2), if_pos rfl] at c2
      obtain ⟨W2, hW2⟩ : ∃ W2, w1.setCell ⟨w.heap.size, k, none⟩ (.int .i64 (m : Int)) = W2 := ⟨_, rfl⟩
      rw [hW2] at s2 hB2 c2
      have HS2 : Hid (Po8 W2 w.heap.size w.heap.size nb ps.length hv (.slice none 0 0) (ws.set k m) hl []) := s2
      have HB2 : Hid (Below w.heap.size w W2) := hB1.trans hB2
      have HM : Hid (wt8 ps [] k = m) := hm
      clear HPo ho1 hb1 s1 hB1 s2 hB2 hlm hm HS HB
      by_cases hm0 : m = 0
      · subst hm0
        have hW3 : w1.setCell ⟨w.heap.size, k, none⟩ (.int .i64 0) = W2 := hW2
        have c3 : W2.cell? ⟨w.heap.size, k, none⟩ = some (.int .i64 0) := c2
        go_wp2_with fail
        refine (heapPush w.heap.size nb hv hl k W2 HS2.out.hp HS2.out.hn (by omega)).mono ?_
        rintro e w3 ⟨rfl, v3, l3, h3, hn3, hp3, hw3, hat3⟩
        obtain ⟨s3, hB3⟩ := HS2.out.push HB2.out.size h3 hn3 hw3 hat3
        have HS3 : Hid (Po8 w3 w.heap.size w.heap.size nb ps.length v3 (.slice none 0 0) (ws.set k 0) l3 []) := s3
        have HB3 : Hid (Below w.heap.size w w3) := HB2.out.trans hB3
        have HK3 : Hid (Ks8 ps (k + 1) (ws.set k 0) l3) := by
          have := HK.out.push hk2 HM.out hp3
          rw [HM.out] at this
          exact this
        clear h3 hn3 hp3 hw3 hat3 s3 hB3
        go_wp2
        go_roundw
        case rel => exact ⟨k + 1, v3, _, l3, by go_num, by omega, HS3, HK3, HB3⟩
        case measure => simp [intOf]; omega
      · have hmz : ¬ (m : Int) = 0 := by omega
        have HK3 : Hid (Ks8 ps (k + 1) (ws.set k m) hl) := by
          have := HK.out.pass hk2 (by rw [HM.out]; exact hm0)
          rw [HM.out] at this
          exact this
        go_wp2
        go_roundw
        case rel => exact ⟨k + 1, hv, _, hl, by go_num, by omega, HS2, HK3, HB2⟩
        case measure => simp [intOf]; omega
    · obtain rfl : k = ps.length := by omega
      obtain ⟨V, hV⟩ : ∃ V, V = wr := ⟨_, rfl⟩
      subst hV
      have HA0 : Hid (Ka8 ps [] ws hl) := HK.out.start
      have HS0 : Hid (Po8 (V.alloc (.cells #[] 3)) w.heap.size w.heap.size nb ps.length hv (.slice (some ⟨V.heap.size, 0, none⟩) 0 0) ws hl []) := HS.out.newo HB.out.size
      have HB0 : Hid (Below w.heap.size w (V.alloc (.cells #[] 3))) := HB.out.alloc HB.out.size _
      clear HK HS HB
      go_wp2
      go_loopw [6] (fun ov wr => ∃ (m : Nat) (oa : Option Addr) (oc : Nat) (hv : Value) (ws hl out : List Nat), ov = .slice oa m oc ∧ m ≤ 8 ∧ Hid (out.length = m) ∧ Hid (Po8 wr w.heap.size w.heap.size nb ps.length hv (.slice oa m oc) ws hl out) ∧ Hid (Ka8 ps out ws hl) ∧ Hid (Below w.heap.size w wr)) (fun ov _ => 100 - lenS8 ov)
      case atStart => exact ⟨0, _, 0, hv, ws, hl, [], rfl, by omega, rfl, HS0, HA0, HB0⟩
      case round =>
        obtain ⟨m, oa, oc, hv, ws, hl, out, rfl, hm8, HLo, HS, HA, HB⟩ := hrel
        clear HS0 HA0 HB0
        obtain ⟨Z, hZ⟩ : ∃ Z, Z = wr := ⟨_, rfl⟩
        subst hZ
        obtain ⟨q, hq⟩ : ∃ q, hl.length = q := ⟨_, rfl⟩
        obtain ⟨ha, hc, rfl, _⟩ := own_nats (HS.out.hp.rown hq) hq
        have c0 := HS.out.hp.cell
        rcases Nat.eq_zero_or_pos q with hq0 | hq0
        · subst hq0
          have hnil : hl = [] := List.eq_nil_of_length_eq_zero hq
          subst hnil
          have HE : Hid (nmsAt ps out = order8 ps ∧ (∀ x ∈ out, x < ps.length)) := ⟨HA.out.done, HA.out.lt⟩
          have HO : Hid (Z.ownsRow w.heap.size 3 1 (.slice oa m oc) out.length (natV out)) := HS.out.oo
          clear hq
          go_wp2_with (go_at_call 120; refine (upLen _ _ _ _).mono ?_; rintro e w2 ⟨rfl, hw2⟩; obtain rfl := hw2.symm)
          go_ret
          exact ⟨_, rfl, out, HO.out, HE.out.1, HE.out.2, by rw [HLo.out]; exact hm8, HB.out⟩
        · obtain ⟨q, rfl⟩ : ∃ p, q = p + 1 := ⟨q - 1, by omega⟩
          obtain ⟨g, hc2, hge⟩ := own_some (HS.out.hp.rown hq) (by omega)
          injection hge with e1 _ e3
          subst e1
          subst e3
          have hhl := HA.out.hlen
          have HT : Hid (_) := implTakeFirst w.heap.size nb g q hc hl Z HS.out.hp hq HS.out.hn (by omega)
          have hqz : (0 : Int) < (q : Int) + 1 := by omega
          obtain ⟨f, hf⟩ : ∃ f, hl.getD 0 0 = f := ⟨_, rfl⟩
          rw [hf] at HT
          clear hq hf
          go_wp2_with (go_at_call 120; refine (upLen _ _ _ _).mono ?_; rintro e w2 ⟨rfl, hw2⟩; obtain rfl := hw2.symm)
          refine Calls.mono HT.out ?_
          rintro e w1 ⟨rfl, l1, h1, hn1, _, hp1, hmin1, hw1⟩
          obtain ⟨s1, hB1⟩ := HS.out.push HB.out.size h1 hn1 (hw1.mono (fun k e => e.imp id (fun e => by rw [e]; rfl))) (fun k e => Or.inl e)
          obtain ⟨kf, kb⟩ := HA.out.take HP.out hp1 hmin1
          have hBw1 := HB.out.trans hB1
          obtain ⟨g', c', Y, hr, s2, hB2⟩ := s1.app hBw1.size (by rw [HLo.out]; omega) f
          rw [HLo.out] at hr s2
          have HF : Hid (Kf8 ps out f) := kf
          have HKb0 : Hid (Kb8 ps out f 0 ws l1) := kb
          have HSb0 : Hid (Po8 Y w.heap.size w.heap.size nb ps.length (.slice (some ⟨g, 0, none⟩) q hc) (.slice (some ⟨g', 0, none⟩) (m + 1) c') ws l1 (out ++ [f])) := s2
          have HBb0 : Hid (Below w.heap.size w Y) := hBw1.trans hB2
          have hm7 : m + 1 ≤ 8 := by
            have h1 := (g_len8 kf)
            rw [HLo.out] at h1
            omega
          have hfl := kf.fl
          clear HT h1 hn1 hp1 hmin1 hw1 s1 hB1 kf kb hBw1 s2 hB2 HS HA HB c0 hhl
          go_wp2_with (at_builtin; refine wpList_append_run rfl (.tmp 46) (.tmp 48) 144 rfl _ _ _ rfl rfl hr ?_; clear hr)
          go_loopw [52] (fun iv wx => ∃ (k : Nat) (hv : Value) (ws hl : List Nat), iv = .int .i64 (k : Int) ∧ k ≤ ps.length ∧ Hid (Po8 wx w.heap.size w.heap.size nb ps.length hv (.slice (some ⟨g', 0, none⟩) (m + 1) c') ws hl (out ++ [f])) ∧ Hid (Kb8 ps out f k ws hl) ∧ Hid (Below w.heap.size w wx)) (fun iv _ => ps.length - (intOf iv).toNat)
          case atStart => exact ⟨0, _, ws, l1, rfl, by omega, HSb0, HKb0, HBb0⟩
          case round =>
            obtain ⟨k, hv, ws, hl, rfl, hk, HS, HK, HB⟩ := hrel
            clear HSb0 HKb0 HBb0
            by_cases hlt : (k : Int) < (ps.length : Int)
            · have hk2 : k < ps.length := by omega
              have hok := HI.out.below HB.out
              obtain ⟨b, off, rfl, hbl, c0, ia, il, ic, fa, fl, fc, c1, c2, hpk⟩ := hok.each k hk2
              obtain ⟨b', off', he, hbl', cf, _⟩ := hok.each f hfl
              simp only [Option.some.injEq, Addr.mk.injEq, and_true] at he
              obtain ⟨rfl, rfl⟩ := he
              have hil := hpk.il
              have hti : TextsIn wr ia il (imsAt ps k) := hpk.i
              obtain ⟨x, hx⟩ : ∃ x, (ps.getD k pk0).1 = x := ⟨_, rfl⟩
              obtain ⟨y, hy⟩ : ∃ y, (ps.getD f pk0).1 = y := ⟨_, rfl⟩
              rw [hx] at c0
              rw [hy] at cf
              have HY : Hid (nmAt ps f = y) := hy
              obtain ⟨bx, hbx⟩ := Box3.new wr (.string ⟨x.toArray⟩) (.slice ia il ic) (.slice fa fl fc) 36
              obtain ⟨X, hX⟩ : ∃ X, wr.alloc (.cells #[.string ⟨x.toArray⟩, .slice ia il ic, .slice fa fl fc] 36) = X := ⟨_, rfl⟩
              rw [hX] at bx hbx
              have d0 := bx.c0
              have d1 := bx.c1
              have d2 := bx.c2
              have df : X.cell? ⟨b, off + f * 3, none⟩ = some (.string ⟨y.toArray⟩) := (hbx.cell (p := ⟨b, off + f * 3, none⟩) hbl').trans cf
              have HTi : Hid (TextsIn X ia il (imsAt ps k)) := hti.below hbx
              have HSX : Hid (Po8 X w.heap.size w.heap.size nb ps.length hv (.slice (some ⟨g', 0, none⟩) (m + 1) c') ws hl (out ++ [f])) := HS.out.below hbx
              have HBX : Hid (Below w.heap.size w X) := HB.out.trans (hbx.mono HB.out.size)
              have hfz : (f : Int) < (ps.length : Int) := by omega
              have hhl := HK.out.hlen
              have HC : Hid (∀ W, TextsIn W ia il (imsAt ps k) → Calls Tryz.prog 122 #[.slice ia il ic, .string ⟨y.toArray⟩] W fun e w' => e = .returned (.bool (decide (y ∈ imsAt ps k))) ∧ w' = W) := fun W hW => containsStr ia il ic (imsAt ps k) y W hW hil
              clear hok bx hbx hpk hti hx hy HS HB cf
              by_cases hin : y ∈ imsAt ps k
              · rw [decide_eq_true hin] at HC
                obtain ⟨hd0, hd6, hd7⟩ := HK.out.less HF.out hk2 (by rw [HY.out]; exact hin)
                obtain ⟨d, hd⟩ : ∃ d, ws.getD k 0 = d + 1 := ⟨ws.getD k 0 - 1, by omega⟩
                have HKd : Hid (d ≠ 0 → Kb8 ps out f (k + 1) (ws.set k d) hl) := fun h => by
                  have := HK.out.down HF.out hk2 (by rw [HY.out]; exact hin) (by rw [hd]; simpa using h)
                  rw [hd] at this
                  exact this
                have HKp : Hid (d = 0 → ∀ hl2 : List Nat, hl2.Perm (k :: hl) → Kb8 ps out f (k + 1) (ws.set k d) hl2) := fun h hl2 hp => by
                  have := HK.out.push HF.out hk2 (by rw [HY.out]; exact hin) (by rw [hd]; simpa using h) hp
                  rw [hd] at this
                  exact this
                have HD : Hid (ws.getD k 0 = d + 1) := hd
                have hdb : d ≤ 5 := by omega
                clear hin hd0 hd6 hd7 hd HK
                go_wp2_with fail
                go_quiet (first | (go_at_call 122; refine Calls.quiet_of_same (HC.out _ (HTi.out.below ⟨rfl, rfl, rfl, Nat.le_refl _, fun _ _ => rfl⟩))))
                generalize hX5 : X.drewN _ = X5
                have hb5 : Below X.heap.size X X5 := by rw [← hX5]; exact ⟨rfl, rfl, rfl, Nat.le_refl _, fun _ _ => rfl⟩
                have s5 := HSX.out.below hb5
                have hB5 : Below w.heap.size w X5 := HBX.out.trans (hb5.mono HBX.out.size)
                obtain ⟨s6, hB6⟩ := s5.setw hB5.size k d
                have e1 := nat_cell s5.ow s5.wl k hk2
                rw [HD.out] at e1
                have f1 := s5.ow.frozenAt k
                have e2 := nat_cell s6.ow s6.wl k hk2
                rw [getD_set (by rw [s5.wl]; exact hk2), if_pos rfl] at e2
                obtain ⟨W6, hW6⟩ : ∃ W6, X5.setCell ⟨w.heap.size, k, none⟩ (.int .i64 (d : Int)) = W6 := ⟨_, rfl⟩
                rw [hW6] at s6 hB6 e2
                have HS6 : Hid (Po8 W6 w.heap.size w.heap.size nb ps.length hv (.slice (some ⟨g', 0, none⟩) (m + 1) c') (ws.set k d) hl (out ++ [f])) := s6
                have HB6 : Hid (Below w.heap.size w W6) := hB5.trans hB6
                clear c0 c1 c2 hX5 hb5 s5 hB5 s6 hB6 d0 d1 d2 df HC HSX HBX HD
                by_cases hd0 : d = 0
                · subst hd0
                  have hW7 : X5.setCell ⟨w.heap.size, k, none⟩ (.int .i64 0) = W6 := hW6
                  have e3 : W6.cell? ⟨w.heap.size, k, none⟩ = some (.int .i64 0) := e2
                  have e4 : X5.cell? ⟨w.heap.size, k, none⟩ = some (.int .i64 1) := e1
                  go_wp2_with fail
                  refine (heapPush w.heap.size nb hv hl k W6 HS6.out.hp HS6.out.hn (by omega)).mono ?_
                  rintro e w7 ⟨rfl, v7, l7, h7, hn7, hp7, hw7, hat7⟩
                  obtain ⟨s7, hB7⟩ := HS6.out.push HB6.out.size h7 hn7 hw7 hat7
                  have HS7 : Hid (Po8 w7 w.heap.size w.heap.size nb ps.length v7 (.slice (some ⟨g', 0, none⟩) (m + 1) c') (ws.set k 0) l7 (out ++ [f])) := s7
                  have HB7 : Hid (Below w.heap.size w w7) := HB6.out.trans hB7
                  have HK7 : Hid (Kb8 ps out f (k + 1) (ws.set k 0) l7) := HKp.out (by simp) l7 hp7
                  clear h7 hn7 hp7 hw7 hat7 s7 hB7
                  go_wp2
                  go_roundw
                  case rel => exact ⟨k + 1, v7, _, l7, by go_num, by omega, HS7, HK7, HB7⟩
                  case measure => simp [intOf]; omega
                · have hdz : ¬ (d : Int) = 0 := by omega
                  have HK7 : Hid (Kb8 ps out f (k + 1) (ws.set k d) hl) := HKd.out hd0
                  go_wp2
                  go_roundw
                  case rel => exact ⟨k + 1, hv, _, hl, by go_num, by omega, HS6, HK7, HB6⟩
                  case measure => simp [intOf]; omega
              · rw [decide_eq_false hin] at HC
                have HK2 : Hid (Kb8 ps out f (k + 1) ws hl) := HK.out.skip HF.out hk2 (by rw [HY.out]; exact hin)
                clear hin HK
                go_wp2_with fail
                go_quiet (first | (go_at_call 122; refine Calls.quiet_of_same (HC.out _ (HTi.out.below ⟨rfl, rfl, rfl, Nat.le_refl _, fun _ _ => rfl⟩))))
                generalize hX5 : X.drewN _ = X5
                have hb5 : Below X.heap.size X X5 := by rw [← hX5]; exact ⟨rfl, rfl, rfl, Nat.le_refl _, fun _ _ => rfl⟩
                have HS5 : Hid (Po8 X5 w.heap.size w.heap.size nb ps.length hv (.slice (some ⟨g', 0, none⟩) (m + 1) c') ws hl (out ++ [f])) := HSX.out.below hb5
                have HB5 : Hid (Below w.heap.size w X5) := HBX.out.trans (hb5.mono HBX.out.size)
                clear c0 c1 c2 hX5 hb5 d0 d1 d2 df HC HSX HBX
                go_wp2
                go_roundw
                case rel => exact ⟨k + 1, hv, ws, hl, by go_num, by omega, HS5, HK2, HB5⟩
                case measure => simp [intOf]; omega
            · obtain rfl : k = ps.length := by omega
              have HA2 : Hid (Ka8 ps (out ++ [f]) ws hl) := HK.out.out HF.out
              have HL2 : Hid ((out ++ [f]).length = m + 1) := by exact (by rw [List.length_append, List.length_singleton, HLo.out] : (out ++ [f]).length = m + 1)
              go_wp2
              go_roundw
              case rel => exact ⟨m + 1, _, c', hv, ws, hl, out ++ [f], rfl, by omega, HL2, HS, HA2, HB⟩
              case measure => simp [lenS8]; omega

end Go.Proofs.YtmloocbbcnhooaaGreatDoor

/-! The contracts of DrawHash and DrawTurned. -/
namespace Go.Proofs.YtmloocbbcnhooaaGreatDoor
open Go.RowKit


def pick (l : List Int) (x : Int) : Int := l.getD x.toNat 0

theorem pick_cell (l : List Int) (x : Int) (h0 : 0 ≤ x) (h1 : x < l.length) (W : World) (e : TypeId) :
    (W.alloc (.cells (l.map (Value.int .i64)).toArray e)).cell? ⟨W.heap.size, x.toNat, none⟩ = some (.int .i64 (pick l x)) := by
  have hx : x.toNat < l.length := by omega
  rw [World.cell?_alloc_mark]
  simp [pick, hx]


end Go.Proofs.YtmloocbbcnhooaaGreatDoor

/-! Words, and numbers that are none, are drawn. -/
namespace Go.Proofs.YtmloocbbcnhooaaGreatDoor
open Go.RowKit

theorem pick_in (l : List Int) (x lo hi : Int) (h0 : 0 ≤ x) (h1 : x < l.length) (h : ∀ y ∈ l, lo ≤ y ∧ y ≤ hi) : lo ≤ pick l x ∧ pick l x ≤ hi := by
  have hx : x.toNat < l.length := by omega
  have : pick l x = l[x.toNat] := by simp [pick, List.getD, hx]
  rw [this]
  exact h _ (List.getElem_mem hx)

set_option maxHeartbeats 1000000 in
set_option maxRecDepth 100000 in
theorem drawFromG (w : World) (B : Nat) (a : Option Addr) (len cap : Nat) (lo hi : Int) (h0 : -1000000 ≤ lo) (h1 : lo ≤ hi) (h2 : hi ≤ 1000000) (h : Cur w B a len cap) :
    Calls Tryz.prog 59 #[.pointer (some ⟨B, 0, none⟩), .int .i64 lo, .int .i64 hi] w fun e w' => ∃ x : Int, e = .returned (.int .i64 x) ∧ lo ≤ x ∧ x ≤ hi ∧ Cur w' B a len cap ∧ w.grownBy w' (some B) := by
  go_enter Tryz.func59, Tryz.ntmps59
  go_wp2_with fail
  refine (drawBelow _ B a len cap (hi - lo + 1) (by omega) (by omega) h).mono ?_
  rintro e w1 ⟨x, rfl, hx0, hx1, hc, hg⟩
  go_wp2
  go_ret
  exact ⟨_, rfl, by omega, by omega, hc, hg⟩

set_option maxHeartbeats 1000000 in
set_option maxRecDepth 100000 in
theorem drawWord (w : World) (B : Nat) (a : Option Addr) (len cap : Nat) (h : Cur w B a len cap) :
    Calls Tryz.prog 26 #[.pointer (some ⟨B, 0, none⟩)] w fun e w' => ∃ x : Int, e = .returned (.int .i64 x) ∧ -2147483648 ≤ x ∧ x ≤ 2147483647 ∧ Cur w' B a len cap ∧ w.grownBy w' (some B) := by
  go_enter Tryz.func26, Tryz.ntmps26
  go_wp2_with fail
  refine (drawOnce _ B a len cap 6 (by omega) (by omega) h).mono ?_
  rintro e w1 ⟨o, rfl, hc1, hg1⟩
  have hB := hc1.lt
  rcases o with _ | _
  · go_wp2_with fail
    refine (drawBelow _ B a len cap 12 (by omega) (by omega) hc1).mono ?_
    rintro e w2 ⟨x, rfl, hx0, hx1, hc2, hg2⟩
    go_wp2
    go_ret
    exact ⟨_, rfl, by omega, by omega, hc2, hg1.trans hg2⟩
  · go_wp2_with fail
    refine (drawBelow _ B a len cap 4 (by omega) (by omega) (hc1.kept (World.grownBy_alloc _ _ none) (by simp))).mono ?_
    rintro e w2 ⟨x, rfl, hx0, hx1, hc2, hg2⟩
    have hcx := hg2.cell (pick_cell [2147483647, -2147483648, 65536, -1] x hx0 hx1 w1 2) (by simp; omega)
    have hpi := pick_in [2147483647, -2147483648, 65536, -1] x (-2147483648) 2147483647 hx0 hx1 (by simp)
    generalize pick [2147483647, -2147483648, 65536, -1] x = y at hcx hpi
    have hg := (hg1.trans (World.grownBy_alloc _ _ _)).trans hg2
    clear hc1 hg1 hg2
    go_wp2
    go_ret
    exact ⟨_, rfl, hpi.1, hpi.2, hc2, hg⟩

set_option maxHeartbeats 1000000 in
set_option maxRecDepth 100000 in
theorem drawAny (w : World) (B : Nat) (a : Option Addr) (len cap : Nat) (h : Cur w B a len cap) :
    Calls Tryz.prog 29 #[.pointer (some ⟨B, 0, none⟩)] w fun e w' => ∃ x : Int, e = .returned (.int .i64 x) ∧ -9223372036854775808 ≤ x ∧ x ≤ 9223372036854775807 ∧ Cur w' B a len cap ∧ w.grownBy w' (some B) := by
  go_enter Tryz.func29, Tryz.ntmps29
  go_wp2_with fail
  refine (drawOnce _ B a len cap 10 (by omega) (by omega) h).mono ?_
  rintro e w1 ⟨o, rfl, hc1, hg1⟩
  have hB := hc1.lt
  rcases o with _ | _
  · go_wp2_with fail
    refine (drawWord _ B a len cap hc1).mono ?_
    rintro e w2 ⟨x, rfl, hx0, hx1, hc2, hg2⟩
    go_wp2
    go_ret
    exact ⟨_, rfl, by omega, by omega, hc2, hg1.trans hg2⟩
  · go_wp2_with fail
    refine (drawBelow _ B a len cap 4 (by omega) (by omega) (hc1.kept (World.grownBy_alloc _ _ none) (by simp))).mono ?_
    rintro e w2 ⟨x, rfl, hx0, hx1, hc2, hg2⟩
    have hcx := hg2.cell (pick_cell [2147483648, -2147483649, 4611686018427387904, -9223372036854775808] x hx0 hx1 w1 2) (by simp; omega)
    have hpi := pick_in [2147483648, -2147483649, 4611686018427387904, -9223372036854775808] x (-9223372036854775808) 9223372036854775807 hx0 hx1 (by simp)
    generalize pick [2147483648, -2147483649, 4611686018427387904, -9223372036854775808] x = y at hcx hpi
    have hg := (hg1.trans (World.grownBy_alloc _ _ _)).trans hg2
    clear hc1 hg1 hg2
    go_wp2
    go_ret
    exact ⟨_, rfl, hpi.1, hpi.2, hc2, hg⟩



end Go.Proofs.YtmloocbbcnhooaaGreatDoor

/-! A text is drawn. -/
namespace Go.Proofs.YtmloocbbcnhooaaGreatDoor
open Go.RowKit


end Go.Proofs.YtmloocbbcnhooaaGreatDoor

/-! The contracts of DrawLines, DrawWords, DrawNameOk, DrawNumberOf. -/
namespace Go.Proofs.YtmloocbbcnhooaaGreatDoor
open Go.RowKit



def pickT (l : List (List UInt8)) (x : Int) : List UInt8 := l.getD x.toNat []

end Go.Proofs.YtmloocbbcnhooaaGreatDoor

/-! A node is drawn. -/
namespace Go.Proofs.YtmloocbbcnhooaaGreatDoor
open Go.RowKit

theorem Code.alloc {w : World} {B : Nat} {a : Option Addr} {len : Nat} (h : Code w B a len) (hB : B ≤ w.heap.size) (o : Obj) : Code (w.alloc o) (B + 1) a len := by
  intro j hj
  obtain ⟨b, off, x, e1, e2, e3, e0⟩ := h j hj
  exact ⟨b, off, x, e1, by omega, (World.cell?_of_block (a := ⟨b, off + j, none⟩) (Below.heap_alloc _ _ _ (by show b < _; omega))).trans e3, e0⟩

end Go.Proofs.YtmloocbbcnhooaaGreatDoor
