/-
  Parts of one proof, one behind the other: Draw8M, Draw8K, Draw8N.
-/
import Derived.Test.YtkjojhkpoooimaaGreatP37
import Derived.Test.YtkjojhkpoooimaaGreatP15

/-! The walk of l8Draw. -/
namespace Go.Proofs.YtkjojhkpoooimaaGreat
open Go.RowKit

set_option maxHeartbeats 8000000 in
set_option maxRecDepth 100000 in
theorem drawPs (w : World) (B : Nat) (a : Option Addr) (len cap : Nat) (hc : Cur w B a len cap) :
    Calls Tryz.prog 68 #[.pointer (some ⟨B, 0, none⟩)] w fun e w' => ∃ L la lc ys vc cs, e = .returned (.slice la (ys : List PV).length lc) ∧ D8 w' w B a len cap w.heap.size L la lc ys vc cs ∧ 1 ≤ ys.length ∧ ys.length ≤ 4 := by
  have hc0 := hc.kept (World.grownBy_alloc w (.cells #[.string ⟨#[97]⟩, .string ⟨#[98]⟩, .string ⟨#[99]⟩] 9) none) (by simp)
  go_enter Tryz.func68, Tryz.ntmps68
  go_wp2_with fail
  refine (drawBelow _ B a len cap 4 (by omega) (by omega) hc0).mono ?_
  rintro e w1 ⟨x, rfl, hx0, hx1, hc1, hg1⟩
  have HD0 : Hid (D8 ((w1.alloc (.cells #[] 30)).alloc (.cells #[] 46)) w B a len cap w.heap.size (w1.heap.size + 2) (some ⟨w1.heap.size, 0, none⟩) 0 [] (.slice (some ⟨w1.heap.size + 1, 0, none⟩) 0 0) []) := D8.start hc hc1 hg1
  obtain ⟨T, rfl⟩ : ∃ T : Nat, x = (T : Int) := Int.eq_ofNat_of_zero_le hx0
  obtain ⟨N, hN⟩ : ∃ N, w.heap.size = N := ⟨_, rfl⟩
  rw [hN] at HD0
  clear hc0 hc1 hg1 hx0
  have HN : Hid (w.heap.size = N) := hN
  go_wp2
  go_loopw [5, 6, 7] (fun lv cv iv wr => ∃ (L i : Nat) (la : Option Addr) (lc : Nat) (ys : List PV) (ca : Option Addr) (cc : Nat) (cs : List Nd), lv = .slice la ys.length lc ∧ cv = .slice ca cs.length cc ∧ iv = .int .i64 (i : Int) ∧ i ≤ T + 1 ∧ Hid (ys.length = i) ∧ Hid (cs.length ≤ 3 * i) ∧ Hid (D8 wr w B a len cap N L la lc ys (.slice ca cs.length cc) cs)) (fun _ _ iv _ => T + 1 - (intOf iv).toNat)
  case atStart => exact ⟨_, 0, _, 0, [], _, 0, [], rfl, rfl, rfl, by omega, (rfl : ([] : List PV).length = 0), (Nat.zero_le _ : ([] : List Nd).length ≤ 3 * 0), HD0⟩
  case round =>
    obtain ⟨L, i, la, lc, ys, ca, cc, cs, rfl, rfl, rfl, hi, HY, HC, HD⟩ := hrel
    clear HD0
    by_cases hiT : (i : Int) ≤ (T : Int)
    rotate_left
    · obtain rfl : i = T + 1 := by omega
      go_wp2
      go_ret
      exact ⟨L, la, lc, ys, rfl, ⟨_, cs, HD.out⟩, by have := HY.out; omega, by have := HY.out; omega⟩
    · obtain ⟨W, hW⟩ : ∃ W, W = wr := ⟨_, rfl⟩
      subst hW
      go_upto_if 27 with fail
      go_cut [8] from 27 to 108 (fun v wx => ∃ nm : List UInt8, v = .string ⟨nm.toArray⟩ ∧ nm.length ≤ 9 ∧ W = wx)
      case first =>
        by_cases hit : (i : Int) < (T : Int)
        · obtain ⟨x, hx, c0⟩ := HD.out.name (k := i) (by omega)
          have hi3 : (i : Int) < 3 := by omega
          go_wp2
          go_meet
          case rel => exact ⟨x, rfl, hx, rfl⟩
        · go_wp2
          go_meet
          case rel => exact ⟨[109, 97, 105, 110], rfl, by simp, rfl⟩
      case rest =>
        obtain ⟨nm, rfl, hnm, rfl⟩ := hcut
        have HD1 : Hid (D8 ((W.alloc (.cells #[] 9)).alloc (.cells #[] 46)) w B a len cap N W.heap.size la lc ys (.slice ca cs.length cc) cs) := (HD.out.raise HD.out.ls (Nat.le_refl _)).below (((Below.refl _ _).alloc (Nat.le_refl _) _).alloc (by simp) _)
        have HI1 : Hid (I8 ((W.alloc (.cells #[] 9)).alloc (.cells #[] 46)) W.heap.size (.slice (some ⟨W.heap.size, 0, none⟩) 0 0) [] (.slice (some ⟨W.heap.size + 1, 0, none⟩) 0 0) []) := I8.start W
        clear HD
        go_wp2
        go_loopw [9, 10, 11] (fun iv ov kv wx => ∃ (ia : Option Addr) (ic : Nat) (ims : List (List UInt8)) (oa : Option Addr) (oc : Nat) (os : List Nd) (k : Nat), iv = .slice ia ims.length ic ∧ ov = .slice oa os.length oc ∧ kv = .int .i64 (k : Int) ∧ k ≤ i ∧ Hid (ims.length ≤ k) ∧ Hid (os.length ≤ 9 * k) ∧ Hid (D8 wx w B a len cap N W.heap.size la lc ys (.slice ca cs.length cc) cs) ∧ Hid (I8 wx W.heap.size (.slice ia ims.length ic) ims (.slice oa os.length oc) os)) (fun _ _ kv _ => i - (intOf kv).toNat)
        case atStart => exact ⟨_, 0, [], _, 0, [], 0, rfl, rfl, rfl, by omega, (Nat.le_refl _ : ([] : List (List UInt8)).length ≤ 0), (Nat.zero_le _ : ([] : List Nd).length ≤ 9 * 0), HD1, HI1⟩
        case round =>
          obtain ⟨ia, ic, ims, oa, oc, os, k, rfl, rfl, rfl, hk, HIL, HOL, HD2, HI2⟩ := hrel
          clear HD1 HI1
          obtain ⟨X, hX⟩ : ∃ X, X = wr := ⟨_, rfl⟩
          subst hX
          by_cases hki : (k : Int) < (i : Int)
          · have hkT : (k : Int) < (T : Int) := by omega
            go_wp2_with fail
            refine (drawOnce X B a len cap 2 (by omega) (by omega) HD2.out.cur).mono ?_
            rintro e w3 ⟨b3, rfl, hc3, hg3⟩
            have HD3 : Hid (D8 w3 w B a len cap N W.heap.size la lc ys (.slice ca cs.length cc) cs) := HD2.out.next hg3 hc3
            have HI3 : Hid (I8 w3 W.heap.size (.slice ia ims.length ic) ims (.slice oa os.length oc) os) := HI2.out.next hg3 (by have := HD2.out.br; have := HD2.out.wl; omega)
            clear hc3 hg3 HD2 HI2
            rcases b3 with _ | _
            · go_wp2
              go_roundw
              case rel => exact ⟨ia, ic, ims, oa, oc, os, k + 1, rfl, rfl, by go_num, by omega, Nat.le_succ_of_le HIL.out, Nat.le_trans HOL.out (by omega), HD3, HI3⟩
              case measure => simp [intOf]; omega
            · obtain ⟨x, hx, c0⟩ := HD3.out.name (k := k) (by omega)
              obtain ⟨v4, w4, hr4, hI4, hg4⟩ := HI3.out.imp x hx HD3.out.ls (by have := HIL.out; omega)
              have HD4 : Hid (D8 w4 w B a len cap N W.heap.size la lc ys (.slice ca cs.length cc) cs) := HD3.out.upper hg4 (fun q e => (HI3.out.im.lt q e).1)
              obtain ⟨ia4, ic4, rfl, _, _⟩ := own_texts0 hI4.im
              obtain ⟨im4, him4⟩ : ∃ im4, ims ++ [x] = im4 := ⟨_, rfl⟩
              have HIL4 : Hid (im4.length ≤ k + 1) := by exact (by rw [← him4, List.length_append, List.length_singleton]; have := HIL.out; omega : im4.length ≤ k + 1)
              rw [him4] at hr4 hI4
              have HI4 : Hid (I8 w4 W.heap.size (.slice ia4 im4.length ic4) im4 (.slice oa os.length oc) os) := hI4
              have hk3 : (k : Int) < 3 := by omega
              clear him4 hI4 hg4 HI3 HD3 HIL
              go_wp2_with (at_builtin; refine wpList_append_run rfl (.tmp 46) (.tmp 51) 27 rfl _ _ _ rfl rfl hr4 ?_; clear hr4)
              go_loopw [10, 12] (fun ov jv wy => ∃ (oa : Option Addr) (oc : Nat) (os : List Nd) (j : Nat), ov = .slice oa os.length oc ∧ jv = .int .i64 (j : Int) ∧ j ≤ cs.length ∧ Hid (os.length ≤ 9 * k + j) ∧ Hid (D8 wy w B a len cap N W.heap.size la lc ys (.slice ca cs.length cc) cs) ∧ Hid (I8 wy W.heap.size (.slice ia4 im4.length ic4) im4 (.slice oa os.length oc) os)) (fun _ jv _ => cs.length - (intOf jv).toNat)
              case atStart => exact ⟨oa, oc, os, 0, rfl, rfl, by omega, HOL, HD4, HI4⟩
              case round =>
                obtain ⟨oa, oc, os, j, rfl, rfl, hj, HOL, HD5, HI5⟩ := hrel
                clear HD4 HI4
                obtain ⟨X5, hX5⟩ : ∃ X, X = wr := ⟨_, rfl⟩
                subst hX5
                have hcl := HC.out
                by_cases hjl : (j : Int) < (cs.length : Int)
                · obtain ⟨x5, hx5, c5⟩ := HD5.out.name (k := k) (by omega)
                  obtain ⟨_, _, e0, _, hin⟩ := own_nodes0 HD5.out.cal
                  injection e0 with e0 _ e2
                  subst e0
                  subst e2
                  obtain ⟨cb, co, hca, _, hcells⟩ := hin.at (by omega)
                  subst hca
                  obtain ⟨q0, q1, q2, q3⟩ := hcells j (by omega)
                  have hm : cs.getD j nd0 ∈ cs := by simp [List.getD, show j < cs.length by omega]
                  have hsm := HD5.out.csm.1 _ hm
                  have hkd := HD5.out.csm.2 _ hm
                  obtain ⟨n5, hn5⟩ : ∃ n, cs.getD j nd0 = n := ⟨_, rfl⟩
                  rw [hn5] at q0 q1 q2 q3 hsm hkd
                  obtain ⟨kd5, a5, p5, f5⟩ := n5
                  simp only at q0 q1 q2 q3
                  clear hn5 hcells hin hm
                  rcases hb : (p5 == x5) with _ | _
                  · go_wp2_with fail
                    go_quiet (fail)
                    go_wp2
                    go_roundw
                    case rel => exact ⟨oa, oc, os, j + 1, rfl, by go_num, by omega, Nat.le_succ_of_le HOL.out, HD5.out.upper (row := none) ⟨rfl, rfl, rfl, Nat.le_refl _, fun _ _ _ => rfl⟩ (by simp), HI5.out.below ⟨rfl, rfl, rfl, Nat.le_refl _, fun _ _ => rfl⟩⟩
                    case measure => simp [intOf]; omega
                  · go_wp2_with fail
                    go_quiet (fail)
                    generalize hX6 : X5.drewN _ = X6
                    have HD6 : Hid (D8 X6 w B a len cap N W.heap.size la lc ys (.slice (some ⟨cb, co, none⟩) cs.length cc) cs) := by exact (by rw [← hX6]; exact HD5.out.upper (row := none) ⟨rfl, rfl, rfl, Nat.le_refl _, fun _ _ _ => rfl⟩ (by simp) : D8 X6 w B a len cap N W.heap.size la lc ys (.slice (some ⟨cb, co, none⟩) cs.length cc) cs)
                    have hI6 : I8 X6 W.heap.size (.slice ia4 im4.length ic4) im4 (.slice oa os.length oc) os := by rw [← hX6]; exact HI5.out.below ⟨rfl, rfl, rfl, Nat.le_refl _, fun _ _ => rfl⟩
                    have s0 : X6.cell? ⟨cb, co + j * 4, none⟩ = some (.int .i64 kd5) := by rw [← hX6]; exact q0
                    have s1 : X6.cell? ⟨cb, co + j * 4 + 1, none⟩ = some (.int .i64 a5) := by rw [← hX6]; exact q1
                    have s2 : X6.cell? ⟨cb, co + j * 4 + 2, none⟩ = some (.string ⟨p5.toArray⟩) := by rw [← hX6]; exact q2
                    have s3 : X6.cell? ⟨cb, co + j * 4 + 3, none⟩ = some (.string ⟨f5.toArray⟩) := by rw [← hX6]; exact q3
                    obtain ⟨v7, w7, hr7, hI7, hg7⟩ := hI6.node (kd5, a5, p5, f5) hsm hkd HD6.out.ls (by have := HOL.out; omega)
                    have HD7 : Hid (D8 w7 w B a len cap N W.heap.size la lc ys (.slice (some ⟨cb, co, none⟩) cs.length cc) cs) := HD6.out.upper hg7 (fun q e => (hI6.ow.lt q e).1)
                    obtain ⟨oa7, oc7, rfl, _, _⟩ := own_nodes0 hI7.ow
                    obtain ⟨os7, hos7⟩ : ∃ os7, os ++ [((kd5, a5, p5, f5) : Nd)] = os7 := ⟨_, rfl⟩
                    have HOL7 : Hid (os7.length ≤ 9 * k + (j + 1)) := by exact (by rw [← hos7, List.length_append, List.length_singleton]; have := HOL.out; omega : os7.length ≤ 9 * k + (j + 1))
                    rw [hos7] at hr7 hI7
                    simp only at hr7
                    have HI7 : Hid (I8 w7 W.heap.size (.slice ia4 im4.length ic4) im4 (.slice oa7 os7.length oc7) os7) := hI7
                    clear hX6 hos7 hI7 hg7 hI6 HD6 HD5 HI5 HOL q0 q1 q2 q3 c5 hb
                    go_wp2_with (at_builtin; refine wpList_append_run rfl (.tmp 69) (.tmp 74) 24 rfl _ _ _ rfl rfl hr7 ?_; clear hr7)
                    go_roundw
                    case rel => exact ⟨oa7, oc7, os7, j + 1, rfl, by go_num, by omega, HOL7, HD7, HI7⟩
                    case measure => simp [intOf]; omega
                · go_wp2
                  go_roundw
                  case rel => exact ⟨ia4, ic4, im4, oa, oc, os, k + 1, rfl, rfl, by go_num, by omega, HIL4, Nat.le_trans HOL.out (by omega), HD5, HI5⟩
                  case measure => simp [intOf]; omega
          · obtain ⟨_, _, e0, hcc, hin⟩ := own_nodes0 HI2.out.ow
            injection e0 with e0 _ e2
            subst e0
            subst e2
            go_wp2_with fail
            refine (drawPk X B a len cap nm ia ims.length ic _ os.length _ os HD2.out.cur hnm hin hcc (by have := HOL.out; omega) HI2.out.osm.1 HI2.out.osm.2).mono ?_
            rintro e w3 ⟨fa, fc, xs, rfl, hfo, hxl, hxd, hc3, hg3⟩
            go_upto_region 24 with fail
            obtain ⟨gF, cF, hF⟩ := own_some hfo.row (by omega)
            injection hF with e1 e2 e3
            subst e1
            clear e2 e3
            obtain ⟨hbx, hbZ⟩ := Box3.new w3 (.string ⟨nm.toArray⟩) (.slice ia ims.length ic) (.slice (some ⟨gF, 0, none⟩) xs.length fc) 30
            have hE0 := E8.start HD2.out HI2.out hg3 hc3 hfo hxl hxd hnm (by have := HIL.out; omega) hbZ hbx
            generalize w3.alloc (.cells #[.string ⟨nm.toArray⟩, .slice ia ims.length ic, .slice (some ⟨gF, 0, none⟩) xs.length fc] 30) = Z at hE0 ⊢
            obtain ⟨P, hP⟩ : ∃ P, w3.heap.size = P := ⟨_, rfl⟩
            rw [hP] at hE0 ⊢
            have HE0 : Hid (E8 Z w B a len cap N la lc ys (.slice ca cs.length cc) cs ⟨nm, ims, xs, ia, ic, some ⟨gF, 0, none⟩, fc, W.heap.size, P⟩ P) := hE0
            clear hE0 hbx hbZ hP hfo hxd hc3 hg3 hin hcc HD2 HI2
            have HC0 : Hid (cs.length ≤ 3 * i + 0) := HC.out
            go_wp2
            go_loopw [6, 14] (fun cv kv wz => ∃ (ca : Option Addr) (cc : Nat) (cs : List Nd) (j : Nat), cv = .slice ca cs.length cc ∧ kv = .int .i64 (j : Int) ∧ j ≤ xs.length ∧ Hid (cs.length ≤ 3 * i + j) ∧ Hid (E8 wz w B a len cap N la lc ys (.slice ca cs.length cc) cs ⟨nm, ims, xs, ia, ic, some ⟨gF, 0, none⟩, fc, W.heap.size, P⟩ P)) (fun _ kv _ => xs.length - (intOf kv).toNat)
            case atStart => exact ⟨ca, cc, cs, 0, rfl, rfl, by omega, HC0, HE0⟩
            case round =>
              obtain ⟨ca, cc, cs, j, rfl, rfl, hj, HC4, HE4⟩ := hrel
              clear HE0 HC0 HC
              obtain ⟨Z4, hZ4⟩ : ∃ X, X = wr := ⟨_, rfl⟩
              subst hZ4
              have p0 : Z4.cell? ⟨P, 0, none⟩ = some (.string ⟨nm.toArray⟩) := HE4.out.box.c0
              have p1 : Z4.cell? ⟨P, 1, none⟩ = some (.slice ia ims.length ic) := HE4.out.box.c1
              have p2 : Z4.cell? ⟨P, 2, none⟩ = some (.slice (some ⟨gF, 0, none⟩) xs.length fc) := HE4.out.box.c2
              by_cases hjl : (j : Int) < (xs.length : Int)
              · obtain ⟨s, z, c0, c1, hs, hz0, hz1⟩ := HE4.out.fn (g := gF) rfl (show j < xs.length by omega)
                obtain ⟨v', Y, hr, hEY⟩ := HE4.out.drew.call ((8, z, nm, s) : Nd) ⟨⟨⟨by simp, by simp⟩, ⟨by simp only; omega, by simp only; omega⟩⟩, hnm, hs⟩ (by simp [kidsV]; omega) (by have := HC4.out; omega)
                obtain ⟨L', hdY⟩ := hEY.d
                obtain ⟨ca', cc', rfl, _, _⟩ := own_nodes0 hdY.cal
                obtain ⟨cs', hcs'⟩ : ∃ cs', cs ++ [((8, z, nm, s) : Nd)] = cs' := ⟨_, rfl⟩
                have HC5 : Hid (cs'.length ≤ 3 * i + (j + 1)) := by exact (by rw [← hcs', List.length_append, List.length_singleton]; have := HC4.out; omega : cs'.length ≤ 3 * i + (j + 1))
                rw [hcs'] at hr hEY
                change (Builtin.append_ #[24, 24] 24 #[.slice ca cs.length cc, .slice (some ⟨Z4.heap.size, 0, none⟩) 1 1]).run Tryz.prog (Z4.alloc (.cells #[.int .i64 8, .int .i64 z, .string ⟨nm.toArray⟩, .string ⟨s.toArray⟩] 46)).drew = _ at hr
                have HE5 : Hid (E8 Y w B a len cap N la lc ys (.slice ca' cs'.length cc') cs' ⟨nm, ims, xs, ia, ic, some ⟨gF, 0, none⟩, fc, W.heap.size, P⟩ P) := hEY
                clear hEY hdY hcs' HE4 HC4 p0 p1
                go_wp2_with fail
                go_region_law (first | (refine step_append_run (by rfl) (.tmp 88) (.tmp 103) 24 (by rfl) _ _ _ (by rfl) (by rfl) hr ?_))
                all_goals
                  go_wp2
                  go_roundw
                  case rel => exact ⟨ca', cc', cs', j + 1, rfl, by go_num, by omega, HC5, HE5⟩
                  case measure => simp [intOf]; omega
              · obtain ⟨g', c', Y, L', hr, hdY⟩ := HE4.out.push (by have := HY.out; omega)
                obtain ⟨ys', hys'⟩ : ∃ ys', ys ++ [(⟨nm, ims, xs, ia, ic, some ⟨gF, 0, none⟩, fc, W.heap.size, P⟩ : PV)] = ys' := ⟨_, rfl⟩
                have e5 : ys.length + 1 = ys'.length := by rw [← hys', List.length_append, List.length_singleton]
                have HY5 : Hid (ys'.length = i + 1) := by exact (by rw [← e5, HY.out] : ys'.length = i + 1)
                rw [e5] at hr
                rw [hys'] at hdY
                change (Builtin.append_ #[37, 37] 37 #[.slice la ys.length lc, .slice (some ⟨Z4.heap.size, 0, none⟩) 1 1]).run Tryz.prog (Z4.alloc (.cells #[.string ⟨nm.toArray⟩, .slice ia ims.length ic, .slice (some ⟨gF, 0, none⟩) xs.length fc] 30)) = _ at hr
                have HD5 : Hid (D8 Y w B a len cap N L' (some ⟨g', 0, none⟩) c' ys' (.slice ca cs.length cc) cs) := hdY
                have HC5 : Hid (cs.length ≤ 3 * (i + 1)) := by exact (by have := HC4.out; omega : cs.length ≤ 3 * (i + 1))
                clear hdY hys' e5 HE4 HC4
                go_wp2_with (at_builtin; refine wpList_append_run rfl (.tmp 105) (.tmp 107) 37 rfl _ _ _ rfl rfl hr ?_; clear hr)
                go_roundw
                case rel => exact ⟨L', i + 1, _, c', ys', ca, cc, cs, rfl, rfl, by go_num, by omega, HY5, HC5, HD5⟩
                case measure => simp [intOf]; omega

end Go.Proofs.YtkjojhkpoooimaaGreat

/-! What l8DrawAny holds: a project of which one package may be changed. -/
namespace Go.Proofs.YtkjojhkpoooimaaGreat
open Go.RowKit

theorem pvsV_nm (ys : List PV) (j : Nat) (x : List UInt8) : (pvsV ys).set (j * 3) (.string ⟨x.toArray⟩) = pvsV (ys.set j { ys.getD j pv0 with nm := x }) := by
  induction ys generalizing j with
  | nil => simp [pvsV]
  | cons b r ih =>
    cases j with
    | zero => simp [pvsV, pvI, pvF]
    | succ j => rw [show (j + 1) * 3 = j * 3 + 1 + 1 + 1 by omega]; simp [pvsV, ih]
theorem pvsV_im (ys : List PV) (j : Nat) (ia : Option Addr) (ic : Nat) (ims : List (List UInt8)) : (pvsV ys).set (j * 3 + 1) (.slice ia ims.length ic) = pvsV (ys.set j { ys.getD j pv0 with ia := ia, ic := ic, ims := ims }) := by
  induction ys generalizing j with
  | nil => simp [pvsV]
  | cons b r ih =>
    cases j with
    | zero => simp [pvsV, pvI, pvF]
    | succ j => rw [show (j + 1) * 3 + 1 = j * 3 + 1 + 1 + 1 + 1 by omega]; simp [pvsV, ih]
theorem pvsV_xs (ys : List PV) (j : Nat) (xs : List FV) (h : xs.length = (ys.getD j pv0).xs.length) : pvsV ys = pvsV (ys.set j { ys.getD j pv0 with xs := xs }) := by
  induction ys generalizing j with
  | nil => simp [pvsV]
  | cons b r ih =>
    cases j with
    | zero => simp at h; simp [pvsV, pvI, pvF, h]
    | succ j => simp at h; simp [pvsV]; exact ih j (by simpa using h)

/-- A package of it. -/
structure Y8 (X : World) (base : Nat) (y : PV) : Prop where
  im : X.ownsRow base 9 1 (pvI y) y.ims.length (strV y.ims)
  fo : FnsOwn X base (pvF y) y.xs
  sm : SmallXs y.xs
  n : 1 ≤ y.xs.length ∧ y.xs.length ≤ 3
  nm : y.nm.length ≤ 9
  is : y.ims.length ≤ 9 ∧ ∀ t ∈ y.ims, t.length ≤ 9
structure Q8 (X w : World) (B : Nat) (a : Option Addr) (len cap : Nat) (g lc : Nat) (ys : List PV) : Prop where
  row : X.ownsRow w.heap.size 30 3 (.slice (some ⟨g, 0, none⟩) ys.length lc) ys.length (pvsV ys)
  each : ∀ y ∈ ys, Y8 X w.heap.size y
  cur : Cur X B a len cap
  g : w.grownBy X (some B)
  br : B < w.heap.size
  n : 1 ≤ ys.length ∧ ys.length ≤ 4
/-- The rows of functions lie apart, and every package has a row of imports. -/
structure A8 (ys : List PV) : Prop where
  ap : ∀ i j, i < ys.length → j < ys.length → i ≠ j → (pvF (ys.getD i pv0)).ownBlock ≠ (pvF (ys.getD j pv0)).ownBlock
  sa : ∀ y ∈ ys, ∃ g, y.ia = some ⟨g, 0, none⟩
  il : ∀ y ∈ ys, y.ims.length ≤ 8

theorem Y8.kept {X Y : World} {base : Nat} {y : PV} {row : Option Nat} (h : Y8 X base y) (hg : X.grownBy Y row) (h1 : (pvI y).ownBlock = none ∨ (pvI y).ownBlock ≠ row) (h2 : (pvF y).ownBlock = none ∨ (pvF y).ownBlock ≠ row) (h3 : ∀ x ∈ y.xs, (fvT x).ownBlock = none ∨ (fvT x).ownBlock ≠ row) : Y8 Y base y :=
  ⟨h.im.kept hg h1, h.fo.kept hg h2 h3, h.sm, h.n, h.nm, h.is⟩
theorem Y8.pk {X Y : World} {base b2 n : Nat} {v : Value} {zs : List Value} {y : PV} (h : Y8 X base y) (ho : X.ownsRow b2 30 3 v n zs) (hg : X.grownBy Y v.ownBlock) : Y8 Y base y :=
  h.kept hg (own_types h.im ho (by decide)) (own_types h.fo.row ho (by decide)) (fun x hx => own_types (h.fo.trees x hx) ho (by decide))
section
variable {X Y w : World} {B : Nat} {a : Option Addr} {len cap g lc : Nat} {ys : List PV}
theorem Q8.next (h : Q8 X w B a len cap g lc ys) (hg : X.grownBy Y (some B)) (hc : Cur Y B a len cap) : Q8 Y w B a len cap g lc ys := by
  have hbr := h.br
  have hlt : ∀ k, some B = some k → k < w.heap.size := fun k e => by injection e with e; omega
  exact ⟨own_grown h.row hg hlt, fun y hy => ⟨own_grown (h.each y hy).im hg hlt, (h.each y hy).fo.grown hg hlt, (h.each y hy).sm, (h.each y hy).n, (h.each y hy).nm, (h.each y hy).is⟩, hc, h.g.trans hg, hbr, h.n⟩
theorem Q8.made (h : Q8 X w B a len cap g lc ys) (hg : X.grownBy Y none) : Q8 Y w B a len cap g lc ys :=
  ⟨own_none h.row hg, fun y hy => ⟨own_none (h.each y hy).im hg, (h.each y hy).fo.none hg, (h.each y hy).sm, (h.each y hy).n, (h.each y hy).nm, (h.each y hy).is⟩, h.cur.kept hg (by simp), h.g.andThen hg (by simp), h.br, h.n⟩
theorem Q8.drew (h : Q8 X w B a len cap g lc ys) : Q8 X.drew w B a len cap g lc ys := h.made (grown_drew X none)
theorem Q8.alloc (h : Q8 X w B a len cap g lc ys) (o : Obj) : Q8 (X.alloc o) w B a len cap g lc ys := h.made (World.grownBy_alloc X o none)
theorem Q8.below (h : Q8 X w B a len cap g lc ys) (hb : Below X.heap.size X Y) : Q8 Y w B a len cap g lc ys := h.made (Below.by hb)

/-- From what l8Draw leaves. -/
theorem D8.q8 {N L : Nat} {vc : Value} {cs : List Nd} (h : D8 X w B a len cap N L (some ⟨g, 0, none⟩) lc ys vc cs) (hn : 1 ≤ ys.length ∧ ys.length ≤ 4) : Q8 X w B a len cap g lc ys ∧ A8 ys := by
  refine ⟨⟨h.row, fun y hy => ?_, h.cur, h.g, h.br, hn⟩, ⟨fun i j hi hj hij => ?_, fun y hy => (h.each y hy).1.sa, fun y hy => (h.each y hy).1.im.1⟩⟩
  · obtain ⟨h1, h2, _⟩ := h.each y hy
    exact ⟨own_base h1.ok.im h2, h1.ok.fo.base h2, h1.sm.small, h1.n, h1.nm, ⟨by have := h1.im.1; omega, h1.im.2⟩⟩
  · have key : ∀ i j, i < j → j < ys.length → (pvF (ys.getD i pv0)).ownBlock ≠ (pvF (ys.getD j pv0)).ownBlock := fun i j hij hj e => by
      have hi : i < ys.length := by omega
      have e1 : ys.getD i pv0 = ys[i] := by simp [List.getD, hi]
      have e2 : ys.getD j pv0 = ys[j] := by simp [List.getD, hj]
      rw [e1, e2] at e
      have hs := List.pairwise_iff_getElem.1 h.seq i j hi hj hij
      have hy := (h.each ys[i] (List.getElem_mem hi)).1
      have hz := (h.each ys[j] (List.getElem_mem hj)).1
      obtain ⟨k1, c1, e3⟩ := own_some hy.ok.fo.row (by have := hy.n; omega)
      have b1 : (pvF ys[i]).ownBlock = some k1 := by rw [e3]; rfl
      have b2 := b1
      rw [e] at b2
      have t1 := hy.ok.top k1 (Or.inr (Or.inl b1))
      have t2 := (hz.ok.fo.row.lt k1 b2).1
      omega
    rcases Nat.lt_or_gt_of_ne hij with h1 | h1
    · exact key i j h1 hj
    · exact fun e => key j i h1 hi e.symm

theorem set_each {P : PV → Prop} {y : PV} {j : Nat} (h : ∀ z ∈ ys, P z) (hy : P y) : ∀ z ∈ ys.set j y, P z := fun z hz => by
  rcases List.mem_or_eq_of_mem_set hz with h1 | rfl
  · exact h z h1
  · exact hy
theorem Q8.at (h : Q8 X w B a len cap g lc ys) {j : Nat} (hj : j < ys.length) : Y8 X w.heap.size (ys.getD j pv0) := h.each _ (by simp [List.getD, hj])
theorem Q8.keep (h : Q8 X w B a len cap g lc ys) {row : Option Nat} (hg : X.grownBy Y row) (hr : ∀ k, row = some k → w.heap.size ≤ k) : Cur Y B a len cap ∧ w.grownBy Y (some B) := by
  have hbr := h.br
  exact ⟨h.cur.kept hg (fun k e => by have := hr k e; omega), h.g.andThen hg (fun k e => Or.inl (hr k e))⟩

/-- The name of a package is written. -/
theorem Q8.name (h : Q8 X w B a len cap g lc ys) {j : Nat} (hj : j < ys.length) (x : List UInt8) (hx : x.length ≤ 9) : Q8 (X.setCell ⟨g, j * 3, none⟩ (.string ⟨x.toArray⟩)) w B a len cap g lc (ys.set j { ys.getD j pv0 with nm := x }) := by
  obtain ⟨hr, hg⟩ := h.row.stored (j * 3) (.string ⟨x.toArray⟩)
  have hy := h.at hj
  obtain ⟨hc, hgw⟩ := h.keep hg (fun k e => (h.row.lt k (by rw [← e]; rfl)).1)
  have hl : (ys.set j { ys.getD j pv0 with nm := x }).length = ys.length := by simp
  refine ⟨by rw [hl, ← pvsV_nm]; exact hr, set_each (fun z hz => (h.each z hz).pk h.row hg) ?_, hc, hgw, h.br, by rw [hl]; exact h.n⟩
  have h2 := hy.pk h.row hg
  exact ⟨h2.im, h2.fo, h2.sm, h2.n, hx, h2.is⟩
/-- The imports of a package are put in their place. -/
theorem Q8.imps (h : Q8 X w B a len cap g lc ys) {j : Nat} (hj : j < ys.length) {ia : Option Addr} {ic : Nat} {ims : List (List UInt8)} (hi : X.ownsRow w.heap.size 9 1 (.slice ia ims.length ic) ims.length (strV ims)) (hs : ims.length ≤ 9 ∧ ∀ t ∈ ims, t.length ≤ 9) : Q8 (X.setCell ⟨g, j * 3 + 1, none⟩ (.slice ia ims.length ic)) w B a len cap g lc (ys.set j { ys.getD j pv0 with ia := ia, ic := ic, ims := ims }) := by
  obtain ⟨hr, hg⟩ := h.row.stored (j * 3 + 1) (.slice ia ims.length ic)
  have hy := h.at hj
  obtain ⟨hc, hgw⟩ := h.keep hg (fun k e => (h.row.lt k (by rw [← e]; rfl)).1)
  have hl : (ys.set j { ys.getD j pv0 with ia := ia, ic := ic, ims := ims }).length = ys.length := by simp
  refine ⟨by rw [hl, ← pvsV_im]; exact hr, set_each (fun z hz => (h.each z hz).pk h.row hg) ?_, hc, hgw, h.br, by rw [hl]; exact h.n⟩
  have h2 := hy.pk h.row hg
  exact ⟨hi.kept hg (own_types hi h.row (by decide)), h2.fo, h2.sm, h2.n, h2.nm, hs⟩
end

end Go.Proofs.YtkjojhkpoooimaaGreat

/-! What l8DrawAny holds, and what it leaves. -/
namespace Go.Proofs.YtkjojhkpoooimaaGreat
open Go.RowKit

theorem ims8_short {ims : List (List UInt8)} (h : ∀ t ∈ ims, t.length ≤ 9) (i : Nat) : (ims.getD i []).length ≤ 1048576 := by
  rw [List.getD_eq_getElem?_getD]
  cases hj : ims[i]? with
  | none => simp
  | some t => exact Nat.le_trans (h t (List.mem_of_getElem? hj)) (by omega)
theorem xs8_fn {xs : List FV} (h : SmallXs xs) (j : Nat) : SmallFn ((xs.map (·.1)).getD j fn0) := by
  rw [List.getD_eq_getElem?_getD, List.getElem?_map]
  cases hj : xs[j]? with
  | none => exact ⟨by decide, ⟨by decide, by decide⟩, by decide, fun n hn => by cases hn⟩
  | some t => exact h t (List.mem_of_getElem? hj)
theorem xs8_short {xs : List FV} (h : SmallXs xs) : ShortF (xs.map (·.1)) := fun j =>
  have hs := xs8_fn h j
  ⟨Nat.le_trans hs.1 (by omega), Nat.le_trans hs.2.2.1 (by omega), hs.2.2.2.short⟩
theorem xs8_int {xs : List FV} (h : SmallXs xs) : IntF (xs.map (·.1)) := fun j =>
  have hs := xs8_fn h j
  ⟨⟨by have := hs.2.1; omega, by have := hs.2.1; omega⟩, hs.2.2.2.int⟩
theorem xs8_set {xs : List FV} {x : FV} (h : SmallXs xs) (hx : SmallFn x.1) : SmallXs (xs.set 0 x) := fun t ht => (List.mem_or_eq_of_mem_set ht).elim (h t) (fun e => by rw [e]; exact hx)
theorem first8 {xs : List FV} (h : 1 ≤ xs.length) : xs.getD 0 fv0 ∈ xs := by
  cases xs with
  | nil => simp at h
  | cons z r => simp

section
variable {X Y w : World} {B : Nat} {a : Option Addr} {len cap g lc : Nat} {ys : List PV}
/-- The functions of a package are written over. -/
theorem Q8.fns (h : Q8 X w B a len cap g lc ys) (hA : A8 ys) {j : Nat} (hj : j < ys.length) {xs : List FV} (hg : X.grownBy Y (pvF (ys.getD j pv0)).ownBlock) (hf : FnsOwn Y w.heap.size (pvF { ys.getD j pv0 with xs := xs }) xs) (hl : xs.length = (ys.getD j pv0).xs.length) (hs : SmallXs xs) : Q8 Y w B a len cap g lc (ys.set j { ys.getD j pv0 with xs := xs }) := by
  have hy := h.at hj
  obtain ⟨hc, hgw⟩ := h.keep hg (fun k e => (hy.fo.row.lt k e).1)
  have hll : (ys.set j { ys.getD j pv0 with xs := xs }).length = ys.length := by simp
  refine ⟨by rw [hll, ← pvsV_xs ys j xs hl]; exact h.row.kept hg (own_types h.row hy.fo.row (by decide)), fun z hz => ?_, hc, hgw, h.br, by rw [hll]; exact h.n⟩
  obtain ⟨i, hi, rfl⟩ := List.mem_iff_getElem.1 hz
  rw [List.getElem_set]
  rw [hll] at hi
  split
  · exact ⟨hy.im.kept hg (own_types hy.im hy.fo.row (by decide)), hf, hs, by show 1 ≤ xs.length ∧ xs.length ≤ 3; rw [hl]; exact hy.n, hy.nm, hy.is⟩
  · rename_i hij
    have hz2 := h.each ys[i] (List.getElem_mem hi)
    have e1 : ys.getD i pv0 = ys[i] := by simp [List.getD, hi]
    have hap := hA.ap i j hi hj (fun e => hij e.symm)
    rw [e1] at hap
    exact hz2.kept hg (own_types hz2.im hy.fo.row (by decide)) (Or.inr hap) (fun x hx => own_types (hz2.fo.trees x hx) hy.fo.row (by decide))
theorem Q8.fn0 (h : Q8 X w B a len cap g lc ys) {j : Nat} (hj : j < ys.length) : ∃ gF, (ys.getD j pv0).fa = some ⟨gF, 0, none⟩ := by
  have hy := h.at hj
  obtain ⟨gF, c, e⟩ := own_some hy.fo.row (by have := hy.n; omega)
  unfold pvF at e
  injection e with e
  exact ⟨gF, e⟩
theorem Q8.args (h : Q8 X w B a len cap g lc ys) (hA : A8 ys) {j : Nat} (hj : j < ys.length) {gF : Nat} (hF : (ys.getD j pv0).fa = some ⟨gF, 0, none⟩) (y : Int) (hy0 : -10 ≤ y ∧ y ≤ 10) : ∃ ys', ys'.length = ys.length ∧ Q8 (X.setCell ⟨gF, 1, none⟩ (.int .i64 y)) w B a len cap g lc ys' := by
  have hy := h.at hj
  have hb : (pvF (ys.getD j pv0)).ownBlock = some gF := by unfold pvF; rw [hF]; rfl
  have hfo := hy.fo
  have hF2 : pvF (ys.getD j pv0) = .slice (some ⟨gF, 0, none⟩) (ys.getD j pv0).xs.length (ys.getD j pv0).fc := by unfold pvF; rw [hF]
  rw [hF2] at hfo
  obtain ⟨hr, hg⟩ := hfo.row.stored 1 (.int .i64 y)
  have hn := hy.n
  have hsm := hy.sm
  refine ⟨_, ?_, h.fns hA hj (xs := (ys.getD j pv0).xs.set 0 ((((ys.getD j pv0).xs.getD 0 fv0).1.1, y, ((ys.getD j pv0).xs.getD 0 fv0).1.2.2), ((ys.getD j pv0).xs.getD 0 fv0).2)) (by rw [hb]; exact hg) ?_ (by simp) ?_⟩
  · simp
  · unfold pvF
    simp only [hF]
    revert hfo hr hn
    generalize (ys.getD j pv0).xs = xs
    intro hfo hr hn
    obtain ⟨z, r, rfl⟩ : ∃ z r, xs = z :: r := by cases xs with | nil => simp at hn | cons z r => exact ⟨z, r, rfl⟩
    refine ⟨hr, fun x hx => ?_⟩
    rcases List.mem_cons.1 hx with rfl | hx
    · exact (hfo.trees z (by simp)).kept hg (own_types (hfo.trees z (by simp)) hfo.row (by decide))
    · exact (hfo.trees x (by simp [hx])).kept hg (own_types (hfo.trees x (by simp [hx])) hfo.row (by decide))
  · have hz := hsm _ (first8 hn.1)
    exact xs8_set hsm ⟨hz.1, hy0, hz.2.2⟩
theorem Q8.tree (h : Q8 X w B a len cap g lc ys) (hA : A8 ys) {j : Nat} (hj : j < ys.length) {gF : Nat} (hF : (ys.getD j pv0).fa = some ⟨gF, 0, none⟩) (ta : Option Addr) (tc : Nat) (t : List Nd) (ho : X.ownsRow w.heap.size 46 4 (.slice ta t.length tc) t.length (nodesV t)) (ht : t.length ≤ 100) (hts : SmallT t) : ∃ ys', ys'.length = ys.length ∧ Q8 (X.setCell ⟨gF, 2, none⟩ (.slice ta t.length tc)) w B a len cap g lc ys' := by
  have hy := h.at hj
  have hb : (pvF (ys.getD j pv0)).ownBlock = some gF := by unfold pvF; rw [hF]; rfl
  have hfo := hy.fo
  have hF2 : pvF (ys.getD j pv0) = .slice (some ⟨gF, 0, none⟩) (ys.getD j pv0).xs.length (ys.getD j pv0).fc := by unfold pvF; rw [hF]
  rw [hF2] at hfo
  obtain ⟨hr, hg⟩ := hfo.row.stored 2 (.slice ta t.length tc)
  have hn := hy.n
  have hsm := hy.sm
  refine ⟨_, ?_, h.fns hA hj (xs := (ys.getD j pv0).xs.set 0 ((((ys.getD j pv0).xs.getD 0 fv0).1.1, ((ys.getD j pv0).xs.getD 0 fv0).1.2.1, t), ta, tc)) (by rw [hb]; exact hg) ?_ (by simp) ?_⟩
  · simp
  · unfold pvF
    simp only [hF]
    revert hfo hr hn
    generalize (ys.getD j pv0).xs = xs
    intro hfo hr hn
    obtain ⟨z, r, rfl⟩ : ∃ z r, xs = z :: r := by cases xs with | nil => simp at hn | cons z r => exact ⟨z, r, rfl⟩
    refine ⟨hr, fun x hx => ?_⟩
    rcases List.mem_cons.1 hx with rfl | hx
    · exact ho.kept hg (own_types ho hfo.row (by decide))
    · exact (hfo.trees x (by simp [hx])).kept hg (own_types (hfo.trees x (by simp [hx])) hfo.row (by decide))
  · have hz := hsm _ (first8 hn.1)
    exact xs8_set hsm ⟨hz.1, hz.2.1, ht, hts⟩

/-- What the landed functions are told of it. -/
theorem rows8_ok {base : Nat} (hrow : X.ownsRow base 30 3 (.slice (some ⟨g, 0, none⟩) ys.length lc) ys.length (pvsV ys)) (heach : ∀ y ∈ ys, Y8 X base y) (hn8 : 1 ≤ ys.length ∧ ys.length ≤ 4) : PkgsOk X (some ⟨g, 0, none⟩) ys.length lc (ys.map pvP) := by
  have hcap : ys.length ≤ lc := by
    rcases hrow.2 with ⟨e, _⟩ | ⟨g', cap', cur, e, _, _, hc, _⟩
    · cases e
    · injection e with _ _ e3; rw [e3]; exact hc
  refine ⟨by simp, (fun e => (by cases e)), hcap, by omega, fun j hj => ?_⟩
  obtain ⟨v0, v1, v2⟩ := pvsV_at ys j hj
  have hc := fun k (hk : k < ys.length * 3) => World.ownsRow.cellAt hrow k hk
  have hy := heach (ys.getD j pv0) (by simp [List.getD, hj])
  obtain ⟨ai, ci, af, cf, e1, e2, h3, h4, hti, hfi⟩ := own_pk hy.im hy.fo rfl
  have hn := hy.n
  have his := hy.is
  have hnm := hy.nm
  rw [getD_map_pv ys j]
  refine ⟨g, 0, rfl, (hrow.lt g rfl).2, ?_, ai, (ys.getD j pv0).ims.length, ci, af, ((ys.getD j pv0).xs.map (fun x : FV => x.1)).length, cf, ?_, ?_, ⟨hti, hfi, h3, h4, xs8_int hy.sm, by omega, by rw [List.length_map]; omega, by show (ys.getD j pv0).nm.length ≤ 1048576; omega, fun i => ims8_short his.2 i, xs8_short hy.sm⟩⟩
  · rw [Nat.zero_add, hc _ (by omega), v0]; rfl
  · rw [Nat.zero_add, hc _ (by omega), v1, e1]
  · rw [Nat.zero_add, hc _ (by omega), v2, e2]
theorem PkgsOk.take {w : World} {a : Option Addr} {len cap n : Nat} {ps : List Pk} (h : PkgsOk w a len cap ps) (hn : n ≤ len) : PkgsOk w a n cap (ps.take n) := by
  have hl := h.hlen
  have hc := h.hcap
  have hs := h.small
  refine ⟨by simp; omega, h.nil, by omega, by omega, fun j hj => ?_⟩
  have e : (ps.take n).getD j pk0 = ps.getD j pk0 := by simp [List.getD, hj]
  rw [e]
  exact h.each j (by omega)
theorem Q8.ok (h : Q8 X w B a len cap g lc ys) : PkgsOk X (some ⟨g, 0, none⟩) ys.length lc (ys.map pvP) := rows8_ok h.row h.each h.n
/-- From block b on one world is as the other was. -/
def Agree (X Y : World) (b : Nat) : Prop := X.heap.size ≤ Y.heap.size ∧ ∀ k, b ≤ k → k < X.heap.size → Y.heap[k]? = X.heap[k]?
theorem own_agree {X Y : World} {b base e size n : Nat} {v : Value} {xs : List Value} (h : X.ownsRow base e size v n xs) (hb : b ≤ base) (ha : Agree X Y b) : Y.ownsRow base e size v n xs := by
  refine ⟨h.1, ?_⟩
  rcases h.2 with hn | ⟨g, cap, cur, rfl, hbg, hgg, rest⟩
  · exact .inl hn
  · refine .inr ⟨g, cap, cur, rfl, hbg, ?_, rest⟩
    rw [ha.2 g (by omega) (Array.getElem?_eq_some_iff.1 hgg).1]
    exact hgg
theorem Agree.of_grown {X Y : World} {b B : Nat} (hg : X.grownBy Y (some B)) (hB : B < b) : Agree X Y b := ⟨hg.size, fun k hk hkl => hg.block k hkl (fun e => by injection e with e; omega)⟩
theorem Agree.refl (X : World) (b : Nat) : Agree X X b := ⟨Nat.le_refl _, fun _ _ _ => rfl⟩
theorem Q8.okA (h : Q8 X w B a len cap g lc ys) (ha : Agree X Y w.heap.size) : PkgsOk Y (some ⟨g, 0, none⟩) ys.length lc (ys.map pvP) :=
  rows8_ok (own_agree h.row (Nat.le_refl _) ha) (fun y hy => ⟨own_agree (h.each y hy).im (Nat.le_refl _) ha, ⟨own_agree (h.each y hy).fo.row (Nat.le_refl _) ha, fun x hx => own_agree ((h.each y hy).fo.trees x hx) (Nat.le_refl _) ha⟩, (h.each y hy).sm, (h.each y hy).n, (h.each y hy).nm, (h.each y hy).is⟩) h.n
/-- What l8DrawAny leaves. -/
def L8 (w wx : World) (B : Nat) (a : Option Addr) (len cap : Nat) (v : Value) : Prop :=
  ∃ la n lc ps, v = .slice la n lc ∧ (1 ≤ n ∧ n ≤ 4 ∧ ∀ b off, la = some ⟨b, off, none⟩ → w.heap.size ≤ b) ∧ (∀ Y, Agree wx Y w.heap.size → PkgsOk Y la n lc ps) ∧ Cur wx B a len cap ∧ w.grownBy wx (some B)
theorem Q8.l8 (h : Q8 X w B a len cap g lc ys) : L8 w X B a len cap (.slice (some ⟨g, 0, none⟩) ys.length lc) := ⟨_, _, _, _, rfl, ⟨h.n.1, h.n.2, fun b off e => by injection e with e; injection e with e _ _; have h1 := (h.row.lt g rfl).1; omega⟩, fun _ ha => h.okA ha, h.cur, h.g⟩
theorem Q8.l8cut (h : Q8 X w B a len cap g lc ys) {n : Nat} (hn : n ≤ ys.length) (hn1 : 1 ≤ n) : L8 w X B a len cap (.slice (some ⟨g, 0, none⟩) n lc) := ⟨_, _, _, _, rfl, ⟨hn1, Nat.le_trans hn h.n.2, fun b off e => by injection e with e; injection e with e _ _; have h1 := (h.row.lt g rfl).1; omega⟩, fun _ ha => (h.okA ha).take hn, h.cur, h.g⟩
end

end Go.Proofs.YtkjojhkpoooimaaGreat
