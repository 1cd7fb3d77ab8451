/-
  FnTrees returns true at every code and leaves it as it was: a tree is read from what it is shown as, and what is read is shown so.
-/
import Derived.Test.YtjkfjenhocaljaaDoorRows
import Derived.Test.YtjkfjenhocaljaaDoorCards
import Derived.Test.YtjkfjenhocaljaaDoorTie
import Derived.Test.YtjkfjenhocaljaaDoorMath1
import Derived.Test.YtjkfjenhocaljaaDoorMath4
import Derived.Test.YtjkfjenhocaljaaDoorMath5
import Derived.Test.YtjkfjenhocaljaaDoorMath5N
import Derived.Test.YtjkfjenhocaljaaDoorMath5J
import Derived.Test.YtjkfjenhocaljaaDoorMath6
import Derived.Test.YtjkfjenhocaljaaDoorMath6R
import Derived.Test.YtjkfjenhocaljaaDoorMath6P
import Derived.Test.YtjkfjenhocaljaaDoorMathT
import Derived.Test.YtjkfjenhocaljaaDoorOwn
import Derived.Test.YtjkfjenhocaljaaDoorHexOf
import Derived.Test.YtjkfjenhocaljaaDoorWordS
import Derived.Test.YtjkfjenhocaljaaDoorTextS
import Derived.Test.YtjkfjenhocaljaaDoorTextS2
import Derived.Test.YtjkfjenhocaljaaDoorTextS3
import Derived.Test.YtjkfjenhocaljaaDoorTurned
import Derived.Test.YtjkfjenhocaljaaDoorTextS4
import Derived.Test.YtjkfjenhocaljaaDoorTextS5
import Derived.Test.YtjkfjenhocaljaaDoorTreeS
import Derived.Test.YtjkfjenhocaljaaDoorTreeS2
import Derived.Test.YtjkfjenhocaljaaDoorMath3C
import Derived.Test.YtjkfjenhocaljaaDoorDraw
import Derived.Test.YtjkfjenhocaljaaDoorDraw2
import Derived.Test.YtjkfjenhocaljaaDoorChunkS
import Derived.Test.YtjkfjenhocaljaaDoorTreeS3
import Derived.Test.YtjkfjenhocaljaaDoorTreeS4
import Derived.Test.YtjkfjenhocaljaaDoorTreeS5
import Derived.Test.YtjkfjenhocaljaaDoorNodeL
import Derived.Test.YtjkfjenhocaljaaDoorDraw3
import Derived.Test.YtjkfjenhocaljaaDoorDrawW
import Derived.Test.YtjkfjenhocaljaaDoorDrawT
import Derived.Test.YtjkfjenhocaljaaDoorBend1
import Derived.Test.YtjkfjenhocaljaaDoorBend2
import Derived.Test.YtjkfjenhocaljaaDoorDrawX
import Derived.Test.YtjkfjenhocaljaaDoorDrawN
import Derived.Test.YtjkfjenhocaljaaDoorDrawTr
import Derived.Test.YtjkfjenhocaljaaDoorMath6D
import Derived.Test.YtjkfjenhocaljaaDoorDrawTr2
import Derived.Test.YtjkfjenhocaljaaDoorDrawTr3
import Derived.Test.YtjkfjenhocaljaaDoorDrawTr4
import Derived.Test.YtjkfjenhocaljaaDoorNodeK
import Derived.Test.YtjkfjenhocaljaaDoorTreeS6
import Derived.Test.YtjkfjenhocaljaaDoorIntsL
import Derived.Test.YtjkfjenhocaljaaDoorMath6I
import Derived.Test.YtjkfjenhocaljaaDoorWordI
import Derived.Test.YtjkfjenhocaljaaDoorJumps
import Derived.Test.YtjkfjenhocaljaaDoorClone
import Derived.Test.YtjkfjenhocaljaaDoorTextI
import Derived.Test.YtjkfjenhocaljaaDoorTail
import Derived.WalkKit
import Derived.Deep.RegionHeld3
import Derived.Deep.Cut
import Derived.ProofKit
import Derived.OpenShut
import Derived.ShutString
import Derived.ChangeOld
import Derived.Below
import Derived.LaidLaws
import Derived.LaidHandle
import Derived.Lay
import Derived.MakeChecks
import Derived.Lib.LaidTab
import Derived.Stop.Joined
import Derived.SevenTiedAt
namespace Go.Proofs.YtjkfjenhocaljaaDoor.fnTrees
open Go.ChangeShapes Go.WideShapes Go.ChangeAt Go.RowKit
open Go.ChangeMaps (open_string shut_string)
set_option linter.unusedVariables false

/-- Bytes that came in: none, or a row of them with its spare places. -/
def Came (w : World) (a : Option Addr) (len cap : Nat) (zs : List Int) : Prop :=
  (a = none ∧ len = 0 ∧ cap = 0 ∧ zs = []) ∨
  ∃ x, a = some x ∧ len ≤ cap ∧ cap ≤ maxLen ∧ zs.length = cap ∧ (∀ i, i < zs.length → w.cell? (x.add i) = some (.int .u8 (zs.getD i 0))) ∧ ∀ n ∈ zs, (Lit.int .u8 n).wf = true

theorem own : ownKnob Tryd.prog.godebug = none := by kernel_rfl
theorem laidOut : laidOutB Tryd.prog = true := by kernel_rfl

/-! The walk: the law returns true and writes nothing that was there. -/
set_option maxHeartbeats 8000000 in
set_option maxRecDepth 1000000 in
theorem walk (a0 : Option Addr) (len0 cap0 : Nat) (z0 : List Int) (w : World) (w0 : Came w a0 len0 cap0 z0) (hT : PowIs w) :
    Calls Tryd.prog 3 #[.slice a0 len0 cap0] w fun e w' => e = .returned (.bool true) ∧ Below w.heap.size w w' := by
  have HPW : Hid (PowIs w) := hT
  clear hT
  have hcode : Code w w.heap.size a0 len0 := by
    rcases w0 with ⟨rfl, rfl, rfl, rfl⟩ | ⟨x, rfl, hl, hm, hz, hcell, hwz⟩
    · exact code_nil w
    · exact code_of w x len0 z0 hcell (by omega) hwz
  clear w0
  by_cases hbig : 4096 < (len0 : Int)
  · have hd : decide (4096 < (len0 : Int)) = true := decide_eq_true hbig
    go_enter Tryd.func3, Tryd.ntmps3
    go_wp2_with (go_at_call 6; refine (bigB _ _ _ _).mono ?_; rintro e w' ⟨rfl, rfl⟩)
    go_ret
    exact ⟨rfl, Below.refl _ _⟩
  · have hd : decide (4096 < (len0 : Int)) = false := decide_eq_false hbig
    have hself : ∀ n : Int, (n != n) = false := by simp
    have hselfb : ∀ n : Bool, (n != n) = false := by simp
    have hselfl : ∀ n : List UInt8, (n != n) = false := by simp
    have hselfe : ∀ n : List UInt8, (n == n) = true := by simp
    go_enter Tryd.func3, Tryd.ntmps3
    go_wp2_with fail
    refine (bigB _ _ _ _).mono ?_
    rintro e w1 ⟨rfl, rfl⟩
    go_wp2_with fail
    refine (drawShowTree _ _ _ _ (by omega) hcode).mono ?_
    rintro e w2 ⟨v2, T, rfl, hd2, hb2⟩
    obtain ⟨hownT, hlT, hsT, _⟩ := hd2
    obtain ⟨_, aT, cT, rfl, hinT⟩ := own_nodes hownT
    have hcode2 := hcode.later hb2
    have HIT : Hid (IntT T) := hsT.int
    have HST : Hid (ShortT T) := hsT.short
    clear hcode hownT hsT
    go_wp2_with fail
    refine (implShowTree aT T.length cT T _ hinT HIT.out HST.out (by omega) (HPW.out.below hb2)).mono ?_
    rintro e w3 ⟨rfl, hb3⟩
    have hcode3 := hcode2.later hb3
    have hinT3 := hinT.below hb3
    have hB3 := hb2.trans (hb3.mono hb2.size)
    clear hcode2 hb2 hb3 hinT
    obtain ⟨s, hs⟩ : ∃ s, showT T = s := ⟨_, rfl⟩
    have HS : Hid (showT T = s) := hs
    have hsl : s.length ≤ 1860 := by rw [← hs]; exact showT_len
    rw [hs]
    clear hs
    go_wp2_with fail
    refine (drawReadTree _ _ _ _ (by omega) hcode3).mono ?_
    rintro e w4 ⟨r, rfl, hrl, hb4⟩
    have hcode4 := hcode3.later hb4
    have hinT4 := hinT3.below hb4
    have hB4 := hB3.trans (hb4.mono hB3.size)
    clear hcode3 hB3 hb4 hinT3
    go_wp2_with fail
    refine (implReadTree r _ (by omega) (HPW.out.below hB4)).mono ?_
    rintro e w5 ⟨v5, rfl, hownX, hb5⟩
    obtain ⟨_, aX, cX, rfl, hinX⟩ := own_nodes hownX
    have hcode5 := hcode4.later hb5
    have hinT5 := hinT4.below hb5
    have hB5 := hB4.trans (hb5.mono hB4.size)
    have hrt := read_tv r
    obtain ⟨hsX, hlX⟩ := read_tv_small r
    clear hcode4 hB4 hb5 hinT4 hownX
    obtain ⟨X, hX⟩ : ∃ X, readTV r = X := ⟨_, rfl⟩
    obtain ⟨is, his⟩ : ∃ is, readOk r = is := ⟨_, rfl⟩
    have HRX : Hid (readTV r = X) := hX
    have HRI : Hid (readOk r = is) := his
    rw [hX, his] at hrt
    rw [hX] at hsX hlX hinX
    rw [hX, his]
    have HRT : Hid ((is = true ∧ treeB X = true ∧ showT X = r) ∨ (is = false ∧ X = [])) := hrt
    have HIX : Hid (IntT X) := hsX.int
    have HSX : Hid (ShortT X) := hsX.short
    clear hX his hrt hsX
    go_wp2_with fail
    refine (drawNodeOk _ _ _ _ (by omega) hcode5).mono ?_
    rintro e w6 ⟨n, rfl, hni, hnp, hnf, hb6⟩
    have hinT6 := hinT5.below hb6
    have hinX6 := hinX.below hb6
    have hB6 := hB5.trans (hb6.mono hB5.size)
    clear hcode5 hB5 hb6 hinT5 hinX
    obtain ⟨w7, hw7⟩ : ∃ W, w6.alloc (.cells #[.int .i64 n.1, .int .i64 n.2.1, .string ⟨n.2.2.1.toArray⟩, .string ⟨n.2.2.2.toArray⟩] 31) = W := ⟨_, rfl⟩
    have hb7 : Below w6.heap.size w6 w7 := by rw [← hw7]; exact (Below.refl _ _).alloc (Nat.le_refl _) _
    have hAX : w7.heap[w6.heap.size]? = some (.cells #[.int .i64 n.1, .int .i64 n.2.1, .string ⟨n.2.2.1.toArray⟩, .string ⟨n.2.2.2.toArray⟩] 31) := by rw [← hw7]; exact heap_alloc_new w6 _
    obtain ⟨D, hD⟩ : ∃ D, w6.heap.size = D := ⟨_, rfl⟩
    have hD7 : D < w7.heap.size := by rw [← hw7, ← hD]; simp
    rw [hD] at hAX
    have k0 : w7.cell? ⟨D, 0, none⟩ = some (.int .i64 n.1) := by simp [World.cell?, hAX]
    have k1 : w7.cell? ⟨D, 1, none⟩ = some (.int .i64 n.2.1) := by simp [World.cell?, hAX]
    have k2 : w7.cell? ⟨D, 2, none⟩ = some (.string ⟨n.2.2.1.toArray⟩) := by simp [World.cell?, hAX]
    have k3 : w7.cell? ⟨D, 3, none⟩ = some (.string ⟨n.2.2.2.toArray⟩) := by simp [World.cell?, hAX]
    have hinT7 := hinT6.below hb7
    have hinX7 := hinX6.below hb7
    have hB7 := hB6.trans (hb7.mono hB6.size)
    clear hB6 hb7 hinT6 hinX6 hAX
    unfold nodeVal
    go_wp2_with fail
    refine (specReadTree r _).mono ?_
    rintro e w8 ⟨v8, rfl, hownY, hb8⟩
    rw [HRX.out] at hownY
    rw [HRI.out]
    obtain ⟨_, aY, cY, rfl, hinY⟩ := own_nodes hownY
    have st : Hold6 w8 D n aT T aX X aY := ⟨(hb8.cell (p := ⟨D, 0, none⟩) hD7).trans k0, (hb8.cell (p := ⟨D, 1, none⟩) hD7).trans k1, (hb8.cell (p := ⟨D, 2, none⟩) hD7).trans k2, (hb8.cell (p := ⟨D, 3, none⟩) hD7).trans k3, hinT7.below hb8, hinX7.below hb8, hinY⟩
    have hB := hB7.trans (hb8.mono hB7.size)
    clear hw7 hb8 hB7 hinT7 hinX7 hinY k0 k1 k2 k3 HRX HRI hownY hD hD7
    obtain ⟨tb, htb⟩ : ∃ tb, treeB T = tb := ⟨_, rfl⟩
    obtain ⟨nb, hnb⟩ : ∃ nb, nodeB n = nb := ⟨_, rfl⟩
    obtain ⟨kv, hkv⟩ : ∃ kv, kidsOfV n = kv := ⟨_, rfl⟩
    have hkf := kids_facts n
    rw [hnb, hkv] at hkf
    have HKF : Hid ((nb = true ∧ 0 ≤ kv) ∨ (nb = false ∧ kv = -1)) := hkf
    have HTB : Hid (treeB T = tb) := htb
    have HNB : Hid (nodeB n = nb) := hnb
    have HKV : Hid (kidsOfV n = kv) := hkv
    clear hkf htb hnb hkv
    have c0 := st.c0
    have c1 := st.c1
    have c2 := st.c2
    have c3 := st.c3
    go_upto_region 9 with fail
    go_cut [68] from 33 (fun v wx => v = .bool false ∧ Hid (Hold6 wx D n aT T aX X aY) ∧ Hid (Below w1.heap.size w1 wx))
    case first =>
      replace st := st.drew
      replace hB : Below w1.heap.size w1 w8.drew := hB.drew
      go_region_held3 (fun w' => w'.cell? ⟨D, 0, none⟩ = some (.int .i64 n.1) ∧ w'.cell? ⟨D, 1, none⟩ = some (.int .i64 n.2.1) ∧ w'.cell? ⟨D, 2, none⟩ = some (.string ⟨n.2.2.1.toArray⟩) ∧ w'.cell? ⟨D, 3, none⟩ = some (.string ⟨n.2.2.2.toArray⟩)) (go_keep) (first | (go_at_call 13; refine (likeTreeC aX aY X.length cX cY X _ st.x st.y (by omega)).mono ?_; rintro e wn ⟨rfl, hbn⟩; replace st := st.below hbn; replace hB := hB.trans (hbn.mono hB.size); clear hbn; replace c0 := st.c0; replace c1 := st.c1; replace c2 := st.c2; replace c3 := st.c3) | (go_at_call 14; refine (specShowTree aT T.length cT T _ st.t HST.out (by omega)).mono ?_; rintro e wn ⟨rfl, hbn⟩; rw [HS.out]; replace st := st.below hbn; replace hB := hB.trans (hbn.mono hB.size); clear hbn; replace c0 := st.c0; replace c1 := st.c1; replace c2 := st.c2; replace c3 := st.c3) | (go_at_call 15; refine (implTreeOk aT T.length cT T _ st.t HIT.out HST.out (by omega)).mono ?_; rintro e wn ⟨rfl, hbn⟩; rw [HTB.out]; replace st := st.below hbn; replace hB := hB.trans (hbn.mono hB.size); clear hbn; replace c0 := st.c0; replace c1 := st.c1; replace c2 := st.c2; replace c3 := st.c3) | (go_at_call 16; refine (specTreeOk aT T.length cT T _ st.t HST.out (by omega)).mono ?_; rintro e wn ⟨rfl, hbn⟩; rw [HTB.out]; replace st := st.below hbn; replace hB := hB.trans (hbn.mono hB.size); clear hbn; replace c0 := st.c0; replace c1 := st.c1; replace c2 := st.c2; replace c3 := st.c3) | (go_at_call 17; refine (implNodeOk n _ hni (by omega) (by omega)).mono ?_; rintro e wn ⟨rfl, hbn⟩; rw [HNB.out]; replace st := st.below hbn; replace hB := hB.trans (hbn.mono hB.size); clear hbn; replace c0 := st.c0; replace c1 := st.c1; replace c2 := st.c2; replace c3 := st.c3) | (go_at_call 18; refine (specNodeOk n _ (by omega) (by omega)).mono ?_; rintro e wn ⟨rfl, hbn⟩; rw [HNB.out]; replace st := st.below hbn; replace hB := hB.trans (hbn.mono hB.size); clear hbn; replace c0 := st.c0; replace c1 := st.c1; replace c2 := st.c2; replace c3 := st.c3) | (go_at_call 19; refine (implKidsOf n _ hni (by omega) (by omega)).mono ?_; rintro e wn ⟨rfl, hbn⟩; rw [HKV.out]; replace st := st.below hbn; replace hB := hB.trans (hbn.mono hB.size); clear hbn; replace c0 := st.c0; replace c1 := st.c1; replace c2 := st.c2; replace c3 := st.c3) | (go_at_call 20; refine (specKidsOf n _ (by omega) (by omega)).mono ?_; rintro e wn ⟨rfl, hbn⟩; rw [HKV.out]; replace st := st.below hbn; replace hB := hB.trans (hbn.mono hB.size); clear hbn; replace c0 := st.c0; replace c1 := st.c1; replace c2 := st.c2; replace c3 := st.c3))
      all_goals go_wp2_with fail
      all_goals go_meet
      all_goals exact ⟨rfl, st, hB⟩
    case rest =>
      obtain ⟨rfl, st, hB⟩ := hcut
      replace st := st.out
      replace hB := hB.out
      replace c0 := st.c0
      replace c1 := st.c1
      replace c2 := st.c2
      replace c3 := st.c3
      go_upto_region 11 with fail
      go_cut [92] from 69 (fun v wx => v = .bool false ∧ Hid (Hold6 wx D n aT T aX X aY) ∧ Hid (Below w1.heap.size w1 wx))
      case first =>
        replace st := st.drew
        replace hB : Below w1.heap.size w1 wc.drew := hB.drew
        rcases HRT.out with ⟨rfl, htx, hsx⟩ | ⟨rfl, rfl⟩
        · have HX : Hid (showT X = r) := hsx
          clear hsx htx
          rcases HKF.out with ⟨rfl, hk0⟩ | ⟨rfl, rfl⟩
          · have hkd : decide (kv < 0) = false := decide_eq_false (by omega)
            first | (go_region_held (fun w' => w'.cell? ⟨D, 0, none⟩ = some (.int .i64 n.1) ∧ w'.cell? ⟨D, 1, none⟩ = some (.int .i64 n.2.1) ∧ w'.cell? ⟨D, 2, none⟩ = some (.string ⟨n.2.2.1.toArray⟩) ∧ w'.cell? ⟨D, 3, none⟩ = some (.string ⟨n.2.2.2.toArray⟩)) (go_keep) (first | (go_at_call 8; refine (implShowTree aX X.length cX X _ st.x HIX.out HSX.out (by omega) (HPW.out.below hB)).mono ?_; rintro e wn ⟨rfl, hbn⟩; rw [HX.out]; replace st := st.below hbn; replace hB := hB.trans (hbn.mono hB.size); clear hbn; replace c0 := st.c0; replace c1 := st.c1; replace c2 := st.c2; replace c3 := st.c3) | (go_at_call 17; refine (implNodeOk n _ hni (by omega) (by omega)).mono ?_; rintro e wn ⟨rfl, hbn⟩; rw [HNB.out]; replace st := st.below hbn; replace hB := hB.trans (hbn.mono hB.size); clear hbn; replace c0 := st.c0; replace c1 := st.c1; replace c2 := st.c2; replace c3 := st.c3) | (go_at_call 19; refine (implKidsOf n _ hni (by omega) (by omega)).mono ?_; rintro e wn ⟨rfl, hbn⟩; rw [HKV.out]; replace st := st.below hbn; replace hB := hB.trans (hbn.mono hB.size); clear hbn; replace c0 := st.c0; replace c1 := st.c1; replace c2 := st.c2; replace c3 := st.c3))) | fail
            all_goals go_wp2_with fail
            all_goals go_meet
            all_goals exact ⟨rfl, st, hB⟩
          · first | (go_region_held (fun w' => w'.cell? ⟨D, 0, none⟩ = some (.int .i64 n.1) ∧ w'.cell? ⟨D, 1, none⟩ = some (.int .i64 n.2.1) ∧ w'.cell? ⟨D, 2, none⟩ = some (.string ⟨n.2.2.1.toArray⟩) ∧ w'.cell? ⟨D, 3, none⟩ = some (.string ⟨n.2.2.2.toArray⟩)) (go_keep) (first | (go_at_call 8; refine (implShowTree aX X.length cX X _ st.x HIX.out HSX.out (by omega) (HPW.out.below hB)).mono ?_; rintro e wn ⟨rfl, hbn⟩; rw [HX.out]; replace st := st.below hbn; replace hB := hB.trans (hbn.mono hB.size); clear hbn; replace c0 := st.c0; replace c1 := st.c1; replace c2 := st.c2; replace c3 := st.c3) | (go_at_call 17; refine (implNodeOk n _ hni (by omega) (by omega)).mono ?_; rintro e wn ⟨rfl, hbn⟩; rw [HNB.out]; replace st := st.below hbn; replace hB := hB.trans (hbn.mono hB.size); clear hbn; replace c0 := st.c0; replace c1 := st.c1; replace c2 := st.c2; replace c3 := st.c3) | (go_at_call 19; refine (implKidsOf n _ hni (by omega) (by omega)).mono ?_; rintro e wn ⟨rfl, hbn⟩; rw [HKV.out]; replace st := st.below hbn; replace hB := hB.trans (hbn.mono hB.size); clear hbn; replace c0 := st.c0; replace c1 := st.c1; replace c2 := st.c2; replace c3 := st.c3))) | fail
            all_goals go_wp2_with fail
            all_goals go_meet
            all_goals exact ⟨rfl, st, hB⟩
        · rcases HKF.out with ⟨rfl, hk0⟩ | ⟨rfl, rfl⟩
          · have hkd : decide (kv < 0) = false := decide_eq_false (by omega)
            first | (go_region_held (fun w' => w'.cell? ⟨D, 0, none⟩ = some (.int .i64 n.1) ∧ w'.cell? ⟨D, 1, none⟩ = some (.int .i64 n.2.1) ∧ w'.cell? ⟨D, 2, none⟩ = some (.string ⟨n.2.2.1.toArray⟩) ∧ w'.cell? ⟨D, 3, none⟩ = some (.string ⟨n.2.2.2.toArray⟩)) (go_keep) (first | (go_at_call 17; refine (implNodeOk n _ hni (by omega) (by omega)).mono ?_; rintro e wn ⟨rfl, hbn⟩; rw [HNB.out]; replace st := st.below hbn; replace hB := hB.trans (hbn.mono hB.size); clear hbn; replace c0 := st.c0; replace c1 := st.c1; replace c2 := st.c2; replace c3 := st.c3) | (go_at_call 19; refine (implKidsOf n _ hni (by omega) (by omega)).mono ?_; rintro e wn ⟨rfl, hbn⟩; rw [HKV.out]; replace st := st.below hbn; replace hB := hB.trans (hbn.mono hB.size); clear hbn; replace c0 := st.c0; replace c1 := st.c1; replace c2 := st.c2; replace c3 := st.c3))) | fail
            all_goals go_wp2_with fail
            all_goals go_meet
            all_goals exact ⟨rfl, st, hB⟩
          · first | (go_region_held (fun w' => w'.cell? ⟨D, 0, none⟩ = some (.int .i64 n.1) ∧ w'.cell? ⟨D, 1, none⟩ = some (.int .i64 n.2.1) ∧ w'.cell? ⟨D, 2, none⟩ = some (.string ⟨n.2.2.1.toArray⟩) ∧ w'.cell? ⟨D, 3, none⟩ = some (.string ⟨n.2.2.2.toArray⟩)) (go_keep) (first | (go_at_call 17; refine (implNodeOk n _ hni (by omega) (by omega)).mono ?_; rintro e wn ⟨rfl, hbn⟩; rw [HNB.out]; replace st := st.below hbn; replace hB := hB.trans (hbn.mono hB.size); clear hbn; replace c0 := st.c0; replace c1 := st.c1; replace c2 := st.c2; replace c3 := st.c3) | (go_at_call 19; refine (implKidsOf n _ hni (by omega) (by omega)).mono ?_; rintro e wn ⟨rfl, hbn⟩; rw [HKV.out]; replace st := st.below hbn; replace hB := hB.trans (hbn.mono hB.size); clear hbn; replace c0 := st.c0; replace c1 := st.c1; replace c2 := st.c2; replace c3 := st.c3))) | fail
            all_goals go_wp2_with fail
            all_goals go_meet
            all_goals exact ⟨rfl, st, hB⟩
      case rest =>
        obtain ⟨rfl, st, hB⟩ := hcut
        replace st := st.out
        replace hB := hB.out
        clear c0 c1 c2 c3 HKF HNB HKV HIX HSX HRT
        rcases tb with _ | _
        · obtain rfl : s = [] := by rw [← HS.out]; exact tree_not HTB.out
          go_wp2_with (go_at_call 15; refine (implTreeOk aT T.length cT T _ st.t HIT.out HST.out (by omega)).mono ?_; rintro e wn ⟨rfl, hbn⟩; rw [HTB.out])
          go_ret
          exact ⟨rfl, hB.trans (hbn.mono hB.size)⟩
        · have hbk := tree_back HTB.out
          rw [HS.out] at hbk
          obtain ⟨hne, hbo, hbt⟩ := hbk
          have HBO : Hid (readOk s = true) := hbo
          have HBT : Hid (readTV s = T) := hbt
          have hse : s.isEmpty = false := by rw [List.isEmpty_eq_false_iff]; exact hne
          have hse2 : (s == []) = false := by rw [beq_eq_false_iff_ne]; exact hne
          clear hbo hbt hne
          go_wp2_with fail
          refine (implReadTree s _ (by omega) (HPW.out.below hB)).mono ?_
          rintro e wn ⟨vz, rfl, hownZ, hbn⟩
          rw [HBT.out] at hownZ
          rw [HBO.out]
          obtain ⟨_, aZ, cZ, rfl, hinZ⟩ := own_nodes hownZ
          replace st := st.below hbn
          replace hB := hB.trans (hbn.mono hB.size)
          clear hbn hownZ
          go_wp2_with (go_at_call 13; refine (likeTreeC aZ aT T.length cZ cT T _ hinZ st.t (by omega)).mono ?_; rintro e wm ⟨rfl, hbm⟩)
          go_ret
          exact ⟨rfl, hB.trans (hbm.mono hB.size)⟩

/-- What the listed variables give the walk: the table of powers of ten. -/
theorem pow_of_laid {W : World} (h : laidMetH Tryd.prog Rows.fnTreesRow.laid W) : PowIs W := by
  rw [MakeChecks.laidMetH_plain _ _ _ (by kernel_rfl)] at h
  obtain ⟨ps, ⟨g0, t0, cs0, f0, p0, q0, hg0, ht0, hv0, hd0, ⟨g1, t1, cs1, f1, p1, q1, hg1, ht1, hv1, hd1, ⟨g2, t2, cs2, f2, p2, q2, hg2, ht2, hv2, hd2, _, _⟩, _⟩, _⟩, _, _⟩ := h
  obtain ⟨g, hg⟩ := Option.isSome_iff_exists.1 powAt
  obtain rfl := Option.some.inj (hg.symm.trans hg2)
  exact pow_of_cells hg ht2 hv2 hd2

set_option maxRecDepth 100000 in
theorem lifted (os : Os) (started : os.Started) (H : Type) (enc : TypeId × Value → H) :
    ReturnsInHanded {} Tryd.checked os 3 .any (fun w args => (Rows.fnTreesSpec.pre enc Tryd.prog Tryd.f3 [] false w args ∧ laidMetH Tryd.prog Rows.fnTreesRow.laid w) ∧ sizedMet enc Tryd.prog Tryd.f3 (OpenSpec.ofChange Rows.fnTreesSpec) false w args)
      (Rows.fnTreesSpec.post enc Tryd.prog Tryd.f3 false true false false) := by
  refine returnsInHanded_of_change_and (C := Tryd.checked) (X := fun w _ => laidMetH Tryd.prog Rows.fnTreesRow.laid w) (fun _ _ _ hh h => h.of_heap hh) own started (by kernel_rfl) Tryd.func3
    (ChangeSpec.witness_shaped (enc := enc) (C := Tryd.checked) (os := os) (X := fun w _ => laidMetH Tryd.prog Rows.fnTreesRow.laid w) false (World.laidAll Tryd.prog os Rows.fnTreesRow.laid) #[.slice none 0 0] 8 (World.laidAll_os _ _ _)
      (World.shaped_of_ZipB (by kernel_rfl) (by kernel_rfl)) (by kernel_rfl) (by kernel_rfl) (by kernel_rfl)
      (by rw [MakeChecks.laidMetH_plain _ _ _ (by kernel_rfl)]; exact laidMet_laidAll _ (by kernel_rfl) (by kernel_rfl))) ?_
  intro W base args ds gs before hval0 hW _ _ hL _
  have hval : ∀ (j : Nat) t v, Tryd.f3.params[j]? = some t → args[j]? = some v → Value.okWide Tryd.prog W .any base t v := hval0
  have hW' := hW
  obtain ⟨p, q, hA0, hV, rfl, hfz, hnd⟩ := hW
  have hA : DataW.TrodAll enc Tryd.prog W 0 (fun _ => true) true Tryd.f3.params.toList args.toList ds p := hA0
  rw [Tryd.params3] at hA hval
  obtain ⟨v0, vs0, d0, ds0, p0, q0, hargs, rfl, rfl, h0, r0⟩ := trodAll_cons hA
  obtain ⟨rfl, rfl, rfl⟩ := trodAll_nil r0
  obtain rfl : args = #[v0] := by cases args; simp_all
  obtain ⟨rfl, rfl⟩ := trodVars_none hV
  have k0 := h0
  have lt0 : ∀ x ∈ p0, x.block < W.heap.size := by obtain ⟨m, hm⟩ := k0; exact DataW.trod_lt m _ _ _ hm
  obtain ⟨a0, len0, cap0, rfl⟩ := okWide_slice Tryd.underlying22 (hval 0 22 v0 rfl rfl)
  obtain ⟨z0, w0⟩ : ∃ zs, Came W a0 len0 cap0 zs := by
    obtain ⟨fuel, hf⟩ := h0
    rcases open_ints Tryd.underlying22 Tryd.underlying5 (by kernel_rfl) hf with ⟨hcs, _⟩ | ⟨x, l, c, zs, hcs, _, hl, hm, hz, _, hcell, hwz⟩
    · simp [Value.cells] at hcs
      obtain ⟨rfl, rfl, rfl⟩ := hcs
      exact ⟨[], .inl ⟨rfl, rfl, rfl, rfl⟩⟩
    · simp [Value.cells] at hcs
      obtain ⟨rfl, rfl, rfl⟩ := hcs
      exact ⟨zs, .inr ⟨_, rfl, hl, hm, by simpa using hz, hcell, hwz⟩⟩
  clear hA0 hval0
  refine (walk a0 len0 cap0 z0 W w0 (pow_of_laid hL)).mono fun e W' ⟨he, bel⟩ => ?_
  subst he
  exact ⟨_, rfl, _, _, _, [], _, [], hW', trodAll_mk1 (shut_bool Tryd.underlying4 _), (trodAll_cons_mk (Below.trod laidOut (by kernel_rfl) (of_decide_eq_true (by kernel_rfl)) k0 bel lt0) trodAll_mk0), rfl, bel.frame _, fun h => by cases h⟩

theorem over : Rows.fnTreesRow.holds Tryd.pinned (OpenSpec.ofChange Rows.fnTreesSpec) :=
  OpenClaim.holds_of_wide 3 Tryd.f3 rfl rfl rfl rfl rfl rfl rfl ⟨rfl, rfl, rfl, rfl, rfl⟩ rfl rfl rfl rfl rfl (by kernel_rfl) Tryd.func3 (by kernel_rfl)
    (of_decide_eq_true (by kernel_rfl)) (by unfold Func.isWrapper; first | (rw [if_pos (by decide +kernel)]; kernel_rfl) | (rw [if_neg (by decide +kernel)]; exact ⟨rfl, rfl⟩))
    (fun os started H enc _ => lifted os started H enc)

/-- The tied card. -/
theorem proved : Rows.FnTreesCardSaid :=
  Claim7.holds_tied_plain_at .later [] [.data, .data, .data] true (true, "1c3695a123215751a512774ad25301578bd74a47b3ebc123bf9a14b69cefd241") true
    over (fun _ h => by cases h) (by kernel_rfl) (fun _ h => by cases h) fnTrees_row_tie rfl ⟨rfl, rfl⟩ (by kernel_rfl) rfl
    (fun f fn hf hfn => by
      obtain rfl : f = 3 := Option.some.inj ((show Tryd.prog.funcNamed Rows.fnTreesRow.func = some 3 by kernel_rfl).symm.trans hf) |>.symm
      obtain rfl : fn = Tryd.f3 := (Option.some.inj (Tryd.func3.symm.trans hfn)).symm
      exact ⟨by kernel_rfl, fun j t ht => by
        rw [Tryd.params3] at ht
        have hm : t ∈ [22] := by simpa using Array.mem_of_getElem? ht
        have hall : ([22].all fun u => !Tryd.prog.wantsStandIn u) = true := by kernel_rfl
        exact (show Tryd.prog.wantsStandIn t = false by simpa using List.all_eq_true.1 hall t hm)⟩)
    (by kernel_rfl)
#print axioms proved
end Go.Proofs.YtjkfjenhocaljaaDoor.fnTrees
