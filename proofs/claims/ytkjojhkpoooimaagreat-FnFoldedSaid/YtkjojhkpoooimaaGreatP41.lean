/-
  Parts of one proof, one behind the other: LawFd.
-/
import Derived.Test.YtkjojhkpoooimaaGreatP40
import Derived.Test.YtkjojhkpoooimaaGreatP39
import Derived.Deep.RegionHeld3
import Derived.Deep.Cut

/-! The law FnFolded: what was made simpler means the same with no more fuel, has no more nodes, and again it is as it is. -/
namespace Go.Proofs.YtkjojhkpoooimaaGreat
open Go.RowKit

/-- What FnFolded holds of a tree, of what it has become, of a package and of what that has become. -/
structure Hf11 (Z : World) (ta : Option Addr) (ns : List Nd) (fa : Option Addr) (P G : Nat) (nm : List UInt8) (ia : Option Addr) (ic : Nat) (pa : Option Addr) (pc : Nat) (ims : List (List UInt8)) (fs : List Fn) (xn : List UInt8) (ai : Option Addr) (nI ci : Nat) (af : Option Addr) (nF cf : Nat) (xi : List (List UInt8)) (xf : List Fn) : Prop where
  t : NodesIn Z ta ns.length ns
  f : NodesIn Z fa (foldT ns).length (foldT ns)
  p : PkOk Z nm ia ims.length ic pa fs.length pc ims fs
  bP : Box3 Z P (.string ⟨nm.toArray⟩) (.slice ia ims.length ic) (.slice pa fs.length pc)
  bQ : Box3 Z G (.string ⟨xn.toArray⟩) (.slice ai nI ci) (.slice af nF cf)
  qi : TextsIn Z ai nI xi
  qf : FuncsIn Z af nF xf
theorem Hf11.below {Z Y : World} {ta : Option Addr} {ns : List Nd} {fa : Option Addr} {P G : Nat} {nm : List UInt8} {ia : Option Addr} {ic : Nat} {pa : Option Addr} {pc : Nat} {ims : List (List UInt8)} {fs : List Fn} {xn : List UInt8} {ai : Option Addr} {nI ci : Nat} {af : Option Addr} {nF cf : Nat} {xi : List (List UInt8)} {xf : List Fn} (h : Hf11 Z ta ns fa P G nm ia ic pa pc ims fs xn ai nI ci af nF cf xi xf) (hb : Below Z.heap.size Z Y) : Hf11 Y ta ns fa P G nm ia ic pa pc ims fs xn ai nI ci af nF cf xi xf :=
  ⟨h.t.below hb, h.f.below hb, h.p.below hb, h.bP.below hb, h.bQ.below hb, h.qi.below hb, h.qf.below hb⟩

set_option maxHeartbeats 8000000 in
set_option maxRecDepth 100000 in
theorem lawFolded (w : World) (a : Option Addr) (len cap : Nat) (hcode : Code w w.heap.size a len) :
    Calls Tryz.prog 3 #[.slice a len cap] w fun e w' => e = .returned (.bool true) ∧ Below w.heap.size w w' := by
  by_cases hbig : 4096 < (len : Int)
  · have hd : decide (4096 < (len : Int)) = true := decide_eq_true hbig
    go_enter Tryz.func3, Tryz.ntmps3
    go_wp2_with (go_at_call 4; refine (bigB _ _ _ _).mono ?_; rintro e w' ⟨rfl, rfl⟩)
    go_ret
    exact ⟨rfl, Below.refl _ _⟩
  · have hd : decide (4096 < (len : Int)) = false := decide_eq_false hbig
    have hl : len ≤ 4096 := by omega
    have HCd : Hid (∀ Z, Below w.heap.size w Z → Code Z Z.heap.size a len) := fun Z hz => hcode.later hz
    go_enter Tryz.func3, Tryz.ntmps3
    go_wp2_with fail
    refine (bigB _ _ _ _).mono ?_
    rintro e w1 ⟨rfl, hw1⟩
    obtain rfl := hw1.symm
    go_wp2_with fail
    refine (drawFoldedTree11 _ _ _ _ hl hcode).mono ?_
    rintro e w2 ⟨v, ns, rfl, ⟨hown, hn62, hsm, _⟩, hB⟩
    obtain ⟨_, ta, tc, rfl, hin⟩ := own_nodes hown
    have HSm : Hid (SmallT ns) := hsm
    have hC := implFoldedTree ta ns.length tc ns w2 hin hsm.int hsm.short (by omega)
    have HC : Hid (_) := hC
    clear hown hC hcode hsm
    go_wp2_with fail
    refine Calls.mono HC.out ?_
    rintro e w3 ⟨vf, rfl, hvf, hb3⟩
    obtain ⟨_, fa, fc, rfl, hif⟩ := own_nodes hvf
    replace hin := hin.below hb3
    replace hB := hB.trans (hb3.mono hB.size)
    have hc3 := HCd.out w3 hB
    clear hvf hb3 HC
    go_wp2_with fail
    refine (drawFoldedPackage11 _ _ _ _ hl hc3).mono ?_
    rintro e w4 ⟨v, nm, ims, xs, rfl, hdr, hb4⟩
    obtain ⟨ia, ic, pa, pc, rfl, hok⟩ := hdr.ok
    obtain ⟨fs, hfs⟩ : ∃ fs, xs.map (·.1) = fs := ⟨_, rfl⟩
    rw [hfs] at hok ⊢
    replace hin := hin.below hb4
    replace hif := hif.below hb4
    replace hB := hB.trans (hb4.mono hB.size)
    clear hdr hb4 hc3 hfs
    obtain ⟨P, hP0⟩ : ∃ P, w4.heap.size = P := ⟨_, rfl⟩
    obtain ⟨X1, hX1⟩ : ∃ W, w4.alloc (.cells #[.string ⟨nm.toArray⟩, .slice ia ims.length ic, .slice pa fs.length pc] 30) = W := ⟨_, rfl⟩
    obtain ⟨bP, hb5⟩ := Box3.new w4 (.string ⟨nm.toArray⟩) (.slice ia ims.length ic) (.slice pa fs.length pc) 30
    rw [hX1] at bP hb5
    rw [hP0] at bP
    replace hin := hin.below hb5
    replace hif := hif.below hb5
    replace hok := hok.below hb5
    replace hB := hB.trans (hb5.mono hB.size)
    have p0 := bP.c0
    have p1 := bP.c1
    have p2 := bP.c2
    have HC : Hid (_) := implFoldedPackage nm ia ims.length ic pa fs.length pc ims fs X1 hok
    obtain ⟨hq6, hq8, hq60⟩ := foldPk_small (nm, ims, fs)
    have HG : Hid (pkgB (nm, ims, fs) = true → pkgB (foldPk (nm, ims, fs)) = true) := fun h => by
      have e : foldPk (nm, ims, fs) = foldP (nm, ims, fs) := by unfold foldPk; rw [if_pos h]
      rw [e]
      exact fold11_pkg h
    have HSp : Hid (∀ Z, PkOk Z nm ia ims.length ic pa fs.length pc ims fs → _) := fun Z (hz : PkOk Z nm ia ims.length ic pa fs.length pc ims fs) => specFoldedPackage nm ia ims.length ic pa fs.length pc ims fs Z hz
    obtain ⟨X, hX⟩ : ∃ X, foldPk (nm, ims, fs) = X := ⟨_, rfl⟩
    rw [hX] at HC HG HSp hq6 hq8 hq60
    have hnx : X.1.length ≤ 1048576 ∧ (∀ i, (X.2.1.getD i []).length ≤ 1048576) ∧ ShortF X.2.2 := by
      rw [← hX]
      unfold foldPk
      split
      · rename_i hp
        have h5 := shortPs_fold (ps := [(nm, ims, fs)]) (fun p hp2 => by rw [List.mem_singleton.1 hp2]; exact hp) 0
        exact ⟨h5.1, h5.2.2.1, h5.2.2.2.2⟩
      · exact ⟨by simp, fun i => by simp, fun k => ⟨by simp [fn0], by simp [fn0], fun i => by simp [fn0, nd0]⟩⟩
    obtain ⟨xn, xi, xf⟩ := X
    simp only at HC HG HSp hq6 hq8 hq60 hnx
    have HNx : Hid (xn.length ≤ 1048576 ∧ (∀ i, (xi.getD i []).length ≤ 1048576) ∧ ShortF xf) := hnx
    have H60j : Hid (∀ j, (xf.getD j fn0).2.2.length ≤ 4194304) := fun j => by have := (hnx.2.2 j).2.1; omega
    obtain ⟨nI, hnI⟩ : ∃ n, xi.length = n := ⟨_, rfl⟩
    obtain ⟨nF, hnF⟩ : ∃ n, xf.length = n := ⟨_, rfl⟩
    have HnI : Hid (xi.length = nI) := hnI
    have HnF : Hid (xf.length = nF) := hnF
    rw [hnI] at hq6
    rw [hnF] at hq8
    clear hX hq60 hnI hnF hnx hb5
    go_wp2_with fail
    refine Calls.mono HC.out ?_
    rintro e w5 ⟨vi, vf, xs2, rfl, hxs2, hoi, hof, _, hb6⟩
    obtain ⟨ai, ci, af, cf, rfl, rfl, _, _, pv⟩ := Pv11.new hoi hof hxs2
    rw [HnI.out, HnF.out] at pv
    rw [HnI.out, HnF.out]
    replace hin := hin.below hb6
    replace hif := hif.below hb6
    replace hok := hok.below hb6
    replace bP := bP.below hb6
    replace hB := hB.trans (hb6.mono hB.size)
    clear hoi hof hxs2 hb6 HC p0 p1 p2
    obtain ⟨G, hG0⟩ : ∃ G, w5.heap.size = G := ⟨_, rfl⟩
    obtain ⟨X2, hX2⟩ : ∃ W, w5.alloc (.cells #[.string ⟨xn.toArray⟩, .slice ai nI ci, .slice af nF cf] 30) = W := ⟨_, rfl⟩
    obtain ⟨bQ, hb7⟩ := Box3.new w5 (.string ⟨xn.toArray⟩) (.slice ai nI ci) (.slice af nF cf) 30
    rw [hX2] at bQ hb7
    rw [hG0] at bQ
    have pvi := (pv.below hb7).in
    have hf : Hf11 X2 ta ns fa P G nm ia ic pa pc ims fs xn ai nI ci af nF cf xi xf := ⟨hin.below hb7, hif.below hb7, hok.below hb7, bP.below hb7, bQ, pvi.1, pvi.2⟩
    replace hB := hB.trans (hb7.mono hB.size)
    have p0 := hf.bP.c0
    have p1 := hf.bP.c1
    have p2 := hf.bP.c2
    have q0 := hf.bQ.c0
    have q1 := hf.bQ.c1
    have q2 := hf.bQ.c2
    clear pvi pv hb7 hin hif hok bP bQ
    obtain ⟨fl, hfl⟩ : ∃ n, (foldT ns).length = n := ⟨_, rfl⟩
    have HFl : Hid ((foldT ns).length = fl) := hfl
    have hf60 : fl ≤ 60 := by rw [← hfl]; exact foldT_len ns
    rw [hfl]
    clear hfl
    go_upto_region 7 with fail
    go_cut [39] from 28 (fun v wx => v = .bool false ∧ Hid (Below w.heap.size w wx) ∧ Hid (Hf11 wx ta ns fa P G nm ia ic pa pc ims fs xn ai nI ci af nF cf xi xf))
    case first =>
      replace hf : Hf11 X2.drew ta ns fa P G nm ia ic pa pc ims fs xn ai nI ci af nF cf xi xf := hf.below ⟨rfl, rfl, rfl, Nat.le_refl _, fun _ _ => rfl⟩
      replace hB : Below w.heap.size w X2.drew := ⟨hB.os, hB.tape, hB.output, hB.size, hB.block⟩
      go_region_held3 (fun w' => w'.cell? ⟨P, 0, none⟩ = some (.string ⟨nm.toArray⟩) ∧ w'.cell? ⟨P, 1, none⟩ = some (.slice ia ims.length ic) ∧ w'.cell? ⟨P, 2, none⟩ = some (.slice pa fs.length pc) ∧ w'.cell? ⟨G, 0, none⟩ = some (.string ⟨xn.toArray⟩) ∧ w'.cell? ⟨G, 1, none⟩ = some (.slice ai nI ci) ∧ w'.cell? ⟨G, 2, none⟩ = some (.slice af nF cf)) (go_keep) (first
        | (go_at_call 11; refine (likePackageC xn ai ai8 af af8 nI ci ci8 nF cf cf8 xi xf _ hf.qi pv8.in.1 hf.qf pv8.in.2 (by omega) (by omega) H60j.out).mono ?_; rintro e wn ⟨rfl, hbn⟩; replace hf := hf.below hbn; replace hB := hB.trans (hbn.mono hB.size); replace p0 := hf.bP.c0; replace p1 := hf.bP.c1; replace p2 := hf.bP.c2; replace q0 := hf.bQ.c0; replace q1 := hf.bQ.c1; replace q2 := hf.bQ.c2; clear hbn)
        | (go_at_call 12; refine Calls.mono (HSp.out _ hf.p) ?_; rintro e wn ⟨vi8, vf8, xs8, rfl, hxs8, hoi8, hof8, hbn⟩; obtain ⟨ai8, ci8, af8, cf8, rfl, rfl, _, _, pv8⟩ := Pv11.new hoi8 hof8 hxs8; rw [HnI.out, HnF.out] at pv8; rw [HnI.out, HnF.out]; replace hf := hf.below hbn; replace hB := hB.trans (hbn.mono hB.size); replace p0 := hf.bP.c0; replace p1 := hf.bP.c1; replace p2 := hf.bP.c2; replace q0 := hf.bQ.c0; replace q1 := hf.bQ.c1; replace q2 := hf.bQ.c2; clear hbn hoi8 hof8 hxs8)
        | (go_at_call 9; refine (likeTreeC fa a7 fl fc c7 (foldT ns) _ (by have := hf.f; rw [HFl.out] at this; exact this) hin7 (by omega)).mono ?_; rintro e wn ⟨rfl, hbn⟩; replace hf := hf.below hbn; replace hB := hB.trans (hbn.mono hB.size); replace p0 := hf.bP.c0; replace p1 := hf.bP.c1; replace p2 := hf.bP.c2; replace q0 := hf.bQ.c0; replace q1 := hf.bQ.c1; replace q2 := hf.bQ.c2; clear hbn)
        | (go_at_call 10; refine (specFoldedTree ta ns.length tc ns _ hf.t HSm.out.short (by omega)).mono ?_; rintro e wn ⟨v7, rfl, hv7, hbn⟩; rw [HFl.out] at hv7; obtain ⟨_, a7, c7, rfl, hin7⟩ := own_nodes hv7; replace hf := hf.below hbn; replace hB := hB.trans (hbn.mono hB.size); replace p0 := hf.bP.c0; replace p1 := hf.bP.c1; replace p2 := hf.bP.c2; replace q0 := hf.bQ.c0; replace q1 := hf.bQ.c1; replace q2 := hf.bQ.c2; clear hbn hv7))
      all_goals go_wp2_with fail
      all_goals go_meet
      all_goals exact ⟨rfl, hB, hf⟩
    case rest =>
      obtain ⟨rfl, HBx, Hf⟩ := hcut
      clear hB hf p0 p1 p2 q0 q1 q2
      go_upto_region 9 with fail
      go_cut [69] from 40 (fun v wx => v = .bool false ∧ Hid (Below w.heap.size w wx))
      case first =>
        have hf := Hf.out
        have hB := HBx.out
        clear Hf HBx
        have p0 := hf.bP.c0
        have p1 := hf.bP.c1
        have p2 := hf.bP.c2
        have q0 := hf.bQ.c0
        have q1 := hf.bQ.c1
        have q2 := hf.bQ.c2
        rcases hpz : pkgB (nm, ims, fs) with _ | _
        · have HPz : Hid (pkgB (nm, ims, fs) = false) := hpz
          clear hpz
          go_wp2_with fail
          refine (specPackageOk nm ia ims.length ic pa fs.length pc ims fs _ hf.p.i hf.p.f hf.p.il hf.p.fl hf.p.nm hf.p.is hf.p.fs).mono ?_
          rintro e wn ⟨rfl, hbn⟩
          rw [HPz.out]
          replace hf := hf.below hbn
          replace hB := hB.trans (hbn.mono hB.size)
          clear hbn
          replace p0 := hf.bP.c0
          replace p1 := hf.bP.c1
          replace p2 := hf.bP.c2
          replace q0 := hf.bQ.c0
          replace q1 := hf.bQ.c1
          replace q2 := hf.bQ.c2
          rcases htz : treeB ns with _ | _
          · have HTz : Hid (treeB ns = false) := htz
            clear htz
            go_wp2_with fail
            refine (specTreeOk ta ns.length tc ns _ hf.t HSm.out.short (by omega)).mono ?_
            rintro e wn ⟨rfl, hbn⟩
            rw [HTz.out]
            replace hf := hf.below hbn
            replace hB := hB.trans (hbn.mono hB.size)
            clear hbn
            clear p0 p1 p2 q0 q1 q2
            go_wp2_with fail
            go_meet
            exact ⟨rfl, hB⟩
          · have HTz : Hid (treeB ns = true) := htz
            clear htz
            go_wp2_with fail
            refine (specTreeOk ta ns.length tc ns _ hf.t HSm.out.short (by omega)).mono ?_
            rintro e wn ⟨rfl, hbn⟩
            rw [HTz.out]
            replace hf := hf.below hbn
            replace hB := hB.trans (hbn.mono hB.size)
            clear hbn
            obtain ⟨htf, hlf, hag⟩ := foldT_ok HTz.out
            have hsf := tree_small7 htf
            have HTf : Hid (treeB (foldT ns) = true) := htf
            have HAg : Hid (foldT (foldT ns) = foldT ns) := hag
            have HSf : Hid (SmallT (foldT ns)) := hsf
            have hlen : (fl : Int) ≤ (ns.length : Int) := by have := HFl.out; omega
            have HNl : Hid (¬ ns.length < fl) := by exact (by omega : ¬ ns.length < fl)
            have hff := hf.f
            rw [HFl.out] at hff
            clear htf hag hsf hlf p0 p1 p2 q0 q1 q2
            go_wp2_with fail
            refine (specTreeOk fa fl fc (foldT ns) _ hff HSf.out.short (by omega)).mono ?_
            rintro e wn ⟨rfl, hbn⟩
            rw [HTf.out]
            replace hff := hff.below hbn
            replace hf := hf.below hbn
            replace hB := hB.trans (hbn.mono hB.size)
            clear hbn
            have HC : Hid (_) := implFoldedTree fa fl fc (foldT ns) _ hff HSf.out.int HSf.out.short (by omega)
            rw [HAg.out, HFl.out] at HC
            go_wp2_with fail
            refine Calls.mono HC.out ?_
            rintro e wn ⟨vg, rfl, hvg, hbn⟩
            obtain ⟨_, ga, gc, rfl, hgin⟩ := own_nodes hvg
            replace hff := hff.below hbn
            replace hf := hf.below hbn
            replace hB := hB.trans (hbn.mono hB.size)
            clear hbn
            clear hvg HC
            go_wp2_with fail
            refine (likeTreeC ga fa fl gc fc (foldT ns) _ hgin hff (by omega)).mono ?_
            rintro e wn ⟨rfl, hbn⟩
            replace hB := hB.trans (hbn.mono hB.size)
            go_wp2_with fail
            go_meet
            exact ⟨by rw [decide_eq_false HNl.out], hB⟩
        · have HPz : Hid (pkgB (nm, ims, fs) = true) := hpz
          have HQz : Hid (pkgB (xn, xi, xf) = true) := HG.out hpz
          clear hpz
          go_wp2_with fail
          refine (specPackageOk nm ia ims.length ic pa fs.length pc ims fs _ hf.p.i hf.p.f hf.p.il hf.p.fl hf.p.nm hf.p.is hf.p.fs).mono ?_
          rintro e wn ⟨rfl, hbn⟩
          rw [HPz.out]
          replace hf := hf.below hbn
          replace hB := hB.trans (hbn.mono hB.size)
          clear hbn
          replace p0 := hf.bP.c0
          replace p1 := hf.bP.c1
          replace p2 := hf.bP.c2
          replace q0 := hf.bQ.c0
          replace q1 := hf.bQ.c1
          replace q2 := hf.bQ.c2
          go_wp2_with fail
          refine (specPackageOk xn ai nI ci af nF cf xi xf _ hf.qi hf.qf (by omega) (by omega) HNx.out.1 HNx.out.2.1 HNx.out.2.2).mono ?_
          rintro e wn ⟨rfl, hbn⟩
          rw [HQz.out]
          replace hf := hf.below hbn
          replace hB := hB.trans (hbn.mono hB.size)
          clear hbn
          replace p0 := hf.bP.c0
          replace p1 := hf.bP.c1
          replace p2 := hf.bP.c2
          replace q0 := hf.bQ.c0
          replace q1 := hf.bQ.c1
          replace q2 := hf.bQ.c2
          rcases htz : treeB ns with _ | _
          · have HTz : Hid (treeB ns = false) := htz
            clear htz
            go_wp2_with fail
            refine (specTreeOk ta ns.length tc ns _ hf.t HSm.out.short (by omega)).mono ?_
            rintro e wn ⟨rfl, hbn⟩
            rw [HTz.out]
            replace hf := hf.below hbn
            replace hB := hB.trans (hbn.mono hB.size)
            clear hbn
            clear p0 p1 p2 q0 q1 q2
            go_wp2_with fail
            go_meet
            exact ⟨rfl, hB⟩
          · have HTz : Hid (treeB ns = true) := htz
            clear htz
            go_wp2_with fail
            refine (specTreeOk ta ns.length tc ns _ hf.t HSm.out.short (by omega)).mono ?_
            rintro e wn ⟨rfl, hbn⟩
            rw [HTz.out]
            replace hf := hf.below hbn
            replace hB := hB.trans (hbn.mono hB.size)
            clear hbn
            obtain ⟨htf, hlf, hag⟩ := foldT_ok HTz.out
            have hsf := tree_small7 htf
            have HTf : Hid (treeB (foldT ns) = true) := htf
            have HAg : Hid (foldT (foldT ns) = foldT ns) := hag
            have HSf : Hid (SmallT (foldT ns)) := hsf
            have hlen : (fl : Int) ≤ (ns.length : Int) := by have := HFl.out; omega
            have HNl : Hid (¬ ns.length < fl) := by exact (by omega : ¬ ns.length < fl)
            have hff := hf.f
            rw [HFl.out] at hff
            clear htf hag hsf hlf p0 p1 p2 q0 q1 q2
            go_wp2_with fail
            refine (specTreeOk fa fl fc (foldT ns) _ hff HSf.out.short (by omega)).mono ?_
            rintro e wn ⟨rfl, hbn⟩
            rw [HTf.out]
            replace hff := hff.below hbn
            replace hf := hf.below hbn
            replace hB := hB.trans (hbn.mono hB.size)
            clear hbn
            have HC : Hid (_) := implFoldedTree fa fl fc (foldT ns) _ hff HSf.out.int HSf.out.short (by omega)
            rw [HAg.out, HFl.out] at HC
            go_wp2_with fail
            refine Calls.mono HC.out ?_
            rintro e wn ⟨vg, rfl, hvg, hbn⟩
            obtain ⟨_, ga, gc, rfl, hgin⟩ := own_nodes hvg
            replace hff := hff.below hbn
            replace hf := hf.below hbn
            replace hB := hB.trans (hbn.mono hB.size)
            clear hbn
            clear hvg HC
            go_wp2_with fail
            refine (likeTreeC ga fa fl gc fc (foldT ns) _ hgin hff (by omega)).mono ?_
            rintro e wn ⟨rfl, hbn⟩
            replace hB := hB.trans (hbn.mono hB.size)
            go_wp2_with fail
            go_meet
            exact ⟨by rw [decide_eq_false HNl.out], hB⟩
      case rest =>
        obtain ⟨rfl, HB9⟩ := hcut
        clear HBx Hf HSp HG HNx H60j HSm HnI HnF HFl
        go_wp2_with fail
        refine (drawMeant _ _ _ _ hl (HCd.out _ HB9.out)).mono ?_
        rintro e w7 ⟨v, s, fn, u, xs, fuel, rfl, hsl, hfl, ⟨hfu0, hfu1⟩, ⟨g, c, rfl⟩, hrow, hxl, hxw, la, n, lc, ps, rfl, hn, hok, hb7⟩
        obtain rfl : ps.length = n := hok.hlen
        have has : AsIn w7 (some ⟨g, 0, none⟩) xs := nums_as hrow rfl
        have HB7 : Hid (Below w.heap.size w w7) := HB9.out.trans (hb7.mono HB9.out.size)
        have HSm : Hid (∀ Z, Below w7.heap.size w7 Z → Calls Tryz.prog 16 #[.slice la ps.length lc, .string ⟨s.toArray⟩, .string ⟨fn.toArray⟩, .slice (some ⟨g, 0, none⟩) xs.length c, .int .i64 20000] Z fun e w' => e = .returned (.tuple #[.int .i64 (meantV ps s fn xs 20000).1, .int .i64 (meantV ps s fn xs 20000).2]) ∧ Below Z.heap.size Z w') := fun Z hz => specMeant _ _ _ ps s fn _ _ xs 20000 Z (hok.below hz).in (by omega) (hok.short) (has.below hz) (by omega)
        have HSb : Hid (∀ Z, Below w7.heap.size w7 Z → Calls Tryz.prog 17 #[.slice la ps.length lc, .string ⟨s.toArray⟩, .string ⟨fn.toArray⟩, .slice (some ⟨g, 0, none⟩) xs.length c, .int .i64 20000] Z fun e w' => e = .returned (.int .i64 (burntV ps s fn xs 20000)) ∧ Below Z.heap.size Z w') := fun Z hz => specBurnt _ _ _ ps s fn _ _ xs 20000 Z (hok.below hz).in (by omega) (hok.short) (has.below hz) (by omega)
        have HLw : Hid (_) := @folded_law ps s fn xs
        have HAs : Hid (AsIn w7 (some ⟨g, 0, none⟩) xs) := has
        have HOk : Hid (PkgsOk w7 la ps.length lc ps) := hok
        have HLm : Hid (∀ Z la' c', (∀ p ∈ ps, pkgB p = true) → PkgsIn Z la' ps.length (foldV ps) → AsIn Z (some ⟨g, 0, none⟩) xs → Calls Tryz.prog 16 #[.slice la' ps.length c', .string ⟨s.toArray⟩, .string ⟨fn.toArray⟩, .slice (some ⟨g, 0, none⟩) xs.length c, .int .i64 20000] Z fun e w' => e = .returned (.tuple #[.int .i64 (meantV (foldV ps) s fn xs 20000).1, .int .i64 (meantV (foldV ps) s fn xs 20000).2]) ∧ Below Z.heap.size Z w') := fun Z la' c' hg hz hx => specMeant _ _ _ (foldV ps) s fn _ _ xs 20000 Z hz (by omega) (shortPs_fold hg) hx (by omega)
        have HLb : Hid (∀ Z la' c', (∀ p ∈ ps, pkgB p = true) → PkgsIn Z la' ps.length (foldV ps) → AsIn Z (some ⟨g, 0, none⟩) xs → Calls Tryz.prog 17 #[.slice la' ps.length c', .string ⟨s.toArray⟩, .string ⟨fn.toArray⟩, .slice (some ⟨g, 0, none⟩) xs.length c, .int .i64 20000] Z fun e w' => e = .returned (.int .i64 (burntV (foldV ps) s fn xs 20000)) ∧ Below Z.heap.size Z w') := fun Z la' c' hg hz hx => specBurnt _ _ _ (foldV ps) s fn _ _ xs 20000 Z hz (by omega) (shortPs_fold hg) hx (by omega)
        obtain ⟨M, hM⟩ : ∃ M, meantV ps s fn xs 20000 = M := ⟨_, rfl⟩
        obtain ⟨bb, hbb⟩ : ∃ b, burntV ps s fn xs 20000 = b := ⟨_, rfl⟩
        rw [hM] at HSm HLw
        rw [hbb] at HSb HLw
        obtain ⟨mv, mk⟩ := M
        simp only at HSm HLw
        clear hM hbb hok has hrow hxw hb7 HB9
        generalize xs.length = nx at *
        go_wp2_with fail
        refine (HSm.out _ (Below.refl _ _)).mono ?_
        rintro e w8 ⟨rfl, hb8⟩
        have HB8 : Hid (Below w.heap.size w w8) := HB7.out.trans (hb8.mono HB7.out.size)
        have Hb8 : Hid (Below w7.heap.size w7 w8) := hb8
        clear hb8
        by_cases h01 : mk = 0 ∨ mk = 1
        · obtain ⟨hgood, hme, hbu⟩ := HLw.out h01
          have HGd : Hid (∀ p ∈ ps, pkgB p = true) := hgood
          have HMe : Hid (meantV (foldV ps) s fn xs 20000 = (mv, mk)) := hme
          have HBu : Hid (burntV (foldV ps) s fn xs 20000 ≤ bb) := hbu
          clear hgood hme hbu HLw
          go_upto_region 13 with fail
          go_cut [91] from 86 (fun v wx => v = .bool false ∧ wx = w8)
          case first =>
            rcases h01 with rfl | rfl
            · go_wp2_with fail
              go_meet
              exact ⟨rfl, rfl⟩
            · go_wp2_with fail
              go_meet
              exact ⟨rfl, rfl⟩
          case rest =>
            obtain ⟨rfl, hwc⟩ := hcut
            obtain rfl := hwc.symm
            obtain ⟨X0, hX0⟩ : ∃ X0, w8.alloc (.cells #[] 30) = X0 := ⟨_, rfl⟩
            obtain ⟨B0, hB0⟩ : ∃ B, w8.heap.size = B := ⟨_, rfl⟩
            have hL0 : Ls11 w8 X0 B0 (.slice (some ⟨B0, 0, none⟩) 0 0) ps 0 [] := by
              rw [← hX0, ← hB0]
              exact ⟨World.ownsRow_lit (base := w8.heap.size) (e := 30) (size := 3) w8 #[] 0 (Nat.le_refl _) (by decide) rfl, rfl, fun j hj => absurd hj (Nat.not_lt_zero _), (Below.refl _ w8).alloc (Nat.le_refl _) _, by simp⟩
            have HL0 : Hid (_) := hL0
            have HBB : Hid (w8.heap.size = B0) := hB0
            have hs1 : (mv == mv) = true := by simp
            have hs2 : (mk == mk) = true := by simp
            clear hL0 h01
            go_wp2
            go_loopw [14, 15] (fun lv iv wx => ∃ (i : Nat) (ys : List PV), iv = .int .i64 (i : Int) ∧ i ≤ ps.length ∧ Hid (Ls11 w8 wx B0 lv ps i ys)) (fun _ iv _ => ps.length - (intOf iv).toNat)
            case atStart => exact ⟨0, [], rfl, Nat.zero_le _, HL0⟩
            case round =>
              obtain ⟨i, ys, rfl, hi, HLr⟩ := hrel
              clear HL0
              have hbr : Below w8.heap.size w8 wr := by rw [HBB.out]; exact HLr.out.b
              have hb7 : Below w7.heap.size w7 wr := Hb8.out.trans (hbr.mono Hb8.out.size)
              by_cases hlt : (i : Int) < (ps.length : Int)
              · have hi2 : i < ps.length := by omega
                obtain ⟨b, off, rfl, hbl, c0, ia, il, ic, fa, fl, fc, c1, c2, hpk⟩ := (HOk.out.below hb7).each i hi2
                have hgd : pkgB (ps.getD i pk0) = true := HGd.out _ (getD_mem11 hi2)
                have HPu : Hid (∀ Z y, Below wr.heap.size wr Z → One11 Z B0 y (foldP (ps.getD i pk0)) → _) := fun Z y (hz : Below wr.heap.size wr Z) (hy : One11 Z B0 y (foldP (ps.getD i pk0))) => (HLr.out.below hz).push y hy (by omega)
                have hBs := HLr.out.bs
                obtain ⟨p, hp⟩ : ∃ p, ps.getD i pk0 = p := ⟨_, rfl⟩
                rw [hp] at c0 hpk hgd HPu
                obtain ⟨nm9, im9, fs9⟩ := p
                simp only at c0 hpk
                have hC := implFoldedPackage nm9 ia il ic fa fl fc im9 fs9 wr hpk
                have hfp : foldPk (nm9, im9, fs9) = foldP (nm9, im9, fs9) := by unfold foldPk; rw [if_pos hgd]
                rw [hfp] at hC
                have HC : Hid (_) := hC
                clear hpk hgd hp hC hfp HLr hbr hb7
                go_wp2_with fail
                refine Calls.mono HC.out ?_
                rintro e w9 ⟨vi, vf, xs9, rfl, hxs9, hoi, hof, _, hb9⟩
                obtain ⟨ai, ci, rfl⟩ := own_any hoi
                obtain ⟨af, cf, rfl⟩ := own_any hof.row
                have hbs9 : B0 ≤ w9.heap.size := Nat.le_trans hBs hb9.size
                obtain ⟨v', Y, hr, hL⟩ := HPu.out w9 ⟨(foldP (nm9, im9, fs9)).1, (foldP (nm9, im9, fs9)).2.1, xs9, ai, ci, af, cf, 0, 0⟩ hb9 ⟨rfl, rfl, hxs9, own_base hoi hBs, hof.base hBs⟩
                have HL : Hid (_) := hL
                unfold pvI pvF at hr
                simp only at hr
                clear hoi hof hxs9 hb9 hL HC HPu
                generalize (foldP (nm9, im9, fs9)).1 = n1 at hr ⊢
                generalize (foldP (nm9, im9, fs9)).2.1.length = n2 at hr ⊢
                go_wp2_with (at_builtin; refine wpList_append_run rfl (.tmp 99) (.tmp 105) 37 rfl _ _ _ rfl rfl hr ?_; clear hr)
                go_roundw
                case rel => exact ⟨i + 1, _, by go_num, by omega, HL⟩
                case measure => simp [intOf]; omega
              · obtain rfl : i = ps.length := by omega
                obtain ⟨la2, lc2, rfl, hin2⟩ := HLr.out.in
                have has2 := HAs.out.below hb7
                have HB2 : Hid (Below w.heap.size w wr) := HB8.out.trans (hbr.mono HB8.out.size)
                have HC1 : Hid (_) := HLm.out wr la2 lc2 HGd.out hin2 has2
                rw [HMe.out] at HC1
                have HC2 : Hid (∀ Z, Below wr.heap.size wr Z → _) := fun Z (hz : Below wr.heap.size wr Z) => HLb.out Z la2 lc2 HGd.out (hin2.below hz) (has2.below hz)
                have HC3 : Hid (∀ Z, Below wr.heap.size wr Z → _) := fun Z (hz : Below wr.heap.size wr Z) => HSb.out Z (hb7.trans (hz.mono hb7.size))
                obtain ⟨b2, hb2⟩ : ∃ b, burntV (foldV ps) s fn xs 20000 = b := ⟨_, rfl⟩
                rw [hb2] at HC2 HBu
                have hle : b2 ≤ bb := HBu.out
                clear hb2 hin2 has2 HLr hbr hb7 HLm HLb HSm HSb HAs HOk HGd HMe HBu
                go_wp2_with fail
                refine Calls.mono HC1.out ?_
                rintro e wA ⟨rfl, hbA⟩
                have HBA : Hid (Below wr.heap.size wr wA) := hbA
                clear hbA HC1
                go_wp2_with fail
                refine Calls.mono (HC2.out wA HBA.out) ?_
                rintro e wB ⟨rfl, hbB⟩
                have HBB2 : Hid (Below wr.heap.size wr wB) := HBA.out.trans (hbB.mono HBA.out.size)
                clear hbB HC2
                go_wp2_with fail
                refine Calls.mono (HC3.out wB HBB2.out) ?_
                rintro e wC ⟨rfl, hbC⟩
                have HBC : Hid (Below w.heap.size w wC) := by
                  have h3 := HBB2.out.trans (hbC.mono HBB2.out.size)
                  exact HB2.out.trans (h3.mono HB2.out.size)
                clear hbC HC3
                go_wp2
                go_ret
                first | exact ⟨rfl, HBC.out⟩ | exact ⟨by simp [hle], HBC.out⟩
        · have h0 : (mk != 0) = true := bne_iff_ne.2 (fun e => h01 (Or.inl e))
          have h1 : (mk != 1) = true := bne_iff_ne.2 (fun e => h01 (Or.inr e))
          clear h01 HLw
          go_wp2
          go_ret
          exact ⟨rfl, HB8.out⟩

end Go.Proofs.YtkjojhkpoooimaaGreat
