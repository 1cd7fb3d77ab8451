/-
  Parts of one proof, one behind the other: ImgL2, RtN, PowI.
-/
import Derived.Test.YtogobeegibngiaaGreatDoorP33
import Derived.Test.YtogobeegibngiaaGreatDoorP25
import Derived.Test.YtogobeegibngiaaGreatDoorP20
import Derived.Test.YtogobeegibngiaaGreatDoorP26
import Derived.Test.YtogobeegibngiaaGreatDoorP29
import Derived.Lib.AppendIntMem
import Derived.Lib.SmallJoins
import Derived.Lib.LaidTab
import Derived.Deep.RegionHeld3

/-! Contracts of chapter 14's landed code: a line is read (withRoutineLine; written by gen_imgl2.py). -/
namespace Go.Proofs.YtogobeegibngiaaGreatDoor
open Go.RowKit

theorem TextsIn.cellI {w : World} {b off n : Nat} {ts : List (List UInt8)} (h : TextsIn w (some ⟨b, off, none⟩) n ts) (j : Nat) (hj : j < n) : b < w.heap.size ∧ w.cell? ⟨b, off + j, none⟩ = some (.string ⟨(ts.getD j []).toArray⟩) := by
  obtain ⟨b', off', e, hl, hc⟩ := h.2 j hj
  injection e with e
  injection e with e1 e2 _
  subst e1 e2
  exact ⟨hl, hc⟩
/-- What a line made of the routines. -/
def WrOut (B X w' : World) (e : Ending) (rs : List Rt) : Prop := ∃ (a' : Option Addr) (c' : Nat) (xs' : List RV), e = .returned (.slice a' xs'.length c') ∧ Rd14 B w' (.slice a' xs'.length c') xs' ∧ xs'.map (·.1) = rs ∧ KeepR X w'
set_option maxHeartbeats 8000000 in
set_option maxRecDepth 100000 in
theorem implWithRt (B X : World) (a : Option Addr) (c : Nat) (xs : List RV) (x : List UInt8) (h : Rd14 B X (.slice a xs.length c) xs) (hx : x.length ≤ 1048576) (hn : xs.length ≤ 1048576) (hcl : ∀ y ∈ xs, y.1.2.2.length ≤ 1048576) :
    Calls Tryz.prog 37 #[.slice a xs.length c, .string ⟨x.toArray⟩] X fun e w' => WrOut B X w' e (rtLo (xs.map (·.1)) x) := by
  have HW : Hid (_) := implWords x X hx
  have HWl : Hid (∀ j, ((wordsL x).getD j []).length ≤ 1048576) := fun j => Nat.le_trans (word_lenI x j) hx
  have hwn : (wordsL x).length ≤ 1048577 := by
    unfold wordsL
    split
    · simp
    · have := splitGo_len 32 x []
      unfold splitL
      omega
  have HLo : Hid (rtLo (xs.map (·.1)) x = if (wordsL x).length = 4 ∧ (wordsL x).getD 0 [] = kwRt then xs.map (·.1) ++ [((wordsL x).getD 1 [], numV ((wordsL x).getD 2 []), [])] else if xs.map (·.1) = [] then [] else addI (xs.map (·.1)) (insLo (wordsL x))) := rfl
  generalize rtLo (xs.map (·.1)) x = out at HLo ⊢
  generalize wordsL x = ws at HW HWl HLo hwn
  obtain ⟨n, hnn⟩ : ∃ n, xs.length = n := ⟨_, rfl⟩
  have HN : Hid (xs.length = n) := hnn
  rw [hnn] at h hn ⊢
  have HR : Hid (Rd14 B X (.slice a n c) xs) := h
  have HCl : Hid (∀ y ∈ xs, y.1.2.2.length ≤ 1048576) := hcl
  clear h hcl hnn
  go_enter Tryz.func37, Tryz.ntmps37
  go_wp2_with fail
  refine Calls.mono HW.out ?_
  rintro e w1 ⟨v, rfl, hv, hb1⟩
  obtain ⟨hwl, wa, wc, rfl, hwin⟩ := own_texts hv
  have HWi : Hid (∀ Y, Below w1.heap.size w1 Y → TextsIn Y wa ws.length ws) := fun Y hY => hwin.below hY
  have HR1 : Hid (Rd14 B w1 (.slice a n c) xs) := HR.out.below hb1
  have HKp : Hid (KeepR X w1) := KeepR.below hb1
  clear hv hb1 hwl HR HW
  obtain ⟨m, hm⟩ : ∃ m, ws.length = m := ⟨_, rfl⟩
  rw [hm] at HWi hwn hwin ⊢
  have HM : Hid (ws.length = m) := hm
  clear hm
  by_cases h4 : m = 4
  · subst h4
    obtain ⟨b, off, rfl, hbl, c0⟩ := hwin.2 0 (by omega)
    rw [Nat.add_zero] at c0
    by_cases hkw : ws.getD 0 [] = kwRt
    · have HYes : Hid (out = xs.map (·.1) ++ [(ws.getD 1 [], numV (ws.getD 2 []), [])]) := by exact (by rw [HLo.out, if_pos ⟨HM.out, hkw⟩] : out = xs.map (·.1) ++ [(ws.getD 1 [], numV (ws.getD 2 []), [])])
      have c1 := (hwin.cellI 1 (by omega)).2
      have c2 := (hwin.cellI 2 (by omega)).2
      rw [hkw] at c0
      have HN2 : Hid (_) := implNumberOf (ws.getD 2 []) w1 (HWl.out 2)
      have HW1 : Hid (∀ Y, Below w1.heap.size w1 Y → Y.cell? ⟨b, off + 1, none⟩ = some (.string ⟨(ws.getD 1 []).toArray⟩)) := fun Y hY => (hY.cell (p := ⟨b, off + 1, none⟩) hbl).trans c1
      generalize ws.getD 1 [] = nm1 at c1 HYes HW1
      generalize ws.getD 2 [] = x2 at c2 HYes HN2
      generalize numV x2 = ar1 at HYes HN2
      generalize numB x2 = nb at HN2
      unfold kwRt at c0
      have hkb : (([114, 111, 117, 116, 105, 110, 101] : List UInt8) == [114, 111, 117, 116, 105, 110, 101]) = true := by decide
      clear HLo hkw
      go_wp2_with fail
      refine Calls.mono HN2.out ?_
      rintro e w2 ⟨rfl, hb2⟩
      have d1 := HW1.out w2 hb2
      have h2 := HR1.out.below hb2
      rw [← HN.out] at h2
      obtain ⟨g', c', Y, hrun, hRd, hKd⟩ := h2.rtK nm1 ar1 (by rw [HN.out]; exact hn)
      have hKY : KeepR X Y := (HKp.out.trans (KeepR.below hb2)).trans hKd
      rw [HN.out] at hrun hRd
      have HO : Hid (WrOut B X Y (.returned (.slice (some ⟨g', 0, none⟩) (n + 1) c')) out) := by
        have hl : (xs ++ [((nm1, ar1, []), none, 0)] : List RV).length = n + 1 := by simp [HN.out]
        refine ⟨_, c', xs ++ [((nm1, ar1, []), none, 0)], by rw [hl], by rw [hl]; exact hRd, ?_, hKY⟩
        rw [HYes.out, List.map_append]
        rfl
      clear hRd hKd hKY h2 hb2 HYes HR1 c0 c1 c2 HW1
      go_wp2_with (at_builtin; refine wpList_append_run rfl (.tmp 30) (.tmp 36) 24 rfl _ _ _ rfl rfl hrun ?_; clear hrun)
      go_ret
      exact HO.out
    · have HNo : Hid (¬ (ws.length = 4 ∧ ws.getD 0 [] = kwRt)) := fun e => hkw e.2
      have hkb : (ws.getD 0 [] == [114, 111, 117, 116, 105, 110, 101]) = false := beq_eq_false_iff_ne.2 hkw
      generalize hw0 : ws.getD 0 [] = w0 at c0 hkb
      clear hkw hw0
      by_cases hxs : xs = []
      · subst hxs
        have hn0 : n = 0 := by rw [← HN.out]; rfl
        subst hn0
        have HO : Hid (WrOut B X w1 (.returned (.slice a 0 c)) out) := ⟨a, c, [], rfl, HR1.out, by rw [HLo.out, if_neg HNo.out]; rfl, HKp.out⟩
        clear HLo HR1
        go_wp2
        go_ret
        exact HO.out
      · obtain ⟨ys, y, rfl⟩ : ∃ ys y, xs = ys ++ [y] := by
          rcases List.eq_nil_or_concat xs with e | ⟨ys, y, e⟩
          · exact absurd e hxs
          · exact ⟨ys, y, by rw [e, List.concat_eq_append]⟩
        obtain ⟨⟨nm, ar, code⟩, av, cv⟩ := y
        obtain rfl : n = ys.length + 1 := by rw [← HN.out]; simp
        obtain ⟨gO, cp, hae⟩ := own_some (by have := HR1.out.fo.row; rw [HN.out] at this; exact this) (by omega)
        injection hae with hae _ hac
        subst hae hac
        have hcd := HCl.out ((nm, ar, code), av, cv) (by simp)
        simp only at hcd
        have HO : Hid (∀ V a' c', Rd14 B V (.slice (some ⟨gO, 0, none⟩) (ys.length + 1) c) (ys ++ [((nm, ar, code ++ [insLo ws]), a', c')]) → KeepR X V → WrOut B X V (.returned (.slice (some ⟨gO, 0, none⟩) (ys.length + 1) c)) out) := fun V a' c' hV hK => by
          have hl : (ys ++ [((nm, ar, code ++ [insLo ws]), a', c')]).length = ys.length + 1 := by simp
          refine ⟨_, c, _, by rw [hl], by rw [hl]; exact hV, ?_, hK⟩
          rw [HLo.out, if_neg HNo.out, if_neg (by simp), List.map_append, List.map_append]
          show _ = addI (ys.map (·.1) ++ [(nm, ar, code)]) (insLo ws)
          rw [addI_snoc]
          rfl
        have HC : Hid (∀ Y, Below w1.heap.size w1 Y → Calls Tryz.prog 58 #[.slice (some ⟨b, off, none⟩) 4 wc] Y fun e w' => e = .returned (insVal (insLo ws)) ∧ Below Y.heap.size Y w') := fun Y hY => implInsIn (some ⟨b, off, none⟩) 4 wc ws Y (HWi.out Y hY) HWl.out hwn
        obtain ⟨i, hi⟩ : ∃ i, insLo ws = i := ⟨_, rfl⟩
        rw [hi] at HO HC
        obtain ⟨kd, R, A, Bq, nq⟩ := i
        unfold insVal at HC
        simp only at HC
        have HSt : Hid (∀ wn, Below w1.heap.size w1 wn → wn.cell? ⟨gO, ys.length * 3 + 2, none⟩ = some (.slice av code.length cv) ∧ ∃ g' c' Y, (Builtin.append_ #[48, 48] 48 #[.slice av code.length cv, .slice (some ⟨wn.heap.size, 0, none⟩) 1 1]).run Tryz.prog (wn.alloc (.cells #[.int .i64 kd, .int .i64 R, .int .i64 A, .int .i64 Bq, .string ⟨nq.toArray⟩] 56)) = .ok (.slice (some ⟨g', 0, none⟩) (code.length + 1) c') Y ∧
            Y.cell? ⟨gO, ys.length * 3 + 2, none⟩ = some (.slice av code.length cv) ∧ Y.frozen? ⟨gO, ys.length * 3 + 2, none⟩ = false ∧ WrOut B X (Y.setCell ⟨gO, ys.length * 3 + 2, none⟩ (.slice (some ⟨g', 0, none⟩) (code.length + 1) c')) (.returned (.slice (some ⟨gO, 0, none⟩) (ys.length + 1) c)) out) := fun wn hw => by
          have hr := HR1.out.below hw
          obtain ⟨g', c', Y, h1, h2, h3, h4, h5⟩ := hr.insK (kd, R, A, Bq, nq) hcd
          exact ⟨hr.code, g', c', Y, h1, h2, h3, HO.out _ _ _ h4 ((HKp.out.trans (KeepR.below hw)).trans h5)⟩
        have p0 := (HSt.out w1 (Below.refl _ _)).1
        have hB0 : Below w1.heap.size w1 w1.drew := ⟨rfl, rfl, rfl, Nat.le_refl _, fun _ _ => rfl⟩
        have p1 := (HSt.out w1.drew hB0).1
        have hql : ((ys.length : Nat) : Int) < ((ys.length + 1 : Nat) : Int) := by omega
        obtain ⟨q, hq⟩ : ∃ q, ys.length = q := ⟨_, rfl⟩
        rw [hq] at HSt p0 p1 hql hn ⊢
        have hqi : ((q + 1 : Nat) : Int) - 1 = (q : Int) := by omega
        have hqn : (q : Int) ≤ 1048576 := by omega
        have hql2 : (q : Int) < (q : Int) + 1 := by omega
        generalize code.length = cl at HSt p0 p1
        clear HLo HR1 HNo HO hi hxs HCl HWi hcd hq hwin
        go_wp2_with fail
        refine Till.region (S := (fun w' => w'.cell? ⟨gO, q * 3 + 2, none⟩ = some (.slice av cl cv))) (E := [13]) (by kernel_rfl) ?_ (fun hHeld hSh => ?_)
        · first | (dsimp only; done) | (dsimp only; go_keep) | go_keep
        refine Till.take (i := 0) (o := ⟨some 40, _, _, _, _, _⟩) (v := ?va0) (d := 30) rfl (by kernel_rfl) (by kernel_rfl) (by kernel_rfl) (by kernel_rfl) (fun _ _ _ h => h) (Or.inl ⟨by rfl, ?hya0⟩) (by assumption) hSh (fun hSh2 => ?resta0)
        case hya0 => (intro wq hSw; (try dsimp only at hSw); first | (go_simp; done) | (go_simp; with_reducible rfl))
        clear hSh; rename Shut11 _ _ _ => hSh
        simp only [Act.put, List.setIfInBounds_toArray, List.set_cons_zero, List.set_cons_succ]
        refine Till.take (i := 1) (o := ⟨some 41, _, _, _, _, _⟩) (v := ?va1) (d := 30) rfl (by kernel_rfl) (by kernel_rfl) (by kernel_rfl) (by kernel_rfl) (fun _ _ _ h => h) (Or.inl ⟨by rfl, ?hya1⟩) (by assumption) hSh (fun hSh2 => ?resta1)
        case hya1 => (intro wq hSw; (try dsimp only at hSw); first | (go_simp; done) | (go_simp; with_reducible rfl))
        clear hSh; rename Shut11 _ _ _ => hSh
        simp only [Act.put, List.setIfInBounds_toArray, List.set_cons_zero, List.set_cons_succ]
        refine Till.take (i := 2) (o := ⟨some 42, _, _, _, _, _⟩) (v := ?va2) (d := 30) rfl (by kernel_rfl) (by kernel_rfl) (by kernel_rfl) (by kernel_rfl) (fun _ _ _ h => h) (Or.inl ⟨by rfl, ?hya2⟩) (by assumption) hSh (fun hSh2 => ?resta2)
        case hya2 => (intro wq hSw; (try dsimp only at hSw); first | (go_simp; done) | (go_simp; with_reducible rfl))
        clear hSh; rename Shut11 _ _ _ => hSh
        simp only [Act.put, List.setIfInBounds_toArray, List.set_cons_zero, List.set_cons_succ]
        refine Till.take (i := 3) (o := ⟨some 43, _, _, _, _, _⟩) (v := ?va3) (d := 30) rfl (by kernel_rfl) (by kernel_rfl) (by kernel_rfl) (by kernel_rfl) (fun _ _ _ h => h) (Or.inl ⟨by rfl, ?hya3⟩) (by assumption) hSh (fun hSh2 => ?resta3)
        case hya3 => (intro wq hSw; (try dsimp only at hSw); first | (go_simp; done) | (go_simp; with_reducible rfl))
        clear hSh; rename Shut11 _ _ _ => hSh
        simp only [Act.put, List.setIfInBounds_toArray, List.set_cons_zero, List.set_cons_succ]
        refine Till.take (i := 4) (o := ⟨some 44, _, _, _, _, _⟩) (v := ?va4) (d := 30) rfl (by kernel_rfl) (by kernel_rfl) (by kernel_rfl) (by kernel_rfl) (fun _ _ _ h => h) (Or.inl ⟨by rfl, ?hya4⟩) (by assumption) hSh (fun hSh2 => ?resta4)
        case hya4 => (intro wq hSw; (try dsimp only at hSw); first | (go_simp; done) | (go_simp; with_reducible rfl))
        clear hSh; rename Shut11 _ _ _ => hSh
        simp only [Act.put, List.setIfInBounds_toArray, List.set_cons_zero, List.set_cons_succ]
        refine Till.take (i := 5) (o := ⟨some 45, _, _, _, _, _⟩) (v := ?va5) (d := 30) rfl (by kernel_rfl) (by kernel_rfl) (by kernel_rfl) (by kernel_rfl) (fun _ _ _ h => h) (Or.inl ⟨by rfl, ?hya5⟩) (by assumption) hSh (fun hSh2 => ?resta5)
        case hya5 => (intro wq hSw; (try dsimp only at hSw); first | (go_simp; done) | (go_simp; with_reducible rfl))
        clear hSh; rename Shut11 _ _ _ => hSh
        simp only [Act.put, List.setIfInBounds_toArray, List.set_cons_zero, List.set_cons_succ]
        refine Till.take (i := 6) (o := ⟨some 46, _, _, _, _, _⟩) (v := ?va6) (d := 30) rfl (by kernel_rfl) (by kernel_rfl) (by kernel_rfl) (by kernel_rfl) (fun _ _ _ h => h) (Or.inl ⟨by rfl, ?hya6⟩) (by assumption) hSh (fun hSh2 => ?resta6)
        case hya6 => (intro wq hSw; (try dsimp only at hSw); first | (go_simp; done) | (go_simp; with_reducible rfl))
        clear hSh; rename Shut11 _ _ _ => hSh
        simp only [Act.put, List.setIfInBounds_toArray, List.set_cons_zero, List.set_cons_succ]
        refine Till.take (i := 7) (o := ⟨some 47, _, _, _, _, _⟩) (v := ?va7) (d := 30) rfl (by kernel_rfl) (by kernel_rfl) (by kernel_rfl) (by kernel_rfl) (fun _ _ _ h => h) (Or.inl ⟨by rfl, ?hya7⟩) (by assumption) hSh (fun hSh2 => ?resta7)
        case hya7 => (intro wq hSw; (try dsimp only at hSw); first | (go_simp; done) | (go_simp; with_reducible rfl))
        clear hSh; rename Shut11 _ _ _ => hSh
        simp only [Act.put, List.setIfInBounds_toArray, List.set_cons_zero, List.set_cons_succ]
        refine Till.one (i := 8) (by kernel_rfl) rfl hSh (fun K hK => ?_)
        clear hSh
        go_simp
        go_at_call 58; refine Calls.mono (HC.out _ hB0) ?_; rintro e wn ⟨rfl, hbn⟩; obtain ⟨d0, g', c', Y, hrun, y0, yf, hO⟩ := HSt.out wn (hB0.trans (hbn.mono hB0.size)); have d1 : (wn.alloc (.cells #[.int .i64 kd, .int .i64 R, .int .i64 A, .int .i64 Bq, .string ⟨nq.toArray⟩] 56)).cell? ⟨gO, q * 3 + 2, none⟩ = some (.slice av cl cv) := cell_alwR _ d0; have HOO : Hid (_) := hO; clear hO hbn hB0; dsimp only
        refine hK.out _ _ ?_ (fun hHeld hSh => ?_)
        · first | (dsimp only; done) | (dsimp only; go_keep) | go_keep
        clear hK K
        refine Till.one (i := 9) (by kernel_rfl) rfl hSh (fun K hK => ?_)
        clear hSh
        go_simp
        skip
        refine hK.out _ _ ?_ (fun hHeld hSh => ?_)
        · first | (dsimp only; done) | (dsimp only; go_keep) | go_keep
        clear hK K
        refine Till.one (i := 10) (by kernel_rfl) rfl hSh (fun K hK => ?_)
        clear hSh
        refine step_append_run (by rfl) (.tmp 46) (.tmp 49) 48 (by rfl) _ _ _ (by rfl) (by rfl) hrun ?_
        refine hK.out _ _ ?_ (fun hHeld hSh => ?_)
        · first | (dsimp only; done) | (dsimp only; go_keep) | go_keep
        clear hK K
        refine Till.take (i := 11) (o := ⟨some 51, _, _, _, _, _⟩) (v := ?va11) (d := 30) rfl (by kernel_rfl) (by kernel_rfl) (by kernel_rfl) (by kernel_rfl) (fun _ _ _ h => h) (Or.inl ⟨by rfl, ?hya11⟩) (by assumption) hSh (fun hSh2 => ?resta11)
        case hya11 => (intro wq hSw; (try dsimp only at hSw); first | (go_simp; done) | (go_simp; with_reducible rfl))
        clear hSh; rename Shut11 _ _ _ => hSh
        simp only [Act.put]
        refine Till.take (i := 12) (o := ⟨some 52, _, _, _, _, _⟩) (v := ?va12) (d := 30) rfl (by kernel_rfl) (by kernel_rfl) (by kernel_rfl) (by kernel_rfl) (fun _ _ _ h => h) (Or.inl ⟨by rfl, ?hya12⟩) (by assumption) hSh (fun hSh2 => ?resta12)
        case hya12 => (intro wq hSw; (try dsimp only at hSw); first | (go_simp; done) | (go_simp; with_reducible rfl))
        clear hSh; rename Shut11 _ _ _ => hSh
        simp only [Act.put, List.setIfInBounds_toArray]
        refine Till.last (i := 13) (by kernel_rfl) rfl (by decide) (fun K hK => ?_)
        go_simp
        refine hK.out _ _ ?_
        clear hK K
        refine Till.done (by kernel_rfl) ?_ _
        clear hHeld HSt HC hrun
        go_wp2
        go_ret
        exact HOO.out
  · have HNo : Hid (¬ (ws.length = 4 ∧ ws.getD 0 [] = kwRt)) := fun e => h4 (by rw [← HM.out]; exact e.1)
    have h4b : ((m : Int) == 4) = false := beq_eq_false_iff_ne.2 (by omega)
    by_cases hxs : xs = []
    · subst hxs
      have hn0 : n = 0 := by rw [← HN.out]; rfl
      subst hn0
      have HO : Hid (WrOut B X w1 (.returned (.slice a 0 c)) out) := ⟨a, c, [], rfl, HR1.out, by rw [HLo.out, if_neg HNo.out]; rfl, HKp.out⟩
      clear HLo HR1
      go_wp2
      go_ret
      exact HO.out
    · obtain ⟨ys, y, rfl⟩ : ∃ ys y, xs = ys ++ [y] := by
        rcases List.eq_nil_or_concat xs with e | ⟨ys, y, e⟩
        · exact absurd e hxs
        · exact ⟨ys, y, by rw [e, List.concat_eq_append]⟩
      obtain ⟨⟨nm, ar, code⟩, av, cv⟩ := y
      obtain rfl : n = ys.length + 1 := by rw [← HN.out]; simp
      obtain ⟨gO, cp, hae⟩ := own_some (by have := HR1.out.fo.row; rw [HN.out] at this; exact this) (by omega)
      injection hae with hae _ hac
      subst hae hac
      have hcd := HCl.out ((nm, ar, code), av, cv) (by simp)
      simp only at hcd
      have HO : Hid (∀ V a' c', Rd14 B V (.slice (some ⟨gO, 0, none⟩) (ys.length + 1) c) (ys ++ [((nm, ar, code ++ [insLo ws]), a', c')]) → KeepR X V → WrOut B X V (.returned (.slice (some ⟨gO, 0, none⟩) (ys.length + 1) c)) out) := fun V a' c' hV hK => by
        have hl : (ys ++ [((nm, ar, code ++ [insLo ws]), a', c')]).length = ys.length + 1 := by simp
        refine ⟨_, c, _, by rw [hl], by rw [hl]; exact hV, ?_, hK⟩
        rw [HLo.out, if_neg HNo.out, if_neg (by simp), List.map_append, List.map_append]
        show _ = addI (ys.map (·.1) ++ [(nm, ar, code)]) (insLo ws)
        rw [addI_snoc]
        rfl
      have HC : Hid (∀ Y, Below w1.heap.size w1 Y → Calls Tryz.prog 58 #[.slice wa m wc] Y fun e w' => e = .returned (insVal (insLo ws)) ∧ Below Y.heap.size Y w') := fun Y hY => implInsIn wa m wc ws Y (HWi.out Y hY) HWl.out hwn
      obtain ⟨i, hi⟩ : ∃ i, insLo ws = i := ⟨_, rfl⟩
      rw [hi] at HO HC
      obtain ⟨kd, R, A, Bq, nq⟩ := i
      unfold insVal at HC
      simp only at HC
      have HSt : Hid (∀ wn, Below w1.heap.size w1 wn → wn.cell? ⟨gO, ys.length * 3 + 2, none⟩ = some (.slice av code.length cv) ∧ ∃ g' c' Y, (Builtin.append_ #[48, 48] 48 #[.slice av code.length cv, .slice (some ⟨wn.heap.size, 0, none⟩) 1 1]).run Tryz.prog (wn.alloc (.cells #[.int .i64 kd, .int .i64 R, .int .i64 A, .int .i64 Bq, .string ⟨nq.toArray⟩] 56)) = .ok (.slice (some ⟨g', 0, none⟩) (code.length + 1) c') Y ∧
          Y.cell? ⟨gO, ys.length * 3 + 2, none⟩ = some (.slice av code.length cv) ∧ Y.frozen? ⟨gO, ys.length * 3 + 2, none⟩ = false ∧ WrOut B X (Y.setCell ⟨gO, ys.length * 3 + 2, none⟩ (.slice (some ⟨g', 0, none⟩) (code.length + 1) c')) (.returned (.slice (some ⟨gO, 0, none⟩) (ys.length + 1) c)) out) := fun wn hw => by
        have hr := HR1.out.below hw
        obtain ⟨g', c', Y, h1, h2, h3, h4, h5⟩ := hr.insK (kd, R, A, Bq, nq) hcd
        exact ⟨hr.code, g', c', Y, h1, h2, h3, HO.out _ _ _ h4 ((HKp.out.trans (KeepR.below hw)).trans h5)⟩
      have p0 := (HSt.out w1 (Below.refl _ _)).1
      have hB0 : Below w1.heap.size w1 w1.drew := ⟨rfl, rfl, rfl, Nat.le_refl _, fun _ _ => rfl⟩
      have p1 := (HSt.out w1.drew hB0).1
      have hql : ((ys.length : Nat) : Int) < ((ys.length + 1 : Nat) : Int) := by omega
      obtain ⟨q, hq⟩ : ∃ q, ys.length = q := ⟨_, rfl⟩
      rw [hq] at HSt p0 p1 hql hn ⊢
      have hqi : ((q + 1 : Nat) : Int) - 1 = (q : Int) := by omega
      have hqn : (q : Int) ≤ 1048576 := by omega
      have hql2 : (q : Int) < (q : Int) + 1 := by omega
      generalize code.length = cl at HSt p0 p1
      clear HLo HR1 HNo HO hi hxs HCl HWi hcd hq hwin
      go_wp2_with fail
      refine Till.region (S := (fun w' => w'.cell? ⟨gO, q * 3 + 2, none⟩ = some (.slice av cl cv))) (E := [13]) (by kernel_rfl) ?_ (fun hHeld hSh => ?_)
      · first | (dsimp only; done) | (dsimp only; go_keep) | go_keep
      refine Till.take (i := 0) (o := ⟨some 40, _, _, _, _, _⟩) (v := ?vb0) (d := 30) rfl (by kernel_rfl) (by kernel_rfl) (by kernel_rfl) (by kernel_rfl) (fun _ _ _ h => h) (Or.inl ⟨by rfl, ?hyb0⟩) (by assumption) hSh (fun hSh2 => ?restb0)
      case hyb0 => (intro wq hSw; (try dsimp only at hSw); first | (go_simp; done) | (go_simp; with_reducible rfl))
      clear hSh; rename Shut11 _ _ _ => hSh
      simp only [Act.put, List.setIfInBounds_toArray, List.set_cons_zero, List.set_cons_succ]
      refine Till.take (i := 1) (o := ⟨some 41, _, _, _, _, _⟩) (v := ?vb1) (d := 30) rfl (by kernel_rfl) (by kernel_rfl) (by kernel_rfl) (by kernel_rfl) (fun _ _ _ h => h) (Or.inl ⟨by rfl, ?hyb1⟩) (by assumption) hSh (fun hSh2 => ?restb1)
      case hyb1 => (intro wq hSw; (try dsimp only at hSw); first | (go_simp; done) | (go_simp; with_reducible rfl))
      clear hSh; rename Shut11 _ _ _ => hSh
      simp only [Act.put, List.setIfInBounds_toArray, List.set_cons_zero, List.set_cons_succ]
      refine Till.take (i := 2) (o := ⟨some 42, _, _, _, _, _⟩) (v := ?vb2) (d := 30) rfl (by kernel_rfl) (by kernel_rfl) (by kernel_rfl) (by kernel_rfl) (fun _ _ _ h => h) (Or.inl ⟨by rfl, ?hyb2⟩) (by assumption) hSh (fun hSh2 => ?restb2)
      case hyb2 => (intro wq hSw; (try dsimp only at hSw); first | (go_simp; done) | (go_simp; with_reducible rfl))
      clear hSh; rename Shut11 _ _ _ => hSh
      simp only [Act.put, List.setIfInBounds_toArray, List.set_cons_zero, List.set_cons_succ]
      refine Till.take (i := 3) (o := ⟨some 43, _, _, _, _, _⟩) (v := ?vb3) (d := 30) rfl (by kernel_rfl) (by kernel_rfl) (by kernel_rfl) (by kernel_rfl) (fun _ _ _ h => h) (Or.inl ⟨by rfl, ?hyb3⟩) (by assumption) hSh (fun hSh2 => ?restb3)
      case hyb3 => (intro wq hSw; (try dsimp only at hSw); first | (go_simp; done) | (go_simp; with_reducible rfl))
      clear hSh; rename Shut11 _ _ _ => hSh
      simp only [Act.put, List.setIfInBounds_toArray, List.set_cons_zero, List.set_cons_succ]
      refine Till.take (i := 4) (o := ⟨some 44, _, _, _, _, _⟩) (v := ?vb4) (d := 30) rfl (by kernel_rfl) (by kernel_rfl) (by kernel_rfl) (by kernel_rfl) (fun _ _ _ h => h) (Or.inl ⟨by rfl, ?hyb4⟩) (by assumption) hSh (fun hSh2 => ?restb4)
      case hyb4 => (intro wq hSw; (try dsimp only at hSw); first | (go_simp; done) | (go_simp; with_reducible rfl))
      clear hSh; rename Shut11 _ _ _ => hSh
      simp only [Act.put, List.setIfInBounds_toArray, List.set_cons_zero, List.set_cons_succ]
      refine Till.take (i := 5) (o := ⟨some 45, _, _, _, _, _⟩) (v := ?vb5) (d := 30) rfl (by kernel_rfl) (by kernel_rfl) (by kernel_rfl) (by kernel_rfl) (fun _ _ _ h => h) (Or.inl ⟨by rfl, ?hyb5⟩) (by assumption) hSh (fun hSh2 => ?restb5)
      case hyb5 => (intro wq hSw; (try dsimp only at hSw); first | (go_simp; done) | (go_simp; with_reducible rfl))
      clear hSh; rename Shut11 _ _ _ => hSh
      simp only [Act.put, List.setIfInBounds_toArray, List.set_cons_zero, List.set_cons_succ]
      refine Till.take (i := 6) (o := ⟨some 46, _, _, _, _, _⟩) (v := ?vb6) (d := 30) rfl (by kernel_rfl) (by kernel_rfl) (by kernel_rfl) (by kernel_rfl) (fun _ _ _ h => h) (Or.inl ⟨by rfl, ?hyb6⟩) (by assumption) hSh (fun hSh2 => ?restb6)
      case hyb6 => (intro wq hSw; (try dsimp only at hSw); first | (go_simp; done) | (go_simp; with_reducible rfl))
      clear hSh; rename Shut11 _ _ _ => hSh
      simp only [Act.put, List.setIfInBounds_toArray, List.set_cons_zero, List.set_cons_succ]
      refine Till.take (i := 7) (o := ⟨some 47, _, _, _, _, _⟩) (v := ?vb7) (d := 30) rfl (by kernel_rfl) (by kernel_rfl) (by kernel_rfl) (by kernel_rfl) (fun _ _ _ h => h) (Or.inl ⟨by rfl, ?hyb7⟩) (by assumption) hSh (fun hSh2 => ?restb7)
      case hyb7 => (intro wq hSw; (try dsimp only at hSw); first | (go_simp; done) | (go_simp; with_reducible rfl))
      clear hSh; rename Shut11 _ _ _ => hSh
      simp only [Act.put, List.setIfInBounds_toArray, List.set_cons_zero, List.set_cons_succ]
      refine Till.one (i := 8) (by kernel_rfl) rfl hSh (fun K hK => ?_)
      clear hSh
      go_simp
      go_at_call 58; refine Calls.mono (HC.out _ hB0) ?_; rintro e wn ⟨rfl, hbn⟩; obtain ⟨d0, g', c', Y, hrun, y0, yf, hO⟩ := HSt.out wn (hB0.trans (hbn.mono hB0.size)); have d1 : (wn.alloc (.cells #[.int .i64 kd, .int .i64 R, .int .i64 A, .int .i64 Bq, .string ⟨nq.toArray⟩] 56)).cell? ⟨gO, q * 3 + 2, none⟩ = some (.slice av cl cv) := cell_alwR _ d0; have HOO : Hid (_) := hO; clear hO hbn hB0; dsimp only
      refine hK.out _ _ ?_ (fun hHeld hSh => ?_)
      · first | (dsimp only; done) | (dsimp only; go_keep) | go_keep
      clear hK K
      refine Till.one (i := 9) (by kernel_rfl) rfl hSh (fun K hK => ?_)
      clear hSh
      go_simp
      skip
      refine hK.out _ _ ?_ (fun hHeld hSh => ?_)
      · first | (dsimp only; done) | (dsimp only; go_keep) | go_keep
      clear hK K
      refine Till.one (i := 10) (by kernel_rfl) rfl hSh (fun K hK => ?_)
      clear hSh
      refine step_append_run (by rfl) (.tmp 46) (.tmp 49) 48 (by rfl) _ _ _ (by rfl) (by rfl) hrun ?_
      refine hK.out _ _ ?_ (fun hHeld hSh => ?_)
      · first | (dsimp only; done) | (dsimp only; go_keep) | go_keep
      clear hK K
      refine Till.take (i := 11) (o := ⟨some 51, _, _, _, _, _⟩) (v := ?vb11) (d := 30) rfl (by kernel_rfl) (by kernel_rfl) (by kernel_rfl) (by kernel_rfl) (fun _ _ _ h => h) (Or.inl ⟨by rfl, ?hyb11⟩) (by assumption) hSh (fun hSh2 => ?restb11)
      case hyb11 => (intro wq hSw; (try dsimp only at hSw); first | (go_simp; done) | (go_simp; with_reducible rfl))
      clear hSh; rename Shut11 _ _ _ => hSh
      simp only [Act.put]
      refine Till.take (i := 12) (o := ⟨some 52, _, _, _, _, _⟩) (v := ?vb12) (d := 30) rfl (by kernel_rfl) (by kernel_rfl) (by kernel_rfl) (by kernel_rfl) (fun _ _ _ h => h) (Or.inl ⟨by rfl, ?hyb12⟩) (by assumption) hSh (fun hSh2 => ?restb12)
      case hyb12 => (intro wq hSw; (try dsimp only at hSw); first | (go_simp; done) | (go_simp; with_reducible rfl))
      clear hSh; rename Shut11 _ _ _ => hSh
      simp only [Act.put, List.setIfInBounds_toArray]
      refine Till.last (i := 13) (by kernel_rfl) rfl (by decide) (fun K hK => ?_)
      go_simp
      refine hK.out _ _ ?_
      clear hK K
      refine Till.done (by kernel_rfl) ?_ _
      clear hHeld HSt HC hrun
      go_wp2
      go_ret
      exact HOO.out

end Go.Proofs.YtogobeegibngiaaGreatDoor

/-! A line is taken into routines (withRoutineLine), told by a bound; a world cut off. -/
namespace Go.Proofs.YtogobeegibngiaaGreatDoor
open Go.RowKit

/-- A world without what lies from B on. -/
def cutAt (X : World) (B : Nat) : World := { X with heap := X.heap.extract 0 B }
theorem cutAt_size {X : World} {B : Nat} (h : B ≤ X.heap.size) : (cutAt X B).heap.size = B := by simp [cutAt]; omega
theorem cutAt_below {X : World} {B : Nat} (h : B ≤ X.heap.size) : Below B (cutAt X B) X := by
  refine ⟨rfl, rfl, rfl, by rw [cutAt_size h]; exact h, fun k hk => ?_⟩
  have hk2 : k < min B X.heap.size := by omega
  simp [cutAt, hk2]
theorem cutAt_back {X Y : World} {B : Nat} (h : B ≤ X.heap.size) (hs : X.heap.size ≤ Y.heap.size) (hb : Below B (cutAt X B) Y) : Below B X Y := by
  have hc := cutAt_below h
  exact ⟨hb.os.trans hc.os.symm, hb.tape.trans hc.tape.symm, hb.output.trans hc.output.symm, hs, fun k hk => (hb.block k hk).trans (hc.block k hk).symm⟩
theorem implWithRtN (B : Nat) (X : World) (a : Option Addr) (c : Nat) (xs : List RV) (x : List UInt8) (hB : B ≤ X.heap.size) (hf : RtsOwn X B (.slice a xs.length c) xs) (ha : ApartR (xs.map rvT)) (hx : x.length ≤ 1048576) (hn : xs.length ≤ 1048576) (hcl : ∀ y ∈ xs, y.1.2.2.length ≤ 1048576) :
    Calls Tryz.prog 37 #[.slice a xs.length c, .string ⟨x.toArray⟩] X fun e w' => ∃ (a' : Option Addr) (c' : Nat) (xs' : List RV), e = .returned (.slice a' xs'.length c') ∧ RtsOwn w' B (.slice a' xs'.length c') xs' ∧ ApartR (xs'.map rvT) ∧ xs'.map (·.1) = rtLo (xs.map (·.1)) x ∧ KeepR X w' ∧ Below B X w' := by
  have hz := cutAt_size hB
  refine (implWithRt (cutAt X B) X a c xs x ⟨by rw [hz]; exact hf, ha, by rw [hz]; exact cutAt_below hB⟩ hx hn hcl).mono ?_
  rintro e w' ⟨a', c', xs', rfl, hR, hm, hK⟩
  have h1 := hR.fo
  have h2 := hR.b
  rw [hz] at h1 h2
  exact ⟨a', c', xs', rfl, h1, hR.ap, hm, hK, cutAt_back hB hK.1 h2⟩

end Go.Proofs.YtogobeegibngiaaGreatDoor

/-! The landed code's numbers and texts: the library's table of powers of ten, numbers written, texts joined. -/
namespace Go.Proofs.YtogobeegibngiaaGreatDoor
open Go.RowKit

/-- The library's table of powers of ten lies as its text lays it. -/
def PowIs (w : World) : Prop := Lib.TabIs Tryz.prog w "internal/strconv.uint64pow10" .u64 Lib.pow10Tab
theorem powAt : (Tryz.prog.globalNamed "internal/strconv.uint64pow10").isSome = true := by kernel_rfl
theorem powTy : (Tryz.prog.globalNamed "internal/strconv.uint64pow10").bind (fun g => (Tryz.prog.globals[g]?).map (·.type)) = some 142 := by kernel_rfl
/-- A listed variable that reads as the table holds it. -/
theorem pow_of_cells {W : World} {g : Nat} {t : TypeId} {cs : Array Value} {fuel : Nat} {p : List MemPlace} (hg : Tryz.prog.globalNamed "internal/strconv.uint64pow10" = some g) (ht : (Tryz.prog.globals[g]?).map (·.type) = some t)
    (hv : W.var? Tryz.prog "internal/strconv.uint64pow10" = some cs) (hd : DataW.trod (fun _ => ()) Tryz.prog W 0 (fun _ => true) false fuel t cs.toList = some (Lib.tabData .u64 Lib.pow10Tab, p)) : PowIs W := by
  have h1 := powTy
  rw [hg, Option.bind_some, ht] at h1
  obtain rfl := Option.some.inj h1
  unfold PowIs Lib.TabIs
  rw [hv, ← Lib.cells_of_tab Tryz.underlying142 Tryz.underlying115 (by kernel_rfl) (by kernel_rfl) hd]
theorem PowIs.below {w w' : World} (h : PowIs w) (hb : Below w.heap.size w w') : PowIs w' := by
  obtain ⟨g, hg⟩ := Option.isSome_iff_exists.1 powAt
  exact Go.Joins.tab_stays hg h hb (Nat.le_refl _)
theorem PowIs.drew {w : World} (h : PowIs w) : PowIs w.drew := h

theorem fmtInt (n : Int) (w : World) (ht : PowIs w) (h0 : -2147483648 ≤ n) (h1 : n ≤ 2147483647) :
    Calls Tryz.prog 46 #[.int .i64 n, .int .i64 10] w fun e w' => e = .returned (.string ⟨(intL n).toArray⟩) ∧ Below w.heap.size w w' := by
  refine (Tryz.strconv_FormatInt_10 n (by omega) (by omega) w ht).mono ?_
  rintro e w' ⟨rfl, k, os, rfl⟩
  exact ⟨by rw [itoa_int], Lib.below_grow _ w (Nat.le_refl _) k os⟩

theorem joinTexts (v : Value) (ts : List (List UInt8)) (base : Nat) (w : World) (h : w.ownsRow base 9 1 v ts.length (strV ts)) (hn : ts.length ≤ 1048576) (hl : (joinBy 32 ts).length ≤ 1048576) :
    Calls Tryz.prog 70 #[v, .string ⟨#[32]⟩] w fun e w' => e = .returned (.string ⟨(joinBy 32 ts).toArray⟩) ∧ Below w.heap.size w w' := by
  rcases h.2 with ⟨rfl, h0⟩ | ⟨g, cap, cur, rfl, hb, hg, hcap, _⟩
  · obtain rfl : ts = [] := List.eq_nil_of_length_eq_zero h0
    refine (Tryz.strings_Join_none none 0 ⟨#[32]⟩ w).mono ?_
    rintro e w' ⟨rfl, rfl⟩
    exact ⟨rfl, Below.refl _ _⟩
  · have hx : (ts.map (fun l => (⟨l.toArray⟩ : ByteArray))).map (·.data.toList) = ts := by rw [List.map_map]; exact (List.map_congr_left (fun l _ => rfl)).trans (List.map_id ts)
    have hxl : (ts.map (fun l => (⟨l.toArray⟩ : ByteArray))).length = ts.length := by simp
    have hj : Lib.join ((ts.map (fun l => (⟨l.toArray⟩ : ByteArray))).map (·.data.toList)) (⟨#[32]⟩ : ByteArray).data.toList = joinBy 32 ts := by rw [hx]; exact join_by ts
    have hc := Tryz.strings_Join g 0 cap (ts.map (fun l => (⟨l.toArray⟩ : ByteArray))) ⟨#[32]⟩ w (by
      intro j x hjx
      rw [List.getElem?_map, Option.map_eq_some_iff] at hjx
      obtain ⟨l, hl1, rfl⟩ := hjx
      obtain ⟨hj2, hl2⟩ := List.getElem?_eq_some_iff.1 hl1
      have := str_cellsD h rfl j hj2
      rw [Nat.zero_add, this, List.getD_eq_getElem?_getD, hl1]
      rfl) (h.lt g rfl).2 (by rw [hxl]; omega) (by rw [hxl]; exact hcap) (by rw [hj]; omega)
    rw [hj, hxl] at hc
    exact hc

end Go.Proofs.YtogobeegibngiaaGreatDoor
