/-
  Parts of one proof, one behind the other: DrawI3, Math14, Math14R, Math14S.
-/
import Derived.Test.YtogobeegibngiaaGreatDoorP13
import Derived.Test.YtogobeegibngiaaGreatDoorP8
import Derived.Test.YtogobeegibngiaaGreatDoorP12
import Derived.Deep.Cut
import Derived.Test.YtogobeegibngiaaGreatDoorP6
import Derived.Test.YtogobeegibngiaaGreatDoorP3

/-! Code is drawn: l13Draw, DrawCodeOk, DrawRegisters, DrawCompiled. -/
namespace Go.Proofs.YtogobeegibngiaaGreatDoor
open Go.RowKit

def AllI (xs : List In13) : Prop := ∀ i ∈ xs, SmI i
theorem AllI.push {xs : List In13} {i : In13} (h : AllI xs) (hi : SmI i) : AllI (xs ++ [i]) := fun j hj => by
  rcases List.mem_append.1 hj with e | e
  · exact h j e
  · rw [List.mem_singleton.1 e]; exact hi
theorem AllI.set {xs : List In13} {i : In13} (h : AllI xs) (hi : SmI i) (j : Nat) : AllI (xs.set j i) := fun q hq => by
  rcases List.mem_or_eq_of_mem_set hq with e | e
  · exact h q e
  · rw [e]; exact hi
def sl13 : Value → Nat
  | .slice _ n _ => n
  | _ => 0
theorem smI_end : SmI (10, 0, 0, 0, []) := by unfold SmI; decide
/-- What is held while code is drawn. -/
structure Dc (w X : World) (B : Nat) (c : Option Addr) (len cap : Nat) (v : Value) (xs : List In13) (m : Nat) : Prop where
  cur : Cur X B c len cap
  g : w.grownBy X (some B)
  row : X.ownsRow w.heap.size 56 5 v m (insV xs)
  ln : xs.length = m
  sm : AllI xs
  bw : B < w.heap.size
section
variable {w X Y : World} {B : Nat} {c : Option Addr} {len cap : Nat} {v : Value} {xs : List In13} {m : Nat}
theorem Dc.draw (h : Dc w X B c len cap v xs m) (hc : Cur Y B c len cap) (hg : X.grownBy Y (some B)) : Dc w Y B c len cap v xs m :=
  ⟨hc, h.g.trans hg, own_other h.row h.bw hg, h.ln, h.sm, h.bw⟩
theorem Dc.val (h : Dc w X B c len cap v xs m) : ∃ a c', v = .slice a m c' := own_any12 h.row
theorem Dc.step (h : Dc w X B c len cap v xs m) {u : Value} {ys : List In13} {k : Nat} (hg : X.grownBy Y v.ownBlock) (hr : Y.ownsRow w.heap.size 56 5 u k (insV ys)) (hl : ys.length = k) (hs : AllI ys) : Dc w Y B c len cap u ys k := by
  have hb := h.bw
  have hsz := h.g.size
  refine ⟨h.cur.kept hg (fun q e => by have := (h.row.lt q e).1; omega), ⟨hg.os.trans h.g.os, hg.tape.trans h.g.tape, hg.output.trans h.g.output, Nat.le_trans hsz hg.size, fun q hq hne => ?_⟩, hr, hl, hs, h.bw⟩
  exact (hg.block q (Nat.lt_of_lt_of_le hq hsz) (fun e => by have := (h.row.lt q e.symm).1; omega)).trans (h.g.block q hq hne)
theorem Dc.push (h : Dc w X B c len cap v xs m) (x : In13) (hx : SmI x) (hm : m ≤ 1000) :
    ∃ a' c' Y, (Builtin.append_ #[48, 48] 48 #[v, .slice (some ⟨X.heap.size, 0, none⟩) 1 1]).run Tryz.prog (X.alloc (.cells #[.int .i64 x.1, .int .i64 x.2.1, .int .i64 x.2.2.1, .int .i64 x.2.2.2.1, .string ⟨x.2.2.2.2.toArray⟩] 56)) = .ok (.slice a' (m + 1) c') Y ∧ Dc w Y B c len cap (.slice a' (m + 1) c') (xs ++ [x]) (m + 1) := by
  obtain ⟨v', Y, hr, ho, hg⟩ := push_ins13 x h.row h.g.size (by omega)
  obtain ⟨a', c', rfl⟩ := own_any12 ho
  exact ⟨a', c', Y, hr, h.step hg ho (by rw [List.length_append, h.ln]; rfl) (h.sm.push hx)⟩
theorem Dc.nil (hc : Cur X B c len cap) (hg : w.grownBy X (some B)) (hb : B < w.heap.size) : Dc w (X.alloc (.cells #[] 56)) B c len cap (.slice (some ⟨X.heap.size, 0, none⟩) 0 0) [] 0 :=
  ⟨hc.kept (World.grownBy_alloc X _ none) (by simp), hg.trans (World.grownBy_alloc X _ _), World.ownsRow_lit X #[] 0 hg.size (by decide) rfl, rfl, fun i hi => by simp at hi, hb⟩
end
section
variable {ops : Array Oper} {rest : List Oper} {op : Oper} {a : Act} {w : World} {Q : Exit → Act → World → Prop}
theorem list_store_dc (hgd : op.guard = none) (x y : Operand) (ho : op.op = .store 56 x y) (j : Nat) (k r aa b : Int) (s : List UInt8) {w0 : World} {B : Nat} {c : Option Addr} {len cap : Nat} {ad : Option Addr} {cp : Nat} {xs : List In13} {m : Nat} (hd : Dc w0 w B c len cap (.slice ad m cp) xs m) (hj : j < m) (hs : SmI (k, r, aa, b, s))
    (hx : ∀ g, ad = some ⟨g, 0, none⟩ → a.eval x = .pointer (some ⟨g, j * 5, none⟩)) (hy : a.eval y = insVal (k, r, aa, b, s))
    (h : ∀ Y, Dc w0 Y B c len cap (.slice ad m cp) (xs.set j (k, r, aa, b, s)) m → wpList Tryz.prog ops Q rest (a.put op.dst undef) Y) : wpList Tryz.prog ops Q (op :: rest) a w := by
  have hrow := hd.row
  obtain ⟨g, cp', e⟩ := own_some hrow (by omega)
  injection e with e1 _ e2
  subst e1 e2
  have hlen : (insV xs).length = m * 5 := by rw [insV_len, hd.ln]
  have ht : w.there g (j * 5) 5 := fun q hq => ⟨by rw [hrow.cellAt (j * 5 + q) (by omega), List.getElem?_eq_getElem (by omega)]; rfl, hrow.frozenAt (j * 5 + q)⟩
  refine wpList_store_mid hgd _ x y ho g (j * 5) (insL k r aa b s).toArray (hx g rfl) hy ht sizeIns (all_oneCell_toArray (fun v hv => by simp [insL] at hv; rcases hv with rfl | rfl | rfl | rfl | rfl <;> rfl)) (h _ ?_)
  have h1 := hrow.stored (j * 5) (.int .i64 k)
  have h2 := h1.1.stored (j * 5 + 1) (.int .i64 r)
  have h3 := h2.1.stored (j * 5 + 2) (.int .i64 aa)
  have h4 := h3.1.stored (j * 5 + 3) (.int .i64 b)
  have h5 := h4.1.stored (j * 5 + 4) (.string ⟨s.toArray⟩)
  have hr5 := h5.1
  rw [insV_set] at hr5
  exact hd.step ((((h1.2.trans h2.2).trans h3.2).trans h4.2).trans h5.2) hr5 (by rw [List.length_set, hd.ln]) (hd.sm.set hs j)
end

theorem args_mem {P : In13 → Prop} {f : Int → Int → Int → List In13} (h : ∀ p r c, ∀ i ∈ f p r c, P i) : ∀ (ps : List Int) (r c : Int), ∀ i ∈ args13 f ps r c, P i
  | [], _, _, i, hi => by simp [args13] at hi
  | p :: ps, r, c, i, hi => by
    rw [args13] at hi
    rcases List.mem_append.1 hi with e | e
    · exact h p r c i e
    · exact args_mem h ps _ _ i e
theorem into_names {t : List Nd} {L : Nat} (h : ∀ j, (t.getD j nd0).2.2.1.length ≤ L ∧ (t.getD j nd0).2.2.2.length ≤ L) : ∀ (d : Nat) (a r c : Int), ∀ i ∈ into13 d t a r c, i.2.2.2.2.length ≤ 2 * L + 1
  | 0, _, _, _, i, hi => by simp [into13] at hi
  | d + 1, a, r, c, i, hi => by
    have ih := into_names h d
    have hn := h a.toNat
    rw [into13] at hi
    simp only at hi
    split at hi
    · rw [List.mem_singleton.1 hi]; simp
    split at hi
    · rw [List.mem_singleton.1 hi]; simp
    split at hi
    · simp only [List.mem_append, List.mem_cons] at hi
      rcases hi with e | e | e | e | e
      · exact ih _ _ _ i e
      · rw [e]; simp
      · exact ih _ _ _ i e
      · rw [e]; simp
      · exact ih _ _ _ i e
    split at hi
    · rcases List.mem_append.1 hi with e | e
      · exact args_mem (fun p r c i hi => ih p r c i hi) _ _ _ i e
      · rw [List.mem_singleton.1 e]
        simp only [List.length_append, List.length_cons]
        omega
    split at hi
    · simp only [List.mem_append, List.mem_singleton] at hi
      rcases hi with (e | e) | e
      · exact ih _ _ _ i e
      · exact ih _ _ _ i e
      · rw [e]; simp
    · simp only [List.mem_append, List.mem_singleton] at hi
      rcases hi with (e | e) | e
      · exact ih _ _ _ i e
      · exact ih _ _ _ i e
      · rw [e]; simp
theorem compiled_all {t : List Nd} (ht : treeB t = true) (hs : SmallT t) : AllI (compiledV t) := fun i hi => by
  have hcb := of_decide_eq_true (compiled_law ht).1
  have hp := (hcb.2.1 i hi).1
  have hnm : i.2.2.2.2.length ≤ 1000 := by
    unfold compiledV at hi
    rw [if_pos ht] at hi
    rcases List.mem_append.1 hi with e | e
    · have := into_names (L := 100) (fun j => ⟨Nat.le_trans (small_at hs j).2.1 (by omega), Nat.le_trans (small_at hs j).2.2 (by omega)⟩) 60 0 0 0 i e
      omega
    · rw [List.mem_singleton.1 e]; simp
  obtain ⟨k, r, a, b, s⟩ := i
  unfold insP at hp
  unfold SmI
  simp only at hp hnm ⊢
  omega

set_option maxHeartbeats 20000000 in
set_option maxRecDepth 100000 in
theorem drawCode13 (w : World) (B : Nat) (a : Option Addr) (len cap : Nat) (h : Cur w B a len cap) :
    Calls Tryz.prog 36 #[.pointer (some ⟨B, 0, none⟩)] w fun e w' => ∃ v xs, e = .returned v ∧ xs.length ≤ 300 ∧ Dc w w' B a len cap v xs xs.length := by
  have hlB := h.lt
  go_enter Tryz.func36, Tryz.ntmps36
  go_wp2_with fail
  refine (drawOnce _ B a len cap 2 (by omega) (by omega) h).mono ?_
  rintro e w1 ⟨o, rfl, hc1, hg1⟩
  rcases o with _ | _
  · go_wp2_with fail
    refine (drawBelow _ B a len cap 7 (by omega) (by omega) hc1).mono ?_
    rintro e w2 ⟨x, rfl, hx0, hx1, hc2, hg2⟩
    obtain ⟨q, rfl⟩ : ∃ q : Nat, x = (q : Int) := Int.eq_ofNat_of_zero_le hx0
    obtain ⟨n, hn⟩ : ∃ n : Nat, n = q + 1 := ⟨_, rfl⟩
    have hnq : 1 + (q : Int) = (n : Int) := by omega
    have hn7 : n ≤ 7 := by omega
    have hn1 : 1 ≤ n := by omega
    have s0 : Hid (Dc w (w2.alloc (.cells #[] 56)) B a len cap (.slice (some ⟨w2.heap.size, 0, none⟩) 0 0) [] 0) := Dc.nil hc2 (hg1.trans hg2) hlB
    clear hc1 hg1 hc2 hg2 hn hx0 hx1
    go_wp2
    go_loopw [4, 5] (fun ov iv wx => ∃ (i : Nat) (xs : List In13), iv = .int .i64 (i : Int) ∧ i ≤ n ∧ Hid (Dc w wx B a len cap ov xs i)) (fun _ iv _ => n - (intOf iv).toNat)
    case atStart => exact ⟨0, [], rfl, Nat.zero_le _, s0⟩
    case round =>
      obtain ⟨i, xs, rfl, hi, sr⟩ := hrel
      clear s0
      obtain ⟨oa, oc, rfl⟩ := sr.out.val
      by_cases hlt : (i : Int) < (n : Int)
      · go_wp2_with fail
        refine (drawIns _ B a len cap (n : Int) (by omega) (by omega) sr.out.cur).mono ?_
        rintro e w3 ⟨⟨k, r, aa, b, s⟩, rfl, hsm, hc3, hg3⟩
        have s1 := sr.out.draw hc3 hg3
        obtain ⟨a', c', Y, hrun, s2⟩ := s1.push (k, r, aa, b, s) hsm (by omega)
        have S2 : Hid (Dc w Y B a len cap (.slice a' (i + 1) c') (xs ++ [(k, r, aa, b, s)]) (i + 1)) := s2
        unfold insVal
        simp only at hrun ⊢
        clear s1 s2 hc3 hg3 hsm sr
        go_wp2_with (at_builtin; refine wpList_append_run rfl (.tmp 22) (.tmp 26) 48 rfl _ _ _ rfl rfl hrun ?_; clear hrun)
        go_roundw
        case rel => exact ⟨i + 1, _, by go_num, by omega, S2⟩
        case measure => simp [intOf]; omega
      · have hin : i = n := by omega
        subst hin
        clear hlt hi
        obtain ⟨g, cp, e⟩ := own_some sr.out.row (by omega)
        injection e with e1 e0 e2
        subst e1 e2
        clear e0
        obtain ⟨p, hpi⟩ : ∃ p, p + 1 = i := ⟨i - 1, by omega⟩
        have hp1 : (i : Int) - 1 = (p : Int) := by omega
        have hp2 : (p : Int) < (i : Int) := by omega
        go_wp2_with fail
        refine (drawOnce _ B a len cap 2 (by omega) (by omega) sr.out.cur).mono ?_
        rintro e w3 ⟨o2, rfl, hc3, hg3⟩
        have s1 : Hid (Dc w w3 B a len cap (.slice (some ⟨g, 0, none⟩) i oc) xs i) := sr.out.draw hc3 hg3
        clear hc3 hg3 sr
        go_upto_if 29 with fail
        go_cut [] from 20 (fun wx => ∃ ys : List In13, Hid (Dc w wx B a len cap (.slice (some ⟨g, 0, none⟩) i oc) ys i))
        case first =>
          rcases o2 with _ | _
          · go_wp2_with fail
            go_meet
            case rel => exact ⟨xs, s1⟩
          · go_wp2_with (guard_target = wpList _ _ _ _ _ _; (refine list_store_dc rfl _ _ rfl p 10 0 0 0 [] s1.out (by omega) smI_end (fun g' e => by injection e with e; injection e with e _ _; subst e; rfl) rfl (fun Y hY => ?_)))
            go_meet
            case rel => exact ⟨_, hY⟩
        case rest =>
        obtain ⟨ys, s2⟩ := hcut
        clear s1
        go_wp2_with fail
        refine (drawOnce _ B a len cap 8 (by omega) (by omega) s2.out.cur).mono ?_
        rintro e w4 ⟨o3, rfl, hc4, hg4⟩
        have s3 : Hid (Dc w w4 B a len cap (.slice (some ⟨g, 0, none⟩) i oc) ys i) := s2.out.draw hc4 hg4
        clear hc4 hg4 s2
        go_upto_if 36 with fail
        go_cut [] from 20 (fun wx => ∃ zs : List In13, Hid (Dc w wx B a len cap (.slice (some ⟨g, 0, none⟩) i oc) zs i))
        case first =>
          rcases o3 with _ | _
          · go_wp2_with fail
            go_meet
            case rel => exact ⟨ys, s3⟩
          · go_wp2_with fail
            refine (drawBelow _ B a len cap (i : Int) (by omega) (by omega) s3.out.cur).mono ?_
            rintro e w5 ⟨t, rfl, ht0, ht1, hc5, hg5⟩
            obtain ⟨j, rfl⟩ : ∃ j : Nat, t = (j : Int) := Int.eq_ofNat_of_zero_le ht0
            have s4 := s3.out.draw hc5 hg5
            clear hc5 hg5
            go_wp2_with fail
            refine (drawAnyIns _ B a len cap s4.cur).mono ?_
            rintro e w6 ⟨⟨k, r, aa, b, s⟩, rfl, hsm, hc6, hg6⟩
            have s5 := s4.draw hc6 hg6
            clear hc6 hg6 s4
            go_wp2_with (guard_target = wpList _ _ _ _ _ _; (refine list_store_dc rfl _ _ rfl j k r aa b s s5 (by omega) hsm (fun g' e => by injection e with e; injection e with e _ _; subst e; rfl) rfl (fun Y hY => ?_)))
            go_meet
            case rel => exact ⟨_, hY⟩
        case rest =>
        obtain ⟨zs, s4⟩ := hcut
        clear s3
        go_wp2_with fail
        refine (drawOnce _ B a len cap 40 (by omega) (by omega) s4.out.cur).mono ?_
        rintro e w5 ⟨o4, rfl, hc5, hg5⟩
        have s5 : Hid (Dc w w5 B a len cap (.slice (some ⟨g, 0, none⟩) i oc) zs i) := s4.out.draw hc5 hg5
        clear hc5 hg5 s4
        rcases o4 with _ | _
        · go_wp2
          go_ret
          exact ⟨_, zs, rfl, by rw [s5.out.ln]; omega, by rw [s5.out.ln]; exact s5.out⟩
        · have s6 : Hid (Dc w (w5.alloc (.cells #[] 56)) B a len cap (.slice (some ⟨w5.heap.size, 0, none⟩) 0 0) [] 0) := Dc.nil s5.out.cur s5.out.g hlB
          clear s5
          go_wp2
          go_loopw [4] (fun ov wx => ∃ (k : Nat) (us : List In13) (a' : Option Addr) (c' : Nat), ov = .slice a' k c' ∧ k ≤ 201 ∧ Hid (Dc w wx B a len cap (.slice a' k c') us k)) (fun ov _ => 201 - sl13 ov)
          case atStart => exact ⟨0, [], _, _, rfl, by omega, s6⟩
          case round =>
            obtain ⟨k, us, a', c', rfl, hk, sk⟩ := hrel
            clear s6
            rename World => W
            go_wp2_with fail
            refine (drawBelow _ B a len cap 2 (by omega) (by omega) sk.out.cur).mono ?_
            rintro e w6 ⟨x6, rfl, h60, h61, hc6, hg6⟩
            have s7 := sk.out.draw hc6 hg6
            clear hc6 hg6 sk
            by_cases hlt6 : (k : Int) < 200 + x6
            · obtain ⟨a2, c2, Y, hrun, s8⟩ := s7.push (10, 0, 0, 0, []) smI_end (by omega)
              have S8 : Hid (Dc w Y B a len cap (.slice a2 (k + 1) c2) (us ++ [(10, 0, 0, 0, [])]) (k + 1)) := s8
              clear s8 s7
              go_wp2_with (at_builtin; refine wpList_append_run rfl (.tmp 53) (.tmp 55) 48 rfl _ _ _ rfl rfl hrun ?_; clear hrun)
              go_roundw
              case rel => exact ⟨k + 1, _, a2, c2, rfl, by omega, S8⟩
              case measure => simp [sl13]; omega
            · have S7 : Hid (_) := s7
              clear s7
              go_wp2
              go_ret
              exact ⟨_, us, rfl, by rw [S7.out.ln]; omega, by rw [S7.out.ln]; exact S7.out⟩
  · obtain ⟨⟨m0, m1, m2, m3⟩, hbn⟩ := node_new12 w1 (.int .i64 8) (.int .i64 2) (.string ⟨#[108, 105, 98]⟩) (.string ⟨#[102]⟩) 91
    obtain ⟨V, hV⟩ : ∃ V, w1.alloc (.cells #[.int .i64 8, .int .i64 2, .string ⟨#[108, 105, 98]⟩, .string ⟨#[102]⟩] 91) = V := ⟨_, rfl⟩
    rw [hV] at m0 m1 m2 m3 hbn
    obtain ⟨N, hN⟩ : ∃ N, w1.heap.size = N := ⟨_, rfl⟩
    have hNl : B < N := by rw [← hN]; exact hc1.lt
    rw [hN] at m0 m1 m2 m3
    have hNV : N < V.heap.size := World.block_lt_of_cell? V ⟨N, 0, none⟩ m0
    have hin : NodesIn V (some ⟨N, 0, none⟩) 1 [((8 : Int), (2 : Int), [108, 105, 98], [102])] := ⟨rfl, fun j hj => by
      obtain rfl : j = 0 := by omega
      exact ⟨N, 0, rfl, hNV, m0, m1, m2, m3⟩⟩
    have hsmn : ∀ j, SmallN (([((8 : Int), (2 : Int), [108, 105, 98], [102])] : List Nd).getD j nd0) := fun j => by
      cases j with
      | zero => unfold SmallN IntN; decide
      | succ j => rw [show (([((8 : Int), (2 : Int), [108, 105, 98], [102])] : List Nd).getD (j + 1) nd0) = nd0 by simp]; unfold SmallN IntN nd0; decide
    have hkdn : ∀ j, kidsV (([((8 : Int), (2 : Int), [108, 105, 98], [102])] : List Nd).getD j nd0) ≤ 3 := fun j => by
      cases j with
      | zero => decide
      | succ j => rw [show (([((8 : Int), (2 : Int), [108, 105, 98], [102])] : List Nd).getD (j + 1) nd0) = nd0 by simp]; decide
    have HD : Hid (_) := drawTreeOk V B a len cap 2 (some ⟨N, 0, none⟩) 1 1 [((8 : Int), (2 : Int), [108, 105, 98], [102])] (by omega) (by omega) (hc1.below hbn) hin (by omega) hsmn hkdn (fun b off e => by injection e with e; injection e with e _ _; omega)
    have HG : Hid (w.grownBy V (some B)) := ⟨hbn.os.trans hg1.os, hbn.tape.trans hg1.tape, hbn.output.trans hg1.output, Nat.le_trans hg1.size hbn.size, fun q hq hne => (hbn.block q (Nat.lt_of_lt_of_le hq hg1.size)).trans (hg1.block q hq hne)⟩
    clear m0 m1 m2 m3 hbn hin hsmn hkdn hc1 hg1 hNV
    go_wp2_with fail
    refine Calls.mono HD.out ?_
    rintro e w2 ⟨v, ns, rfl, hown, htb, hsm, hc2, hg2⟩
    obtain ⟨_, ta, tc, rfl, hnin⟩ := own_nodes hown
    have HCo : Hid (_) := specCompiled13 ta tc ns w2 hnin hsm.short htb
    have hG2 := HG.out.trans hg2
    have HA : Hid (AllI (compiledV ns) ∧ (compiledV ns).length ≤ 121) := ⟨compiled_all htb hsm, (compiled_law htb).2.2.1⟩
    have HC2 : Hid (Cur w2 B a len cap ∧ w.grownBy w2 (some B)) := ⟨hc2, hG2⟩
    clear hown hnin hc2 hg2 hG2 htb hsm HD HG
    go_wp2_with fail
    refine Calls.mono HCo.out ?_
    rintro e w3 ⟨cv, rfl, hcv, hb3⟩
    have HF : Hid (Dc w w3 B a len cap cv (compiledV ns) (compiledV ns).length) := by
      have hg := HC2.out.2
      exact ⟨HC2.out.1.below hb3, ⟨hb3.os.trans hg.os, hb3.tape.trans hg.tape, hb3.output.trans hg.output, Nat.le_trans hg.size hb3.size, fun q hq hne => (hb3.block q (Nat.lt_of_lt_of_le hq hg.size)).trans (hg.block q hq hne)⟩, own_base hcv hg.size, rfl, HA.out.1, hlB⟩
    clear hcv hb3 HCo
    go_wp2
    go_ret
    exact ⟨_, _, rfl, by have := HA.out.2; omega, HF.out⟩

end Go.Proofs.YtogobeegibngiaaGreatDoor

/-! Plain facts of chapter 14: images, shown and read. -/
namespace Go.Proofs.YtogobeegibngiaaGreatDoor
open Go.RowKit

abbrev Rt := List UInt8 × Int × List In13
def rt0 : Rt := ([], 0, [])
def at14Go (s : List UInt8) : List Rt → Nat → Int
  | [], _ => -1
  | r :: rs, k => if r.1 = s then (k : Int) else at14Go s rs (k + 1)
def at14 (rs : List Rt) (s : List UInt8) : Int := at14Go s rs 0
theorem at14Go_drop {rs : List Rt} {k : Nat} (hk : k < rs.length) (s : List UInt8) : at14Go s (rs.drop k) k = if (rs.getD k rt0).1 = s then (k : Int) else at14Go s (rs.drop (k + 1)) (k + 1) := by
  rw [List.drop_eq_getElem_cons hk, at14Go]
  have hg : rs.getD k rt0 = rs[k] := by simp [List.getD, hk]
  rw [hg]
theorem at14Go_bd (s : List UInt8) : ∀ (rs : List Rt) (k : Nat), at14Go s rs k = -1 ∨ ((k : Int) ≤ at14Go s rs k ∧ at14Go s rs k < k + rs.length)
  | [], _ => Or.inl rfl
  | r :: rs, k => by
    rw [at14Go]
    split
    · refine Or.inr ⟨Int.le_refl _, ?_⟩
      simp only [List.length_cons]; omega
    · rcases at14Go_bd s rs (k + 1) with h | h
      · exact Or.inl h
      · refine Or.inr ⟨by omega, ?_⟩
        simp only [List.length_cons]; omega
theorem at14_bd (rs : List Rt) (s : List UInt8) : -1 ≤ at14 rs s ∧ at14 rs s < rs.length := by
  unfold at14
  rcases at14Go_bd s rs 0 with h | h
  · rw [h]; omega
  · omega
/-- Is an argument asked that is there? -/
def argB (n : Int) (i : In13) : Bool := !(decide (i.1 = 2) && decide (n ≤ i.2.2.1))
def rtB (r : Rt) : Bool := (name13 r.1 && (inB r.2.1 0 3 && codeB r.2.2)) && r.2.2.all (argB r.2.1)
def clsB (rs : List Rt) (i : In13) : Bool := decide (i.1 ≠ 9) || (decide (0 ≤ at14 rs i.2.2.2.2) && decide ((rs.getD (at14 rs i.2.2.2.2).toNat rt0).2.1 = i.2.2.1))
def oneB (rs : List Rt) (j : Nat) : Prop := rtB (rs.getD j rt0) = true ∧ (0 < j → leT (rs.getD j rt0).1 (rs.getD (j - 1) rt0).1 = false) ∧ (rs.getD j rt0).2.2.all (clsB rs) = true
instance (rs : List Rt) (j : Nat) : Decidable (oneB rs j) := by unfold oneB; infer_instance
def imageB (rs : List Rt) : Bool := decide ((∀ j, j < rs.length → oneB rs j) ∧ (1 ≤ rs.length ∧ rs.length ≤ 64))
theorem image_no {rs : List Rt} {j : Nat} (hj : j < rs.length) (h : ¬ oneB rs j) : imageB rs = false := decide_eq_false (fun e => h (e.1 j hj))
theorem image_all {rs : List Rt} (h : ∀ j, j < rs.length → oneB rs j) : imageB rs = inB (rs.length : Int) 1 64 := by
  unfold imageB inB
  refine decide_eq_decide.2 ⟨fun e => by omega, fun e => ⟨h, by omega⟩⟩

def kwRt : List UInt8 := [114, 111, 117, 116, 105, 110, 101]
def nmL (s : List UInt8) : List UInt8 := if s = [] then [45] else s
def insLn (i : In13) : List UInt8 := intL i.1 ++ [32] ++ intL i.2.1 ++ [32] ++ intL i.2.2.1 ++ [32] ++ intL i.2.2.2.1 ++ [32] ++ nmL i.2.2.2.2
def rtLn (r : Rt) : List UInt8 := kwRt ++ [32] ++ r.1 ++ [32] ++ intL r.2.1 ++ [32] ++ intL (r.2.2.length : Int)
def rtLines (r : Rt) : List (List UInt8) := rtLn r :: r.2.2.map insLn
def imLines (rs : List Rt) : List (List UInt8) := rs.flatMap rtLines
def showI (rs : List Rt) : List UInt8 := termJ (imLines rs)
def showIm (rs : List Rt) : List UInt8 := if imageB rs = true then showI rs else []

/-- One more instruction of the last routine. -/
def addI (out : List Rt) (x : In13) : List Rt := out.dropLast ++ [((out.getLastD rt0).1, (out.getLastD rt0).2.1, (out.getLastD rt0).2.2 ++ [x])]
theorem addI_snoc (out : List Rt) (n : List UInt8) (a : Int) (c : List In13) (x : In13) : addI (out ++ [(n, a, c)]) x = out ++ [(n, a, c ++ [x])] := by
  have hl : (out ++ [(n, a, c)]).getLastD rt0 = (n, a, c) := by rw [List.getLastD_eq_getLast?]; simp
  unfold addI
  rw [hl, List.dropLast_concat]
noncomputable def insRd (ws : List (List UInt8)) : In13 := (readV (ws.getD 0 []), readV (ws.getD 1 []), readV (ws.getD 2 []), readV (ws.getD 3 []), if ws.getD 4 [] = [45] then [] else ws.getD 4 [])
noncomputable def readI : List Rt → List (List UInt8) → List Rt
  | out, [] => out
  | out, l :: ls =>
    if (splitL 32 l).length = 4 ∧ (splitL 32 l).getD 0 [] = kwRt then readI (out ++ [((splitL 32 l).getD 1 [], readV ((splitL 32 l).getD 2 []), [])]) ls
    else if (splitL 32 l).length ≠ 5 ∨ out = [] then []
    else readI (addI out (insRd (splitL 32 l))) ls
noncomputable def readIB (s : List UInt8) : Bool := decide (s.length ≤ 400000) && (imageB (readI [] (linesL s)) && (showI (readI [] (linesL s)) == s))
noncomputable def readIV (s : List UInt8) : List Rt := if readIB s = true then readI [] (linesL s) else []

theorem name13_parts {s : List UInt8} (h : name13 s = true) : ∃ p f, nameB p = true ∧ nameB f = true ∧ s = p ++ 46 :: f := by
  unfold name13 at h
  rw [Bool.and_eq_true, Bool.and_eq_true, beq_iff_eq] at h
  obtain ⟨⟨h1, h2⟩, h3⟩ := h
  have hj := joinBy_split 46 s []
  rw [List.nil_append] at hj
  match hs : splitL 46 s, h1 with
  | [p, f], _ =>
    rw [hs] at h2 h3
    refine ⟨p, f, h2, h3, ?_⟩
    rw [← hj]
    have e : splitGo 46 [] s = [p, f] := hs
    rw [e]
    simp [joinBy]
theorem name13_len {s : List UInt8} (h : name13 s = true) : 3 ≤ s.length ∧ s.length ≤ 17 := by
  obtain ⟨p, f, hp, hf, rfl⟩ := name13_parts h
  have h1 := (name_letters hp).1
  have h2 := (name_letters hf).1
  simp only [List.length_append, List.length_cons]
  omega
theorem name13_bytes {s : List UInt8} (h : name13 s = true) : ∀ c ∈ s, c.toNat = 46 ∨ (97 ≤ c.toNat ∧ c.toNat ≤ 122) := by
  obtain ⟨p, f, hp, hf, rfl⟩ := name13_parts h
  intro c hc
  rcases List.mem_append.1 hc with e | e
  · exact Or.inr ((name_letters hp).2 c e)
  · rcases List.mem_cons.1 e with e | e
    · rw [e]; exact Or.inl rfl
    · exact Or.inr ((name_letters hf).2 c e)
theorem nmL_bytes {i : In13} (h : insP i) : ∀ c ∈ nmL i.2.2.2.2, c.toNat = 45 ∨ c.toNat = 46 ∨ (97 ≤ c.toNat ∧ c.toNat ≤ 122) := by
  intro c hc
  unfold nmL at hc
  split at hc
  · rw [List.mem_singleton.1 hc]; exact Or.inl rfl
  · rename_i hne
    have h9 : i.1 = 9 := by rcases h.1 with e | e; exact e; exact absurd e hne
    have hn : name13 i.2.2.2.2 = true := by
      rcases h.2.2 with e | e | e | e | e | e | e
      · omega
      · omega
      · omega
      · omega
      · omega
      · exact e.2.2.2.2
      · omega
    rcases name13_bytes hn c hc with e | e
    · exact Or.inr (Or.inl e)
    · exact Or.inr (Or.inr e)
theorem insP_words {i : In13} (h : insP i) : (-2147483648 ≤ i.1 ∧ i.1 ≤ 2147483647) ∧ (-2147483648 ≤ i.2.1 ∧ i.2.1 ≤ 2147483647) ∧ (-2147483648 ≤ i.2.2.1 ∧ i.2.2.1 ≤ 2147483647) ∧ (-2147483648 ≤ i.2.2.2.1 ∧ i.2.2.2.1 ≤ 2147483647) := by
  have h2 := h.2.1
  have h3 := h.2.2
  omega
theorem insLn_split {i : In13} (h : insP i) : splitL 32 (insLn i) = [intL i.1, intL i.2.1, intL i.2.2.1, intL i.2.2.2.1, nmL i.2.2.2.2] := by
  obtain ⟨w0, w1, w2, w3⟩ := insP_words h
  have hj : insLn i = joinBy 32 [intL i.1, intL i.2.1, intL i.2.2.1, intL i.2.2.2.1, nmL i.2.2.2.2] := by simp [insLn, joinBy]
  rw [hj]
  refine split_join 32 _ (by simp) ?_
  intro x hx c hc e
  simp only [List.mem_cons, List.not_mem_nil, or_false] at hx
  have hi : ∀ a : Int, -2147483648 ≤ a ∧ a ≤ 2147483647 → c ∈ intL a → False := fun a ha hm => by
    have := intL_bytes a ha.1 ha.2 c hm
    rw [e] at this
    simp at this
  rcases hx with rfl | rfl | rfl | rfl | rfl
  · exact hi _ w0 hc
  · exact hi _ w1 hc
  · exact hi _ w2 hc
  · exact hi _ w3 hc
  · have := nmL_bytes h c hc
    rw [e] at this
    simp at this
theorem insRd_of {i : In13} (h : insP i) : insRd [intL i.1, intL i.2.1, intL i.2.2.1, intL i.2.2.2.1, nmL i.2.2.2.2] = i := by
  obtain ⟨w0, w1, w2, w3⟩ := insP_words h
  have hn : (if nmL i.2.2.2.2 = [45] then [] else nmL i.2.2.2.2) = i.2.2.2.2 := by
    unfold nmL
    by_cases e : i.2.2.2.2 = []
    · rw [if_pos e, if_pos rfl, e]
    · rw [if_neg e]
      refine if_neg (fun e2 => ?_)
      have := nmL_bytes h 45 (by unfold nmL; rw [if_neg e, e2]; simp)
      have h9 : i.1 = 9 := by rcases h.1 with e3 | e3; exact e3; exact absurd e3 e
      have hn : name13 i.2.2.2.2 = true := by
        rcases h.2.2 with e | e | e | e | e | e | e
        · omega
        · omega
        · omega
        · omega
        · omega
        · exact e.2.2.2.2
        · omega
      have := (name13_len hn).1
      rw [e2] at this
      simp at this
  unfold insRd
  simp only [List.getD_cons_zero, List.getD_cons_succ]
  rw [hn, (read_of_int _ w0.1 w0.2).2, (read_of_int _ w1.1 w1.2).2, (read_of_int _ w2.1 w2.2).2, (read_of_int _ w3.1 w3.2).2]
theorem codeB_ins {c : List In13} (h : codeB c = true) : ∀ i ∈ c, insP i := fun i hi => ((of_decide_eq_true h).2.1 i hi).1
theorem codeB_len {c : List In13} (h : codeB c = true) : 1 ≤ c.length ∧ c.length ≤ 200 := (of_decide_eq_true h).1
theorem rtB_parts {r : Rt} (h : rtB r = true) : name13 r.1 = true ∧ (0 ≤ r.2.1 ∧ r.2.1 ≤ 3) ∧ codeB r.2.2 = true ∧ r.2.2.all (argB r.2.1) = true := by
  unfold rtB at h
  simp only [Bool.and_eq_true] at h
  exact ⟨h.1.1, by have := h.1.2.1; unfold inB at this; exact of_decide_eq_true this, h.1.2.2, h.2⟩
theorem rtLn_split {r : Rt} (h : rtB r = true) : splitL 32 (rtLn r) = [kwRt, r.1, intL r.2.1, intL (r.2.2.length : Int)] := by
  obtain ⟨hn, ha, hc, _⟩ := rtB_parts h
  have hl := codeB_len hc
  have hj : rtLn r = joinBy 32 [kwRt, r.1, intL r.2.1, intL (r.2.2.length : Int)] := by simp [rtLn, joinBy]
  rw [hj]
  refine split_join 32 _ (by simp) ?_
  intro x hx c hc2 e
  simp only [List.mem_cons, List.not_mem_nil, or_false] at hx
  rcases hx with rfl | rfl | rfl | rfl
  · rw [e] at hc2; simp [kwRt] at hc2
  · have := name13_bytes hn c hc2
    rw [e] at this
    simp at this
  · have := intL_bytes _ (by omega) (by omega) c hc2
    rw [e] at this
    simp at this
  · have := intL_bytes _ (by omega) (by omega) c hc2
    rw [e] at this
    simp at this
theorem readI_ins (out : List Rt) (n : List UInt8) (a : Int) (ls : List (List UInt8)) : ∀ (c d : List In13), (∀ i ∈ d, insP i) → readI (out ++ [(n, a, c)]) (d.map insLn ++ ls) = readI (out ++ [(n, a, c ++ d)]) ls
  | c, [], _ => by simp
  | c, i :: d, h => by
    have hi := h i (by simp)
    rw [List.map_cons, List.cons_append, readI, insLn_split hi]
    rw [if_neg (by simp), if_neg (by simp), insRd_of hi, addI_snoc, readI_ins out n a ls (c ++ [i]) d (fun j hj => h j (by simp [hj]))]
    simp
theorem readI_rts (ls : List (List UInt8)) : ∀ (rs out : List Rt), (∀ r ∈ rs, rtB r = true) → readI out (imLines rs ++ ls) = readI (out ++ rs) ls
  | [], out, _ => by simp [imLines]
  | r :: rs, out, h => by
    obtain ⟨n, a, c⟩ := r
    have hr := h (n, a, c) (by simp)
    have hc := (rtB_parts hr).2.2.1
    have ha := (rtB_parts hr).2.1
    have e : imLines ((n, a, c) :: rs) ++ ls = rtLn (n, a, c) :: (c.map insLn ++ (imLines rs ++ ls)) := by simp [imLines, rtLines]
    rw [e, readI, rtLn_split hr, if_pos (by simp)]
    simp only [List.getD_cons_zero, List.getD_cons_succ]
    simp only at ha
    rw [(read_of_int a (by omega) (by omega)).2, readI_ins out n a _ [] c (codeB_ins hc), List.nil_append, readI_rts ls rs _ (fun q hq => h q (by simp [hq]))]
    simp
theorem image_rts {rs : List Rt} (h : imageB rs = true) : ∀ r ∈ rs, rtB r = true := fun r hr => by
  obtain ⟨j, hj, rfl⟩ := List.getElem_of_mem hr
  have := ((of_decide_eq_true h).1 j hj).1
  simpa [List.getD, hj] using this
theorem read_image {rs : List Rt} (h : imageB rs = true) : readI [] (imLines rs) = rs := by
  have := readI_rts [] rs [] (image_rts h)
  simpa [readI] using this

end Go.Proofs.YtogobeegibngiaaGreatDoor

/-! Plain facts of chapter 14: an image is read from what it is shown as; what is read is shown so. -/
namespace Go.Proofs.YtogobeegibngiaaGreatDoor
open Go.RowKit

theorem intL_to {a : Int} (k : Nat) (h0 : 0 ≤ a) (h1 : a < 10 ^ (k + 1)) : (intL a).length ≤ k + 1 := by
  unfold intL
  rw [if_neg (by omega)]
  exact digL_len k a.natAbs (by
    have e : ((a.natAbs : Nat) : Int) = a := by omega
    have h2 : ((a.natAbs : Nat) : Int) < ((10 ^ (k + 1) : Nat) : Int) := by rw [e]; push_cast; exact h1
    omega)
theorem intL_w11 {a : Int} (h0 : -2147483648 ≤ a) (h1 : a ≤ 2147483647) : (intL a).length ≤ 11 := by
  unfold intL
  have hd := digL_len 9 a.natAbs (by omega)
  split
  · simp only [List.length_cons]; omega
  · omega
theorem insLn_len {i : In13} (h : insP i) : (insLn i).length ≤ 28 := by
  obtain ⟨k, r, a, b, s⟩ := i
  have hk : 1 ≤ k ∧ k ≤ 10 := by have := h.2.2; simp only at this; omega
  have hr : 0 ≤ r ∧ r ≤ 63 := by have := h.2.2; simp only at this; omega
  have hb : 0 ≤ b ∧ b ≤ 63 := by have h1 := h.2.1; have h2 := h.2.2; simp only at h1 h2; omega
  have lk := intL_to (a := k) 1 (by omega) (by omega)
  have lr := intL_to (a := r) 1 (by omega) (by omega)
  have lb := intL_to (a := b) 1 (by omega) (by omega)
  have la : (intL a).length + (nmL s).length ≤ 18 := by
    by_cases h9 : k = 9
    · have h2 := h.2.2
      simp only at h2
      have hn : (0 ≤ a ∧ a ≤ 3) ∧ name13 s = true := by
        rcases h2 with e | e | e | e | e | e | e
        · omega
        · omega
        · omega
        · omega
        · omega
        · exact ⟨e.2.2.1, e.2.2.2.2⟩
        · omega
      have l1 := intL_to (a := a) 0 (by omega) (by omega)
      have l2 := name13_len hn.2
      unfold nmL
      split
      · simp; omega
      · omega
    · have hs : s = [] := by
        have := h.1
        simp only at this
        rcases this with e | e
        · exact absurd e h9
        · exact e
      have l1 := intL_w11 (insP_words h).2.2.1.1 (insP_words h).2.2.1.2
      simp only at l1
      unfold nmL
      rw [if_pos hs]
      simp
      omega
  unfold insLn
  simp only [List.length_append, List.length_singleton]
  omega
theorem rtLn_len {r : Rt} (h : rtB r = true) : (rtLn r).length ≤ 32 := by
  obtain ⟨hn, ha, hc, _⟩ := rtB_parts h
  have l1 := name13_len hn
  have l2 := intL_to (a := r.2.1) 0 (by omega) (by omega)
  have hl := codeB_len hc
  have l3 := intL_to (a := (r.2.2.length : Int)) 2 (by omega) (by omega)
  unfold rtLn kwRt
  simp only [List.length_append, List.length_cons, List.length_nil]
  omega
theorem termJ_ins : ∀ (c : List In13), (∀ i ∈ c, insP i) → (termJ (c.map insLn)).length ≤ c.length * 29
  | [], _ => by simp [termJ]
  | i :: c, h => by
    have ih := termJ_ins c (fun j hj => h j (by simp [hj]))
    have hi := insLn_len (h i (by simp))
    have e : termJ ((i :: c).map insLn) = insLn i ++ [10] ++ termJ (c.map insLn) := by simp [termJ]
    rw [e]
    simp only [List.length_append, List.length_cons, List.length_nil]
    omega
theorem showI_len' : ∀ (rs : List Rt), (∀ r ∈ rs, rtB r = true) → (termJ (imLines rs)).length ≤ rs.length * 5840
  | [], _ => by simp [termJ, imLines]
  | r :: rs, h => by
    have ih := showI_len' rs (fun j hj => h j (by simp [hj]))
    have hr := h r (by simp)
    have h1 := rtLn_len hr
    have hc := (rtB_parts hr).2.2.1
    have h2 := termJ_ins r.2.2 (codeB_ins hc)
    have hl := codeB_len hc
    have e : termJ (imLines (r :: rs)) = rtLn r ++ [10] ++ termJ (r.2.2.map insLn) ++ termJ (imLines rs) := by simp [termJ, imLines, rtLines]
    rw [e]
    simp only [List.length_append, List.length_cons, List.length_nil]
    omega
theorem showI_len {rs : List Rt} (h : imageB rs = true) : (showI rs).length ≤ 400000 := by
  have h1 := showI_len' rs (image_rts h)
  have h2 := (of_decide_eq_true h).2
  unfold showI
  omega
theorem rts_no10 {rs : List Rt} (h : ∀ r ∈ rs, rtB r = true) : ∀ x ∈ imLines rs, ∀ c ∈ x, c ≠ 10 := by
  intro x hx c hc e
  obtain ⟨r, hr, hx2⟩ := List.mem_flatMap.1 hx
  have hrt := h r hr
  obtain ⟨hn, ha, hco, _⟩ := rtB_parts hrt
  have hl := codeB_len hco
  have hint : ∀ a : Int, -2147483648 ≤ a ∧ a ≤ 2147483647 → c ∈ intL a → False := fun a ha hm => by
    have := intL_bytes a ha.1 ha.2 c hm
    rw [e] at this
    simp at this
  unfold rtLines at hx2
  rcases List.mem_cons.1 hx2 with e1 | e1
  · rw [e1] at hc
    unfold rtLn at hc
    simp only [List.mem_append, List.mem_singleton] at hc
    rcases hc with (((((h1 | h1) | h1) | h1) | h1) | h1) | h1
    · rw [e] at h1; simp [kwRt] at h1
    · rw [e] at h1; simp at h1
    · have := name13_bytes hn c h1; rw [e] at this; simp at this
    · rw [e] at h1; simp at h1
    · exact hint _ (by omega) h1
    · rw [e] at h1; simp at h1
    · exact hint _ (by omega) h1
  · obtain ⟨i, hi, rfl⟩ := List.mem_map.1 e1
    have hp := codeB_ins hco i hi
    obtain ⟨w0, w1, w2, w3⟩ := insP_words hp
    unfold insLn at hc
    simp only [List.mem_append, List.mem_singleton] at hc
    rcases hc with (((((((h1 | h1) | h1) | h1) | h1) | h1) | h1) | h1) | h1
    · exact hint _ w0 h1
    · rw [e] at h1; simp at h1
    · exact hint _ w1 h1
    · rw [e] at h1; simp at h1
    · exact hint _ w2 h1
    · rw [e] at h1; simp at h1
    · exact hint _ w3 h1
    · rw [e] at h1; simp at h1
    · have := nmL_bytes hp c h1; rw [e] at this; simp at this
theorem lines14_no10 {rs : List Rt} (h : imageB rs = true) : ∀ x ∈ imLines rs, ∀ c ∈ x, c ≠ 10 := rts_no10 (image_rts h)
theorem image_back {rs : List Rt} (h : imageB rs = true) : showIm rs ≠ [] ∧ readIB (showIm rs) = true ∧ readIV (showIm rs) = rs := by
  have hs : showIm rs = showI rs := by unfold showIm; rw [if_pos h]
  have hl : linesL (showI rs) = imLines rs := lines_term _ (lines14_no10 h)
  have hr : readI [] (linesL (showI rs)) = rs := by rw [hl]; exact read_image h
  have hb : readIB (showI rs) = true := by
    unfold readIB
    rw [hr, decide_eq_true (showI_len h), h]
    simp
  refine ⟨?_, by rw [hs]; exact hb, by rw [hs]; unfold readIV; rw [if_pos hb, hr]⟩
  rw [hs]
  have h1 := (of_decide_eq_true h).2.1
  intro e
  cases rs with
  | nil => simp at h1
  | cons r rs => simp [showI, imLines, rtLines, termJ] at e
theorem image_not {rs : List Rt} (h : imageB rs = false) : showIm rs = [] := by unfold showIm; rw [if_neg (by rw [h]; simp)]
theorem read_iv (s : List UInt8) : (readIB s = true ∧ imageB (readIV s) = true ∧ showIm (readIV s) = s) ∨ (readIB s = false ∧ readIV s = []) := by
  rcases h : readIB s with _ | _
  · exact Or.inr ⟨rfl, by unfold readIV; rw [if_neg (by rw [h]; simp)]⟩
  · have hv : readIV s = readI [] (linesL s) := by unfold readIV; rw [if_pos h]
    unfold readIB at h
    simp only [Bool.and_eq_true, beq_iff_eq] at h
    rw [hv]
    exact Or.inl ⟨rfl, h.2.1, by unfold showIm; rw [if_pos h.2.1]; exact h.2.2⟩

end Go.Proofs.YtogobeegibngiaaGreatDoor

/-! Plain facts of chapter 14: how an image runs. -/
namespace Go.Proofs.YtogobeegibngiaaGreatDoor
open Go.RowKit

def WordL (xs : List Int) : Prop := ∀ x ∈ xs, -2147483648 ≤ x ∧ x ≤ 2147483647
theorem WordL.at {xs : List Int} (h : WordL xs) (j : Nat) : -2147483648 ≤ xs.getD j 0 ∧ xs.getD j 0 ≤ 2147483647 := by
  rw [List.getD_eq_getElem?_getD]
  rcases Nat.lt_or_ge j xs.length with hj | hj
  · rw [List.getElem?_eq_getElem hj]; exact h _ (List.getElem_mem hj)
  · rw [List.getElem?_eq_none hj]; decide
theorem WordL.set {xs : List Int} (h : WordL xs) (j : Nat) {z : Int} (hz : -2147483648 ≤ z ∧ z ≤ 2147483647) : WordL (xs.set j z) := fun q hq => by
  rcases List.mem_or_eq_of_mem_set hq with e | e
  · exact h q e
  · rw [e]; exact hz
/-- What RunImage gives. -/
def runP (rs : List Rt) (nm : List UInt8) (xs : List Int) (fuel : Int) : Prop := imageB rs = true ∧ 0 ≤ at14 rs nm ∧ (xs.length : Int) = (rs.getD (at14 rs nm).toNat rt0).2.1 ∧ (0 ≤ fuel ∧ fuel ≤ 20000) ∧ WordL xs
instance (xs : List Int) : Decidable (WordL xs) := by unfold WordL; infer_instance
instance (rs : List Rt) (nm : List UInt8) (xs : List Int) (fuel : Int) : Decidable (runP rs nm xs fuel) := by unfold runP; infer_instance
end Go.Proofs.YtogobeegibngiaaGreatDoor
