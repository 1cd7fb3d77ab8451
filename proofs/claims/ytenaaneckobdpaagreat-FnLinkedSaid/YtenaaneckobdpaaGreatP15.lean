/-
  Parts of one proof, one behind the other: DrawI3, Math14, Math14R, Math14S, ImgS, RtU.
-/
import Derived.Test.YtenaaneckobdpaaGreatP14
import Derived.Test.YtenaaneckobdpaaGreatP11
import Derived.Test.YtenaaneckobdpaaGreatP3
import Derived.Deep.Cut
import Derived.Test.YtenaaneckobdpaaGreatP9
import Derived.Test.YtenaaneckobdpaaGreatP4
import Derived.Deep.RegionHeld3
import Derived.BigQuiet
import Derived.Test.YtenaaneckobdpaaGreatP1
namespace Go.Proofs.YtenaaneckobdpaaGreat
open Go.RowKit
def AllI (xs : List In13) : Prop := ∀ i ∈ xs, SmI i
theorem AllI.push {xs : List In13} {i : In13} (h : AllI xs) (hi : SmI i) : AllI (xs ++ [i]) := fun j hj => by
 rcases List.mem_append.1 hj with e | e
 ·
  exact h j e
 ·
  rw [List.mem_singleton.1 e]; exact hi
theorem AllI.set {xs : List In13} {i : In13} (h : AllI xs) (hi : SmI i) (j : Nat) : AllI (xs.set j i) := fun q hq => by
 rcases List.mem_or_eq_of_mem_set hq with e | e
 ·
  exact h q e
 ·
  rw [e]; exact hi
def sl13 : Value → Nat
 | .slice _ n _ => n
 | _ => 0
theorem zjh : SmI (10, 0, 0, 0, []) := by unfold SmI; decide
structure Dc (w X : World) (B : Nat) (c : Option Addr) (len cap : Nat) (v : Value) (xs : List In13) (m : Nat) : Prop where
 cur : Cur X B c len cap
 g : w.grownBy X (some B)
 row : X.ownsRow w.heap.size 58 5 v m (insV xs)
 ln : xs.length = m
 sm : AllI xs
 bw : B < w.heap.size
section
variable {w X Y : World} {B : Nat} {c : Option Addr} {len cap : Nat} {v : Value} {xs : List In13} {m : Nat}
theorem Dc.draw (h : Dc w X B c len cap v xs m) (hc : Cur Y B c len cap) (hg : X.grownBy Y (some B)) : Dc w Y B c len cap v xs m :=
 ⟨hc, h.g.trans hg, zaV h.row h.bw hg, h.ln, h.sm, h.bw⟩
theorem Dc.val (h : Dc w X B c len cap v xs m) : ∃ a c', v = .slice a m c' := zaO h.row
theorem Dc.step (h : Dc w X B c len cap v xs m) {u : Value} {ys : List In13} {k : Nat} (hg : X.grownBy Y v.ownBlock) (hr : Y.ownsRow w.heap.size 58 5 u k (insV ys)) (hl : ys.length = k) (hs : AllI ys) : Dc w Y B c len cap u ys k := by
 have hb := h.bw
 have hsz := h.g.size
 refine ⟨h.cur.kept hg (fun q e => by have := (h.row.lt q e).1; omega), ⟨hg.os.trans h.g.os, hg.tape.trans h.g.tape, hg.output.trans h.g.output, Nat.le_trans hsz hg.size, fun q hq hne => ?_⟩, hr, hl, hs, h.bw⟩
 exact (hg.block q (Nat.lt_of_lt_of_le hq hsz) (fun e => by have := (h.row.lt q e.symm).1; omega)).trans (h.g.block q hq hne)
theorem Dc.push (h : Dc w X B c len cap v xs m) (x : In13) (hx : SmI x) (hm : m ≤ 1000) :
 ∃ a' c' Y, (Builtin.append_ #[39, 39] 39 #[v, .slice (some ⟨X.heap.size, 0, none⟩) 1 1]).run Tryz.prog (X.alloc (.cells #[.int .i64 x.1, .int .i64 x.2.1, .int .i64 x.2.2.1, .int .i64 x.2.2.2.1, .string ⟨x.2.2.2.2.toArray⟩] 58)) = .ok (.slice a' (m + 1) c') Y ∧ Dc w Y B c len cap (.slice a' (m + 1) c') (xs ++ [x]) (m + 1) := by
 obtain ⟨v', Y, hr, ho, hg⟩ := zeX x h.row h.g.size (by omega)
 obtain ⟨a', c', rfl⟩ := zaO ho
 exact ⟨a', c', Y, hr, h.step hg ho (by rw [List.length_append, h.ln]; rfl) (h.sm.push hx)⟩
theorem Dc.nil (hc : Cur X B c len cap) (hg : w.grownBy X (some B)) (hb : B < w.heap.size) : Dc w (X.alloc (.cells #[] 58)) B c len cap (.slice (some ⟨X.heap.size, 0, none⟩) 0 0) [] 0 :=
 ⟨hc.kept (World.grownBy_alloc X _ none) (by simp), hg.trans (World.grownBy_alloc X _ _), World.ownsRow_lit X #[] 0 hg.size (by decide) rfl, rfl, fun i hi => by simp at hi, hb⟩
end
section
variable {ops : Array Oper} {rest : List Oper} {op : Oper} {a : Act} {w : World} {Q : Exit → Act → World → Prop}
theorem zdu (hgd : op.guard = none) (x y : Operand) (ho : op.op = .store 58 x y) (j : Nat) (k r aa b : Int) (s : List UInt8) {w0 : World} {B : Nat} {c : Option Addr} {len cap : Nat} {ad : Option Addr} {cp : Nat} {xs : List In13} {m : Nat} (hd : Dc w0 w B c len cap (.slice ad m cp) xs m) (hj : j < m) (hs : SmI (k, r, aa, b, s))
 (hx : ∀ g, ad = some ⟨g, 0, none⟩ → a.eval x = .pointer (some ⟨g, j * 5, none⟩)) (hy : a.eval y = zak (k, r, aa, b, s))
 (h : ∀ Y, Dc w0 Y B c len cap (.slice ad m cp) (xs.set j (k, r, aa, b, s)) m → wpList Tryz.prog ops Q rest (a.put op.dst undef) Y) : wpList Tryz.prog ops Q (op :: rest) a w := by
 have hrow := hd.row
 obtain ⟨g, cp', e⟩ := za9 hrow (by omega)
 injection e with e1 _ e2
 subst e1 e2
 have hlen : (insV xs).length = m * 5 := by rw [zdw, hd.ln]
 have ht : w.there g (j * 5) 5 := fun q hq => ⟨by rw [hrow.cellAt (j * 5 + q) (by omega), List.getElem?_eq_getElem (by omega)]; rfl, hrow.frozenAt (j * 5 + q)⟩
 refine wpList_store_mid hgd _ x y ho g (j * 5) (insL k r aa b s).toArray (hx g rfl) hy ht zfn (all_oneCell_toArray (fun v hv => by simp [insL] at hv; rcases hv with rfl | rfl | rfl | rfl | rfl <;> rfl)) (h _ ?_)
 have h1 := hrow.stored (j * 5) (.int .i64 k)
 have h2 := h1.1.stored (j * 5 + 1) (.int .i64 r)
 have h3 := h2.1.stored (j * 5 + 2) (.int .i64 aa)
 have h4 := h3.1.stored (j * 5 + 3) (.int .i64 b)
 have h5 := h4.1.stored (j * 5 + 4) (.string ⟨s.toArray⟩)
 have hr5 := h5.1
 rw [insV_set] at hr5
 exact hd.step ((((h1.2.trans h2.2).trans h3.2).trans h4.2).trans h5.2) hr5 (by rw [List.length_set, hd.ln]) (hd.sm.set hs j)
end
theorem zi9 {P : In13 → Prop} {f : Int → Int → Int → List In13} (h : ∀ p r c, ∀ i ∈ f p r c, P i) : ∀ (ps : List Int) (r c : Int), ∀ i ∈ zaJ f ps r c, P i
 | [], _, _, i, hi => by simp [zaJ] at hi
 | p :: ps, r, c, i, hi => by
  rw [zaJ] at hi
  rcases List.mem_append.1 hi with e | e
  ·
   exact h p r c i e
  ·
   exact zi9 h ps _ _ i e
theorem zfc {t : List Nd} {L : Nat} (h : ∀ j, (t.getD j nd0).2.2.1.length ≤ L ∧ (t.getD j nd0).2.2.2.length ≤ L) : ∀ (d : Nat) (a r c : Int), ∀ i ∈ zad d t a r c, i.2.2.2.2.length ≤ 2 * L + 1
 | 0, _, _, _, i, hi => by simp [zad] at hi
 | d + 1, a, r, c, i, hi => by
  have ih := zfc h d
  have hn := h a.toNat
  rw [zad] at hi
  simp only at hi
  split at hi
  ·
   rw [List.mem_singleton.1 hi]; simp
  split at hi
  ·
   rw [List.mem_singleton.1 hi]; simp
  split at hi
  ·
   simp only [List.mem_append, List.mem_cons] at hi
   rcases hi with e | e | e | e | e
   ·
    exact ih _ _ _ i e
   ·
    rw [e]; simp
   ·
    exact ih _ _ _ i e
   ·
    rw [e]; simp
   ·
    exact ih _ _ _ i e
  split at hi
  ·
   rcases List.mem_append.1 hi with e | e
   ·
    exact zi9 (fun p r c i hi => ih p r c i hi) _ _ _ i e
   ·
    rw [List.mem_singleton.1 e]
    simp only [List.length_append, List.length_cons]
    omega
  split at hi
  ·
   simp only [List.mem_append, List.mem_singleton] at hi
   rcases hi with (e | e) | e
   ·
    exact ih _ _ _ i e
   ·
    exact ih _ _ _ i e
   ·
    rw [e]; simp
  ·
   simp only [List.mem_append, List.mem_singleton] at hi
   rcases hi with (e | e) | e
   ·
    exact ih _ _ _ i e
   ·
    exact ih _ _ _ i e
   ·
    rw [e]; simp
theorem ze3 {t : List Nd} (ht : zb9 t = true) (hs : zbz t) : AllI (zaq t) := fun i hi => by
 have hcb := of_decide_eq_true (zbF ht).1
 have hp := (hcb.2.1 i hi).1
 have hnm : i.2.2.2.2.length ≤ 1000 := by
  unfold zaq at hi
  rw [if_pos ht] at hi
  rcases List.mem_append.1 hi with e | e
  ·
   have := zfc (L := 100) (fun j => ⟨Nat.le_trans (zcS hs j).2.1 (by omega), Nat.le_trans (zcS hs j).2.2 (by omega)⟩) 60 0 0 0 i e
   omega
  ·
   rw [List.mem_singleton.1 e]; simp
 obtain ⟨k, r, a, b, s⟩ := i
 unfold insP at hp
 unfold SmI
 simp only at hp hnm ⊢
 omega
set_option maxHeartbeats 20000000 in
set_option maxRecDepth 100000 in
theorem ziK (w : World) (B : Nat) (a : Option Addr) (len cap : Nat) (h : Cur w B a len cap) :
 Calls Tryz.prog 74 #[.pointer (some ⟨B, 0, none⟩)] w fun e w' => ∃ v xs, e = .returned v ∧ xs.length ≤ 300 ∧ Dc w w' B a len cap v xs xs.length := by
 have hlB := h.lt
 go_enter Tryz.func74, Tryz.ntmps74
 go_wp2_with fail
 refine (zbe _ B a len cap 2 (by omega) (by omega) h).mono ?_
 rintro e w1 ⟨o, rfl, hc1, hg1⟩
 rcases o with _ | _
 ·
  go_wp2_with fail
  refine (zaf _ B a len cap 7 (by omega) (by omega) hc1).mono ?_
  rintro e w2 ⟨x, rfl, hx0, hx1, hc2, hg2⟩
  obtain ⟨q, rfl⟩ : ∃ q : Nat, x = (q : Int) := Int.eq_ofNat_of_zero_le hx0
  obtain ⟨n, hn⟩ : ∃ n : Nat, n = q + 1 := ⟨_, rfl⟩
  have hnq : 1 + (q : Int) = (n : Int) := by omega
  have hn7 : n ≤ 7 := by omega
  have hn1 : 1 ≤ n := by omega
  have s0 : Hid (Dc w (w2.alloc (.cells #[] 58)) B a len cap (.slice (some ⟨w2.heap.size, 0, none⟩) 0 0) [] 0) := Dc.nil hc2 (hg1.trans hg2) hlB
  clear hc1 hg1 hc2 hg2 hn hx0 hx1
  go_wp2
  go_loopw [4, 5] (fun ov iv wx => ∃ (i : Nat) (xs : List In13), iv = .int .i64 (i : Int) ∧ i ≤ n ∧ Hid (Dc w wx B a len cap ov xs i)) (fun _ iv _ => n - (intOf iv).toNat)
  case atStart => exact ⟨0, [], rfl, Nat.zero_le _, s0⟩
  case round =>
   obtain ⟨i, xs, rfl, hi, sr⟩ := hrel
   clear s0
   obtain ⟨oa, oc, rfl⟩ := sr.out.val
   by_cases hlt : (i : Int) < (n : Int)
   ·
    go_wp2_with fail
    refine (zkf _ B a len cap (n : Int) (by omega) (by omega) sr.out.cur).mono ?_
    rintro e w3 ⟨⟨k, r, aa, b, s⟩, rfl, hsm, hc3, hg3⟩
    have s1 := sr.out.draw hc3 hg3
    obtain ⟨a', c', Y, hrun, s2⟩ := s1.push (k, r, aa, b, s) hsm (by omega)
    have S2 : Hid (Dc w Y B a len cap (.slice a' (i + 1) c') (xs ++ [(k, r, aa, b, s)]) (i + 1)) := s2
    unfold zak
    simp only at hrun ⊢
    clear s1 s2 hc3 hg3 hsm sr
    go_wp2_with (at_builtin; refine za0 rfl (.tmp 22) (.tmp 26) 39 rfl _ _ _ rfl rfl hrun ?_; clear hrun)
    go_roundw
    case rel => exact ⟨i + 1, _, by go_num, by omega, S2⟩
    case measure => simp [intOf]; omega
   ·
    have hin : i = n := by omega
    subst hin
    clear hlt hi
    obtain ⟨g, cp, e⟩ := za9 sr.out.row (by omega)
    injection e with e1 e0 e2
    subst e1 e2
    clear e0
    obtain ⟨p, hpi⟩ : ∃ p, p + 1 = i := ⟨i - 1, by omega⟩
    have hp1 : (i : Int) - 1 = (p : Int) := by omega
    have hp2 : (p : Int) < (i : Int) := by omega
    go_wp2_with fail
    refine (zbe _ B a len cap 2 (by omega) (by omega) sr.out.cur).mono ?_
    rintro e w3 ⟨o2, rfl, hc3, hg3⟩
    have s1 : Hid (Dc w w3 B a len cap (.slice (some ⟨g, 0, none⟩) i oc) xs i) := sr.out.draw hc3 hg3
    clear hc3 hg3 sr
    go_upto_if 29 with fail
    go_cut [] from 20 (fun wx => ∃ ys : List In13, Hid (Dc w wx B a len cap (.slice (some ⟨g, 0, none⟩) i oc) ys i))
    case first =>
     rcases o2 with _ | _
     ·
      go_wp2_with fail
      go_meet
      case rel => exact ⟨xs, s1⟩
     ·
      go_wp2_with (guard_target = wpList _ _ _ _ _ _; (refine zdu rfl _ _ rfl p 10 0 0 0 [] s1.out (by omega) zjh (fun g' e => by injection e with e; injection e with e _ _; subst e; rfl) rfl (fun Y hY => ?_)))
      go_meet
      case rel => exact ⟨_, hY⟩
    case rest =>
    obtain ⟨ys, s2⟩ := hcut
    clear s1
    go_wp2_with fail
    refine (zbe _ B a len cap 8 (by omega) (by omega) s2.out.cur).mono ?_
    rintro e w4 ⟨o3, rfl, hc4, hg4⟩
    have s3 : Hid (Dc w w4 B a len cap (.slice (some ⟨g, 0, none⟩) i oc) ys i) := s2.out.draw hc4 hg4
    clear hc4 hg4 s2
    go_upto_if 36 with fail
    go_cut [] from 20 (fun wx => ∃ zs : List In13, Hid (Dc w wx B a len cap (.slice (some ⟨g, 0, none⟩) i oc) zs i))
    case first =>
     rcases o3 with _ | _
     ·
      go_wp2_with fail
      go_meet
      case rel => exact ⟨ys, s3⟩
     ·
      go_wp2_with fail
      refine (zaf _ B a len cap (i : Int) (by omega) (by omega) s3.out.cur).mono ?_
      rintro e w5 ⟨t, rfl, ht0, ht1, hc5, hg5⟩
      obtain ⟨j, rfl⟩ : ∃ j : Nat, t = (j : Int) := Int.eq_ofNat_of_zero_le ht0
      have s4 := s3.out.draw hc5 hg5
      clear hc5 hg5
      go_wp2_with fail
      refine (ziL _ B a len cap s4.cur).mono ?_
      rintro e w6 ⟨⟨k, r, aa, b, s⟩, rfl, hsm, hc6, hg6⟩
      have s5 := s4.draw hc6 hg6
      clear hc6 hg6 s4
      go_wp2_with (guard_target = wpList _ _ _ _ _ _; (refine zdu rfl _ _ rfl j k r aa b s s5 (by omega) hsm (fun g' e => by injection e with e; injection e with e _ _; subst e; rfl) rfl (fun Y hY => ?_)))
      go_meet
      case rel => exact ⟨_, hY⟩
    case rest =>
    obtain ⟨zs, s4⟩ := hcut
    clear s3
    go_wp2_with fail
    refine (zbe _ B a len cap 40 (by omega) (by omega) s4.out.cur).mono ?_
    rintro e w5 ⟨o4, rfl, hc5, hg5⟩
    have s5 : Hid (Dc w w5 B a len cap (.slice (some ⟨g, 0, none⟩) i oc) zs i) := s4.out.draw hc5 hg5
    clear hc5 hg5 s4
    rcases o4 with _ | _
    ·
     go_wp2
     go_ret
     exact ⟨_, zs, rfl, by rw [s5.out.ln]; omega, by rw [s5.out.ln]; exact s5.out⟩
    ·
     have s6 : Hid (Dc w (w5.alloc (.cells #[] 58)) B a len cap (.slice (some ⟨w5.heap.size, 0, none⟩) 0 0) [] 0) := Dc.nil s5.out.cur s5.out.g hlB
     clear s5
     go_wp2
     go_loopw [4] (fun ov wx => ∃ (k : Nat) (us : List In13) (a' : Option Addr) (c' : Nat), ov = .slice a' k c' ∧ k ≤ 201 ∧ Hid (Dc w wx B a len cap (.slice a' k c') us k)) (fun ov _ => 201 - sl13 ov)
     case atStart => exact ⟨0, [], _, _, rfl, by omega, s6⟩
     case round =>
      obtain ⟨k, us, a', c', rfl, hk, sk⟩ := hrel
      clear s6
      rename World => W
      go_wp2_with fail
      refine (zaf _ B a len cap 2 (by omega) (by omega) sk.out.cur).mono ?_
      rintro e w6 ⟨x6, rfl, h60, h61, hc6, hg6⟩
      have s7 := sk.out.draw hc6 hg6
      clear hc6 hg6 sk
      by_cases hlt6 : (k : Int) < 200 + x6
      ·
       obtain ⟨a2, c2, Y, hrun, s8⟩ := s7.push (10, 0, 0, 0, []) zjh (by omega)
       have S8 : Hid (Dc w Y B a len cap (.slice a2 (k + 1) c2) (us ++ [(10, 0, 0, 0, [])]) (k + 1)) := s8
       clear s8 s7
       go_wp2_with (at_builtin; refine za0 rfl (.tmp 53) (.tmp 55) 39 rfl _ _ _ rfl rfl hrun ?_; clear hrun)
       go_roundw
       case rel => exact ⟨k + 1, _, a2, c2, rfl, by omega, S8⟩
       case measure => simp [sl13]; omega
      ·
       have S7 : Hid (_) := s7
       clear s7
       go_wp2
       go_ret
       exact ⟨_, us, rfl, by rw [S7.out.ln]; omega, by rw [S7.out.ln]; exact S7.out⟩
 ·
  obtain ⟨⟨m0, m1, m2, m3⟩, hbn⟩ := zb6 w1 (.int .i64 8) (.int .i64 2) (.string ⟨#[108, 105, 98]⟩) (.string ⟨#[102]⟩) 99
  obtain ⟨V, hV⟩ : ∃ V, w1.alloc (.cells #[.int .i64 8, .int .i64 2, .string ⟨#[108, 105, 98]⟩, .string ⟨#[102]⟩] 99) = V := ⟨_, rfl⟩
  rw [hV] at m0 m1 m2 m3 hbn
  obtain ⟨N, hN⟩ : ∃ N, w1.heap.size = N := ⟨_, rfl⟩
  have hNl : B < N := by rw [← hN]; exact hc1.lt
  rw [hN] at m0 m1 m2 m3
  have hNV : N < V.heap.size := World.block_lt_of_cell? V ⟨N, 0, none⟩ m0
  have hin : zag V (some ⟨N, 0, none⟩) 1 [((8 : Int), (2 : Int), [108, 105, 98], [102])] := ⟨rfl, fun j hj => by
   obtain rfl : j = 0 := by omega
   exact ⟨N, 0, rfl, hNV, m0, m1, m2, m3⟩⟩
  have hsmn : ∀ j, zbG (([((8 : Int), (2 : Int), [108, 105, 98], [102])] : List Nd).getD j nd0) := fun j => by
   cases j with
   | zero => unfold zbG IntN; decide
   | succ j => rw [show (([((8 : Int), (2 : Int), [108, 105, 98], [102])] : List Nd).getD (j + 1) nd0) = nd0 by simp]; unfold zbG IntN nd0; decide
  have hkdn : ∀ j, zbm (([((8 : Int), (2 : Int), [108, 105, 98], [102])] : List Nd).getD j nd0) ≤ 3 := fun j => by
   cases j with
   | zero => decide
   | succ j => rw [show (([((8 : Int), (2 : Int), [108, 105, 98], [102])] : List Nd).getD (j + 1) nd0) = nd0 by simp]; decide
  have HD : Hid (_) := zfg V B a len cap 2 (some ⟨N, 0, none⟩) 1 1 [((8 : Int), (2 : Int), [108, 105, 98], [102])] (by omega) (by omega) (hc1.below hbn) hin (by omega) hsmn hkdn (fun b off e => by injection e with e; injection e with e _ _; omega)
  have HG : Hid (w.grownBy V (some B)) := ⟨hbn.os.trans hg1.os, hbn.tape.trans hg1.tape, hbn.output.trans hg1.output, Nat.le_trans hg1.size hbn.size, fun q hq hne => (hbn.block q (Nat.lt_of_lt_of_le hq hg1.size)).trans (hg1.block q hq hne)⟩
  clear m0 m1 m2 m3 hbn hin hsmn hkdn hc1 hg1 hNV
  go_wp2_with fail
  refine Calls.mono HD.out ?_
  rintro e w2 ⟨v, ns, rfl, hown, htb, hsm, hc2, hg2⟩
  obtain ⟨_, ta, tc, rfl, hnin⟩ := zaL hown
  have HCo : Hid (_) := zd9 ta tc ns w2 hnin hsm.short htb
  have hG2 := HG.out.trans hg2
  have HA : Hid (AllI (zaq ns) ∧ (zaq ns).length ≤ 121) := ⟨ze3 htb hsm, (zbF htb).2.2.1⟩
  have HC2 : Hid (Cur w2 B a len cap ∧ w.grownBy w2 (some B)) := ⟨hc2, hG2⟩
  clear hown hnin hc2 hg2 hG2 htb hsm HD HG
  go_wp2_with fail
  refine Calls.mono HCo.out ?_
  rintro e w3 ⟨cv, rfl, hcv, hb3⟩
  have HF : Hid (Dc w w3 B a len cap cv (zaq ns) (zaq ns).length) := by
   have hg := HC2.out.2
   exact ⟨HC2.out.1.below hb3, ⟨hb3.os.trans hg.os, hb3.tape.trans hg.tape, hb3.output.trans hg.output, Nat.le_trans hg.size hb3.size, fun q hq hne => (hb3.block q (Nat.lt_of_lt_of_le hq hg.size)).trans (hg.block q hq hne)⟩, zai hcv hg.size, rfl, HA.out.1, hlB⟩
  clear hcv hb3 HCo
  go_wp2
  go_ret
  exact ⟨_, _, rfl, by have := HA.out.2; omega, HF.out⟩
abbrev Rt := List UInt8 × Int × List In13
def rt0 : Rt := ([], 0, [])
def zbQ (s : List UInt8) : List Rt → Nat → Int
 | [], _ => -1
 | r :: rs, k => if r.1 = s then (k : Int) else zbQ s rs (k + 1)
def at14 (rs : List Rt) (s : List UInt8) : Int := zbQ s rs 0
theorem zhu {rs : List Rt} {k : Nat} (hk : k < rs.length) (s : List UInt8) : zbQ s (rs.drop k) k = if (rs.getD k rt0).1 = s then (k : Int) else zbQ s (rs.drop (k + 1)) (k + 1) := by
 rw [List.drop_eq_getElem_cons hk, zbQ]
 have hg : rs.getD k rt0 = rs[k] := by simp [List.getD, hk]
 rw [hg]
theorem zgH (s : List UInt8) : ∀ (rs : List Rt) (k : Nat), zbQ s rs k = -1 ∨ ((k : Int) ≤ zbQ s rs k ∧ zbQ s rs k < k + rs.length)
 | [], _ => Or.inl rfl
 | r :: rs, k => by
  rw [zbQ]
  split
  ·
   refine Or.inr ⟨Int.le_refl _, ?_⟩
   simp only [List.length_cons]; omega
  ·
   rcases zgH s rs (k + 1) with h | h
   ·
    exact Or.inl h
   ·
    refine Or.inr ⟨by omega, ?_⟩
    simp only [List.length_cons]; omega
theorem at14_bd (rs : List Rt) (s : List UInt8) : -1 ≤ at14 rs s ∧ at14 rs s < rs.length := by
 unfold at14
 rcases zgH s rs 0 with h | h
 ·
  rw [h]; omega
 ·
  omega
def argB (n : Int) (i : In13) : Bool := !(decide (i.1 = 2) && decide (n ≤ i.2.2.1))
def rtB (r : Rt) : Bool := (zb3 r.1 && (inB r.2.1 0 3 && zbP r.2.2)) && r.2.2.all (argB r.2.1)
def clsB (rs : List Rt) (i : In13) : Bool := decide (i.1 ≠ 9) || (decide (0 ≤ at14 rs i.2.2.2.2) && decide ((rs.getD (at14 rs i.2.2.2.2).toNat rt0).2.1 = i.2.2.1))
def oneB (rs : List Rt) (j : Nat) : Prop := rtB (rs.getD j rt0) = true ∧ (0 < j → leT (rs.getD j rt0).1 (rs.getD (j - 1) rt0).1 = false) ∧ (rs.getD j rt0).2.2.all (clsB rs) = true
instance (rs : List Rt) (j : Nat) : Decidable (oneB rs j) := by unfold oneB; infer_instance
def zbM (rs : List Rt) : Bool := decide ((∀ j, j < rs.length → oneB rs j) ∧ (1 ≤ rs.length ∧ rs.length ≤ 64))
theorem zed {rs : List Rt} {j : Nat} (hj : j < rs.length) (h : ¬ oneB rs j) : zbM rs = false := decide_eq_false (fun e => h (e.1 j hj))
theorem zk7 {rs : List Rt} (h : ∀ j, j < rs.length → oneB rs j) : zbM rs = inB (rs.length : Int) 1 64 := by
 unfold zbM inB
 refine decide_eq_decide.2 ⟨fun e => by omega, fun e => ⟨h, by omega⟩⟩
def nmL (s : List UInt8) : List UInt8 := if s = [] then [45] else s
def insLn (i : In13) : List UInt8 := intL i.1 ++ [32] ++ intL i.2.1 ++ [32] ++ intL i.2.2.1 ++ [32] ++ intL i.2.2.2.1 ++ [32] ++ nmL i.2.2.2.2
theorem zgb {s : List UInt8} (h : zb3 s = true) : ∃ p f, zaz p = true ∧ zaz f = true ∧ s = p ++ 46 :: f := by
 unfold zb3 at h
 rw [Bool.and_eq_true, Bool.and_eq_true, beq_iff_eq] at h
 obtain ⟨⟨h1, h2⟩, h3⟩ := h
 have hj := zgh 46 s []
 rw [List.nil_append] at hj
 match hs : zaD 46 s, h1 with
 | [p, f], _ =>
  rw [hs] at h2 h3
  refine ⟨p, f, h2, h3, ?_⟩
  rw [← hj]
  have e : zas 46 [] s = [p, f] := hs
  rw [e]
  simp [zfb]
theorem zdL {s : List UInt8} (h : zb3 s = true) : 3 ≤ s.length ∧ s.length ≤ 17 := by
 obtain ⟨p, f, hp, hf, rfl⟩ := zgb h
 have h1 := (zci hp).1
 have h2 := (zci hf).1
 simp only [List.length_append, List.length_cons]
 omega
theorem zcZ {i : In13} (h : insP i) : (-2147483648 ≤ i.1 ∧ i.1 ≤ 2147483647) ∧ (-2147483648 ≤ i.2.1 ∧ i.2.1 ≤ 2147483647) ∧ (-2147483648 ≤ i.2.2.1 ∧ i.2.2.1 ≤ 2147483647) ∧ (-2147483648 ≤ i.2.2.2.1 ∧ i.2.2.2.1 ≤ 2147483647) := by
 have h2 := h.2.1
 have h3 := h.2.2
 omega
theorem zgC {c : List In13} (h : zbP c = true) : ∀ i ∈ c, insP i := fun i hi => ((of_decide_eq_true h).2.1 i hi).1
theorem zcP {c : List In13} (h : zbP c = true) : 1 ≤ c.length ∧ c.length ≤ 200 := (of_decide_eq_true h).1
theorem zc7 {r : Rt} (h : rtB r = true) : zb3 r.1 = true ∧ (0 ≤ r.2.1 ∧ r.2.1 ≤ 3) ∧ zbP r.2.2 = true ∧ r.2.2.all (argB r.2.1) = true := by
 unfold rtB at h
 simp only [Bool.and_eq_true] at h
 exact ⟨h.1.1, by have := h.1.2.1; unfold inB at this; exact of_decide_eq_true this, h.1.2.2, h.2⟩
theorem zfD {a : Int} (k : Nat) (h0 : 0 ≤ a) (h1 : a < 10 ^ (k + 1)) : (intL a).length ≤ k + 1 := by
 unfold intL
 rw [if_neg (by omega)]
 exact zfP k a.natAbs (by
  have e : ((a.natAbs : Nat) : Int) = a := by omega
  have h2 : ((a.natAbs : Nat) : Int) < ((10 ^ (k + 1) : Nat) : Int) := by rw [e]; push_cast; exact h1
  omega)
theorem intL_w11 {a : Int} (h0 : -2147483648 ≤ a) (h1 : a ≤ 2147483647) : (intL a).length ≤ 11 := by
 unfold intL
 have hd := zfP 9 a.natAbs (by omega)
 split
 ·
  simp only [List.length_cons]; omega
 ·
  omega
theorem zgm {i : In13} (h : insP i) : (insLn i).length ≤ 28 := by
 obtain ⟨k, r, a, b, s⟩ := i
 have hk : 1 ≤ k ∧ k ≤ 10 := by have := h.2.2; simp only at this; omega
 have hr : 0 ≤ r ∧ r ≤ 63 := by have := h.2.2; simp only at this; omega
 have hb : 0 ≤ b ∧ b ≤ 63 := by have h1 := h.2.1; have h2 := h.2.2; simp only at h1 h2; omega
 have lk := zfD (a := k) 1 (by omega) (by omega)
 have lr := zfD (a := r) 1 (by omega) (by omega)
 have lb := zfD (a := b) 1 (by omega) (by omega)
 have la : (intL a).length + (nmL s).length ≤ 18 := by
  by_cases h9 : k = 9
  ·
   have h2 := h.2.2
   simp only at h2
   have hn : (0 ≤ a ∧ a ≤ 3) ∧ zb3 s = true := by
    rcases h2 with e | e | e | e | e | e | e
    ·
     omega
    ·
     omega
    ·
     omega
    ·
     omega
    ·
     omega
    ·
     exact ⟨e.2.2.1, e.2.2.2.2⟩
    ·
     omega
   have l1 := zfD (a := a) 0 (by omega) (by omega)
   have l2 := zdL hn.2
   unfold nmL
   split
   ·
    simp; omega
   ·
    omega
  ·
   have hs : s = [] := by
    have := h.1
    simp only at this
    rcases this with e | e
    ·
     exact absurd e h9
    ·
     exact e
   have l1 := intL_w11 (zcZ h).2.2.1.1 (zcZ h).2.2.1.2
   simp only at l1
   unfold nmL
   rw [if_pos hs]
   simp
   omega
 unfold insLn
 simp only [List.length_append, List.length_singleton]
 omega
def zgK (xs : List Int) : Prop := ∀ x ∈ xs, -2147483648 ≤ x ∧ x ≤ 2147483647
theorem zgK.at {xs : List Int} (h : zgK xs) (j : Nat) : -2147483648 ≤ xs.getD j 0 ∧ xs.getD j 0 ≤ 2147483647 := by
 rw [List.getD_eq_getElem?_getD]
 rcases Nat.lt_or_ge j xs.length with hj | hj
 ·
  rw [List.getElem?_eq_getElem hj]; exact h _ (List.getElem_mem hj)
 ·
  rw [List.getElem?_eq_none hj]; decide
theorem zgK.set {xs : List Int} (h : zgK xs) (j : Nat) {z : Int} (hz : -2147483648 ≤ z ∧ z ≤ 2147483647) : zgK (xs.set j z) := fun q hq => by
 rcases List.mem_or_eq_of_mem_set hq with e | e
 ·
  exact h q e
 ·
  rw [e]; exact hz
def runP (rs : List Rt) (nm : List UInt8) (xs : List Int) (fuel : Int) : Prop := zbM rs = true ∧ 0 ≤ at14 rs nm ∧ (xs.length : Int) = (rs.getD (at14 rs nm).toNat rt0).2.1 ∧ (0 ≤ fuel ∧ fuel ≤ 20000) ∧ zgK xs
instance (xs : List Int) : Decidable (zgK xs) := by unfold zgK; infer_instance
instance (rs : List Rt) (nm : List UInt8) (xs : List Int) (fuel : Int) : Decidable (runP rs nm xs fuel) := by unfold runP; infer_instance
def zbp (w : World) (a : Option Addr) (len : Nat) (rs : List Rt) : Prop :=
 rs.length = len ∧ ∀ j, j < len → ∃ b off, a = some ⟨b, off, none⟩ ∧ b < w.heap.size ∧ w.cell? ⟨b, off + j * 3, none⟩ = some (.string ⟨(rs.getD j rt0).1.toArray⟩) ∧ w.cell? ⟨b, off + j * 3 + 1, none⟩ = some (.int .i64 (rs.getD j rt0).2.1) ∧
  ∃ ca cl cc, w.cell? ⟨b, off + j * 3 + 2, none⟩ = some (.slice ca cl cc) ∧ zb4 w ca cl (rs.getD j rt0).2.2
theorem zbp.below {w w' : World} {a : Option Addr} {len : Nat} {rs : List Rt} (h : zbp w a len rs) (hb : Below w.heap.size w w') : zbp w' a len rs := by
 refine ⟨h.1, fun j hj => ?_⟩
 obtain ⟨b, off, e, hlt, c0, c1, ca, cl, cc, c2, hn⟩ := h.2 j hj
 exact ⟨b, off, e, Nat.lt_of_lt_of_le hlt hb.size, (hb.cell (p := ⟨b, off + j * 3, none⟩) hlt).trans c0, (hb.cell (p := ⟨b, off + j * 3 + 1, none⟩) hlt).trans c1, ca, cl, cc, (hb.cell (p := ⟨b, off + j * 3 + 2, none⟩) hlt).trans c2, hn.below hb⟩
def zc0 (rs : List Rt) : Prop := ∀ j, (rs.getD j rt0).1.length ≤ 1048576 ∧ (rs.getD j rt0).2.2.length ≤ 1048576 ∧ zcm (rs.getD j rt0).2.2
set_option maxHeartbeats 2000000 in
set_option maxRecDepth 100000 in
theorem zhF (a : Option Addr) (len cap : Nat) (rs : List Rt) (s : List UInt8) (w : World) (hin : zbp w a len rs) (hlen : len ≤ 1048576) :
 Calls Tryz.prog 33 #[.slice a len cap, .string ⟨s.toArray⟩] w fun e w' => e = .returned (.int .i64 (at14 rs s)) ∧ w' = w := by
 obtain rfl : rs.length = len := hin.1
 have HI : Hid (zbp w a rs.length rs) := hin
 clear hin
 go_enter Tryz.func33, Tryz.ntmps33
 go_wp2
 go_loop [5] (fun iv => ∃ j : Nat, iv = .int .i64 (j : Int) ∧ j ≤ rs.length ∧ Hid (at14 rs s = zbQ s (rs.drop j) j)) (fun iv => rs.length - (intOf iv).toNat)
 case atStart => exact ⟨0, rfl, by omega, (rfl : at14 rs s = zbQ s (rs.drop 0) 0)⟩
 case round =>
  obtain ⟨j, rfl, hj, HA⟩ := hrel
  by_cases hlt : (j : Int) < (rs.length : Int)
  ·
   obtain ⟨b, off, rfl, hbl, c0, _⟩ := HI.out.2 j (by omega)
   have hg := zhu (rs := rs) (k := j) (by omega) s
   obtain ⟨x, hx⟩ : ∃ x, (rs.getD j rt0).1 = x := ⟨_, rfl⟩
   rw [hx] at c0 hg
   by_cases hxs : x = s
   ·
    subst hxs
    have HR : Hid (at14 rs x = (j : Int)) := by exact (by rw [HA.out, hg, if_pos rfl] : at14 rs x = (j : Int))
    have hself : (x == x) = true := by simp
    clear HA hg hx
    go_wp2
    go_ret
    exact ⟨by rw [HR.out]; rfl, rfl⟩
   ·
    have HR : Hid (at14 rs s = zbQ s (rs.drop (j + 1)) (j + 1)) := by exact (by rw [HA.out, hg, if_neg hxs] : at14 rs s = zbQ s (rs.drop (j + 1)) (j + 1))
    have hne : (x == s) = false := by rw [beq_eq_false_iff_ne]; exact hxs
    clear HA hg hx
    go_wp2
    go_round
    case rel => exact ⟨j + 1, by go_num, by omega, HR⟩
    case measure => simp [intOf]; omega
  ·
   have HR : Hid (at14 rs s = -1) := by exact (by rw [HA.out, List.drop_of_length_le (by omega)]; rfl : at14 rs s = -1)
   go_wp2
   go_ret
   exact ⟨by rw [HR.out]; rfl, rfl⟩
theorem arg_all {c : List In13} {n : Int} (h : ∀ j, j < c.length → argB n (c.getD j in0) = true) : c.all (argB n) = true := by
 rw [List.all_eq_true]
 intro i hi
 obtain ⟨j, hj, rfl⟩ := List.getElem_of_mem hi
 have := h j hj
 simpa only [List.getD, List.getElem?_eq_getElem hj, Option.getD_some] using this
theorem arg_no {c : List In13} {n : Int} {j : Nat} (hj : j < c.length) (h : argB n (c.getD j in0) = false) : c.all (argB n) = false := by
 rw [Bool.eq_false_iff]
 intro e
 have := List.all_eq_true.1 e c[j] (List.getElem_mem hj)
 simp only [List.getD, List.getElem?_eq_getElem hj, Option.getD_some] at h
 rw [h] at this
 cases this
set_option maxHeartbeats 4000000 in
set_option maxRecDepth 100000 in
theorem zej (n : List UInt8) (a : Int) (ca : Option Addr) (cl cc : Nat) (c : List In13) (w : World) (hin : zb4 w ca cl c) (hsh : zcm c) (hlen : cl ≤ 1048576) (hn : n.length ≤ 1048576) :
 Calls Tryz.prog 32 #[.agg #[.string ⟨n.toArray⟩, .int .i64 a, .slice ca cl cc]] w fun e w' => e = .returned (.bool (rtB (n, a, c))) ∧ Below w.heap.size w w' := by
 obtain rfl : c.length = cl := hin.1
 obtain ⟨W, hW⟩ : ∃ W, w.alloc (.cells #[.string ⟨n.toArray⟩, .int .i64 a, .slice ca c.length cc] 41) = W := ⟨_, rfl⟩
 have hbW : Below w.heap.size w W := by rw [← hW]; exact (Below.refl _ _).alloc (Nat.le_refl _) _
 have hA : W.heap[w.heap.size]? = some (.cells #[.string ⟨n.toArray⟩, .int .i64 a, .slice ca c.length cc] 41) := by rw [← hW]; exact heap_alloc_new w _
 obtain ⟨D, hD⟩ : ∃ D, w.heap.size = D := ⟨_, rfl⟩
 rw [hD] at hA
 have k0 : W.cell? ⟨D, 0, none⟩ = some (.string ⟨n.toArray⟩) := by simp [World.cell?, hA]
 have k1 : W.cell? ⟨D, 1, none⟩ = some (.int .i64 a) := by simp [World.cell?, hA]
 have k2 : W.cell? ⟨D, 2, none⟩ = some (.slice ca c.length cc) := by simp [World.cell?, hA]
 have hDl : D < W.heap.size := World.block_lt_of_cell? W ⟨D, 0, none⟩ k0
 have HK : Hid (∀ Z, Below W.heap.size W Z → Z.cell? ⟨D, 0, none⟩ = some (.string ⟨n.toArray⟩) ∧ Z.cell? ⟨D, 1, none⟩ = some (.int .i64 a) ∧ Z.cell? ⟨D, 2, none⟩ = some (.slice ca c.length cc)) := fun Z hz => ⟨(hz.cell (p := ⟨D, 0, none⟩) hDl).trans k0, (hz.cell (p := ⟨D, 1, none⟩) hDl).trans k1, (hz.cell (p := ⟨D, 2, none⟩) hDl).trans k2⟩
 have HI : Hid (∀ Z, Below W.heap.size W Z → zb4 Z ca c.length c) := fun Z hz => (hin.below hbW).below hz
 have HN : Hid (_) := zeU n W hn
 have HC : Hid (∀ Z, Below W.heap.size W Z → Calls Tryz.prog 49 #[.slice ca c.length cc] Z fun e w' => e = .returned (.bool (zbP c)) ∧ Below Z.heap.size Z w') := fun Z hz => zig ca c.length cc c Z ((hin.below hbW).below hz) hsh hlen
 have HIn : Hid (_) := fun Z : World => zcf a 0 3 Z
 have HB : Hid (Below w.heap.size w W) := hbW
 have HV : Hid (rtB (n, a, c) = ((zb3 n && (inB a 0 3 && zbP c)) && c.all (argB a))) := rfl
 generalize zb3 n = b1 at HN HV
 generalize inB a 0 3 = b2 at HIn HV
 generalize zbP c = b3 at HC HV
 clear hin hsh hbW hA k1 k2 hDl
 go_enter Tryz.func32, Tryz.ntmps32
 go_wp2_with fail
 refine Calls.mono HN.out ?_
 rintro e W1 ⟨rfl, hb1⟩
 obtain ⟨_, k1, k2⟩ := HK.out W1 hb1
 have HB1 : Hid (Below W.heap.size W W1) := hb1
 have HF1 : Hid (Below w.heap.size w W1) := HB.out.trans (hb1.mono HB.out.size)
 clear hb1 k0
 rcases b1 with _ | _
 ·
  go_wp2
  go_ret
  exact ⟨by rw [HV.out]; rfl, hD ▸ HF1.out⟩
 ·
  go_wp2_with fail
  refine Calls.mono (HIn.out _) ?_
  rintro e W2 ⟨rfl, hw2⟩
  obtain rfl := hw2.symm
  clear hw2
  rcases b2 with _ | _
  ·
   go_wp2
   go_ret
   exact ⟨by rw [HV.out]; rfl, hD ▸ HF1.out⟩
  ·
   go_wp2_with fail
   refine Calls.mono (HC.out _ HB1.out) ?_
   rintro e W3 ⟨rfl, hb3⟩
   have HB3 : Hid (Below W.heap.size W W3) := HB1.out.trans (hb3.mono HB1.out.size)
   clear hb3 k1 k2
   obtain ⟨_, k1, k2⟩ := HK.out W3 HB3.out
   have HF3 : Hid (Below w.heap.size w W3) := HB.out.trans (HB3.out.mono HB.out.size)
   rcases b3 with _ | _
   ·
    go_wp2
    go_ret
    exact ⟨by rw [HV.out]; rfl, hD ▸ HF3.out⟩
   ·
    go_wp2
    go_loopw [3] (fun iv wr => ∃ q : Nat, iv = .int .i64 (q : Int) ∧ q ≤ c.length ∧ Hid (∀ u, u < q → argB a (c.getD u in0) = true) ∧ Hid (Below W.heap.size W wr)) (fun iv _ => c.length - (intOf iv).toNat)
    case atStart => exact ⟨0, rfl, Nat.zero_le _, fun u hu => by omega, HB3⟩
    case round =>
     obtain ⟨q, rfl, hq, HQ, HBr⟩ := hrel
     clear k1 k2 HB3 HF3
     obtain ⟨_, k1, k2⟩ := HK.out wr HBr.out
     by_cases hlt : (q : Int) < (c.length : Int)
     ·
      obtain ⟨cb, co, rfl, _, x0, _, x2, _, _⟩ := (HI.out wr HBr.out).2 q (by omega)
      obtain ⟨i, hi⟩ : ∃ i, c.getD q in0 = i := ⟨_, rfl⟩
      rw [hi] at x0 x2
      obtain ⟨kd, r, aa, bb, s⟩ := i
      simp only at x0 x2
      have hBd : Below W.heap.size W wr.drew := HBr.out.trans ⟨rfl, rfl, rfl, Nat.le_refl _, fun _ _ => rfl⟩
      have HBd : Hid (Below W.heap.size W wr.drew) := hBd
      clear hBd
      by_cases h2 : kd = 2
      ·
       subst h2
       by_cases hge : a ≤ aa
       ·
        have HN2 : Hid (c.all (argB a) = false) := arg_no (j := q) (by omega) (by rw [hi]; unfold argB; simp [hge])
        have hge2 : aa ≥ a := hge
        clear hi
        go_wp2
        refine wp_region_held_drew (S := (fun Z => Z.cell? ⟨D, 1, none⟩ = some (.int .i64 a) ∧ Z.cell? ⟨D, 2, none⟩ = some (.slice (some ⟨cb, co, none⟩) c.length cc) ∧ Z.cell? ⟨cb, co + q * 5, none⟩ = some (.int .i64 2) ∧ Z.cell? ⟨cb, co + q * 5 + 2, none⟩ = some (.int .i64 aa))) (by kernel_rfl) ?_ (fun hHeld => ?_)
        ·
         first | (dsimp only; done) | (dsimp only; go_keep) | go_keep
        refine tkO [(0, 27), (1, 28), (2, 29), (3, 30), (4, 31), (5, 32), (6, 33), (7, 34), (8, 35), (9, 36), (10, 37), (11, 38), (12, 39), (13, 40), (14, 41), (15, 42), (16, 43), (17, 44)] ?_
        repeat (refine tkY ?_ rfl (by rfl) ?_ ?_; rotate_left; (focus (intro wq hSw; (try dsimp only at hSw); first | (go_simp; done) | (go_simp; with_reducible rfl))); simp only [zP])
        refine tkZ ?_
        refine wpAnyH_done (by kernel_rfl) ?_ _
        go_wp2
        go_ret
        exact ⟨by rw [HV.out, HN2.out]; rfl, hD ▸ (HB.out.trans (HBd.out.mono HB.out.size))⟩
       ·
        have HQ2 : Hid (∀ u, u < q + 1 → argB a (c.getD u in0) = true) := fun u hu => by
         by_cases e : u = q
         ·
          rw [e, hi]; unfold argB; simp; omega
         ·
          exact HQ.out u (by omega)
        have hge2 : ¬ aa ≥ a := hge
        clear hi
        go_wp2
        refine wp_region_held_drew (S := (fun Z => Z.cell? ⟨D, 1, none⟩ = some (.int .i64 a) ∧ Z.cell? ⟨D, 2, none⟩ = some (.slice (some ⟨cb, co, none⟩) c.length cc) ∧ Z.cell? ⟨cb, co + q * 5, none⟩ = some (.int .i64 2) ∧ Z.cell? ⟨cb, co + q * 5 + 2, none⟩ = some (.int .i64 aa))) (by kernel_rfl) ?_ (fun hHeld => ?_)
        ·
         first | (dsimp only; done) | (dsimp only; go_keep) | go_keep
        refine tkO [(0, 27), (1, 28), (2, 29), (3, 30), (4, 31), (5, 32), (6, 33), (7, 34), (8, 35), (9, 36), (10, 37), (11, 38), (12, 39), (13, 40), (14, 41), (15, 42), (16, 43), (17, 44)] ?_
        repeat (refine tkY ?_ rfl (by rfl) ?_ ?_; rotate_left; (focus (intro wq hSw; (try dsimp only at hSw); first | (go_simp; done) | (go_simp; with_reducible rfl))); simp only [zP])
        refine tkZ ?_
        refine wpAnyH_done (by kernel_rfl) ?_ _
        go_wp2
        go_roundw
        case rel => exact ⟨q + 1, by go_num, by omega, HQ2, HBd⟩
        case measure => simp [intOf]; omega
      ·
       have HQ2 : Hid (∀ u, u < q + 1 → argB a (c.getD u in0) = true) := fun u hu => by
        by_cases e : u = q
        ·
         rw [e, hi]; unfold argB; simp [h2]
        ·
         exact HQ.out u (by omega)
       have h2b : (kd == 2) = false := beq_eq_false_iff_ne.2 h2
       clear hi
       go_wp2
       refine wp_region_held_drew (S := (fun Z => Z.cell? ⟨D, 1, none⟩ = some (.int .i64 a) ∧ Z.cell? ⟨D, 2, none⟩ = some (.slice (some ⟨cb, co, none⟩) c.length cc) ∧ Z.cell? ⟨cb, co + q * 5, none⟩ = some (.int .i64 kd) ∧ Z.cell? ⟨cb, co + q * 5 + 2, none⟩ = some (.int .i64 aa))) (by kernel_rfl) ?_ (fun hHeld => ?_)
       ·
        first | (dsimp only; done) | (dsimp only; go_keep) | go_keep
       refine tkO [(0, 27), (1, 28), (2, 29), (3, 30), (4, 31), (5, 32), (6, 33), (7, 34), (8, 35), (9, 36), (10, 37), (11, 38), (12, 39), (13, 40), (14, 41), (15, 42), (16, 43), (17, 44)] ?_
       repeat ((first | (refine tkY ?_ rfl (by rfl) ?_ ?_; rotate_left; (focus (intro wq hSw; (try dsimp only at hSw); first | (go_simp; done) | (go_simp; with_reducible rfl)))) | refine tkN rfl (by rfl) ?_); simp only [zP])
       refine tkZ ?_
       refine wpAnyH_done (by kernel_rfl) ?_ _
       go_wp2
       go_roundw
       case rel => exact ⟨q + 1, by go_num, by omega, HQ2, HBd⟩
       case measure => simp [intOf]; omega
     ·
      have HN2 : Hid (c.all (argB a) = true) := arg_all (fun u hu => HQ.out u (by omega))
      go_wp2
      go_ret
      exact ⟨by rw [HV.out, HN2.out]; rfl, hD ▸ (HB.out.trans (HBr.out.mono HB.out.size))⟩
structure zby (w w' : World) (S : Nat → Prop) : Prop where
 os : w'.os = w.os
 tape : w'.tape = w.tape
 output : w'.output = w.output
 size : w.heap.size ≤ w'.heap.size
 block : ∀ k, k < w.heap.size → ¬ S k → w'.heap[k]? = w.heap[k]?
theorem zby.refl (w : World) (S : Nat → Prop) : zby w w S := ⟨rfl, rfl, rfl, Nat.le_refl _, fun _ _ _ => rfl⟩
theorem zby.trans {a b c : World} {S : Nat → Prop} (h : zby a b S) (k : zby b c S) : zby a c S :=
 ⟨k.os.trans h.os, k.tape.trans h.tape, k.output.trans h.output, Nat.le_trans h.size k.size, fun i hi hs => (k.block i (Nat.lt_of_lt_of_le hi h.size) hs).trans (h.block i hi hs)⟩
theorem zby.mono {w w' : World} {S T : Nat → Prop} (h : zby w w' S) (hs : ∀ k, S k → T k) : zby w w' T := ⟨h.os, h.tape, h.output, h.size, fun k hk hn => h.block k hk (fun e => hn (hs k e))⟩
theorem zby.of_grown {w w' : World} {row : Option Nat} {S : Nat → Prop} (h : w.grownBy w' row) (hs : ∀ k, row = some k → S k) : zby w w' S :=
 ⟨h.os, h.tape, h.output, h.size, fun k hk hn => h.block k hk (fun e => hn (hs k e.symm))⟩
theorem zby.of_below {w w' : World} {S : Nat → Prop} (h : Below w.heap.size w w') : zby w w' S := ⟨h.os, h.tape, h.output, h.size, fun k hk _ => h.block k hk⟩
theorem zby.below {w w' : World} {S : Nat → Prop} {B : Nat} (h : zby w w' S) (hB : B ≤ w.heap.size) (hs : ∀ k, S k → B ≤ k) : Below B w w' :=
 ⟨h.os, h.tape, h.output, h.size, fun k hk => h.block k (Nat.lt_of_lt_of_le hk hB) (fun e => by have := hs k e; omega)⟩
theorem zeZ {w w' : World} {base e size n : Nat} {v : Value} {xs : List Value} {S : Nat → Prop} (h : w.ownsRow base e size v n xs) (hw : zby w w' S) (hv : ∀ k, v.ownBlock = some k → ¬ S k) : w'.ownsRow base e size v n xs := by
 refine ⟨h.1, ?_⟩
 rcases h.2 with hn | ⟨g, cap, cur, rfl, hb, hgg, rest⟩
 ·
  exact .inl hn
 ·
  refine .inr ⟨g, cap, cur, rfl, hb, ?_, rest⟩
  rw [hw.block g (Array.getElem?_eq_some_iff.1 hgg).1 (hv g rfl)]
  exact hgg
def zbH (vs : List Value) : Prop := vs.Pairwise (fun a b => a.ownBlock = none ∨ a.ownBlock ≠ b.ownBlock)
theorem zbH.ne {vs : List Value} (h : zbH vs) {i j : Nat} (hi : i < vs.length) (hj : j < vs.length) (hij : i ≠ j) : vs[i].ownBlock = none ∨ vs[i].ownBlock ≠ vs[j].ownBlock := by
 rcases Nat.lt_or_gt_of_ne hij with hl | hl
 ·
  exact List.pairwise_iff_getElem.1 h i j hi hj hl
 ·
  rcases List.pairwise_iff_getElem.1 h j i hj hi hl with e | e
  ·
   rw [e]; cases vs[i].ownBlock <;> simp
  ·
   exact Or.inr (fun e2 => e e2.symm)
theorem zbH.nil : zbH [] := List.Pairwise.nil
theorem zbH.snoc {vs : List Value} {u : Value} (h : zbH vs) (hu : ∀ v ∈ vs, v.ownBlock = none ∨ v.ownBlock ≠ u.ownBlock) : zbH (vs ++ [u]) :=
 List.pairwise_append.2 ⟨h, List.pairwise_singleton _ _, fun a ha b hb => by rw [List.mem_singleton] at hb; subst hb; exact hu a ha⟩
theorem zin {w w' : World} {b1 b2 e1 e2 s1 s2 n1 n2 : Nat} {v1 v2 : Value} {xs ys : List Value} (h1 : w.ownsRow b1 e1 s1 v1 n1 xs) (h2 : w'.ownsRow b2 e2 s2 v2 n2 ys) (hb : w.heap.size ≤ b2) : v1.ownBlock = none ∨ v1.ownBlock ≠ v2.ownBlock := by
 cases hv : v1.ownBlock with
 | none => exact Or.inl rfl
 | some k =>
  refine Or.inr (fun e => ?_)
  have l1 := (h1.lt k hv).2
  have l2 := (h2.lt k e.symm).1
  omega
theorem set3R {X : World} {R : Nat} {a0 a1 a2 : Value} (u0 u1 u2 : Value) (r0 : X.cell? ⟨R, 0, none⟩ = some a0) (r1 : X.cell? ⟨R, 1, none⟩ = some a1) (r2 : X.cell? ⟨R, 2, none⟩ = some a2) :
 ∃ Y, ((X.setCell ⟨R, 0, none⟩ u0).setCell ⟨R, 1, none⟩ u1).setCell ⟨R, 2, none⟩ u2 = Y ∧ Y.cell? ⟨R, 0, none⟩ = some u0 ∧ Y.cell? ⟨R, 1, none⟩ = some u1 ∧ Y.cell? ⟨R, 2, none⟩ = some u2 ∧ X.grownBy Y (some R) := by
 refine ⟨_, rfl, ?_, ?_, ?_, ?_⟩
 ·
  exact (World.cell?_setCell_other _ _ _ _ (by simp)).trans ((World.cell?_setCell_other _ _ _ _ (by simp)).trans (World.cell?_setCell_same _ _ _ r0))
 ·
  exact (World.cell?_setCell_other _ _ _ _ (by simp)).trans (World.cell?_setCell_same _ _ _ ((World.cell?_setCell_other _ _ _ _ (by simp)).trans r1))
 ·
  exact World.cell?_setCell_same _ _ _ ((World.cell?_setCell_other _ _ _ _ (by simp)).trans ((World.cell?_setCell_other _ _ _ _ (by simp)).trans r2))
 ·
  exact ((zaB _ _ _ _).trans (zaB _ _ _ _)).trans (zaB _ _ _ _)
theorem zcG {X W : World} {R : Nat} {u0 u1 u2 : Value} {T : TypeId} (hX : Below W.heap.size W X) (hlt : R < W.heap.size) (hR : W.heap[R]? = some (.cells #[u0, u1, u2] T)) :
 X.cell? ⟨R, 0, none⟩ = some u0 ∧ X.cell? ⟨R, 1, none⟩ = some u1 ∧ X.cell? ⟨R, 2, none⟩ = some u2 ∧ ∀ j, X.frozen? ⟨R, j, none⟩ = false := by
 have e := (hX.block R hlt).trans hR
 clear hX hR
 exact ⟨by simp [World.cell?, e], by simp [World.cell?, e], by simp [World.cell?, e], fun j => by simp [World.frozen?, e]⟩
theorem zft {w : World} {base e size n R : Nat} {v : Value} {xs : List Value} (h : w.ownsRow base e size v n xs) (hR : R < base) : v.ownBlock = none ∨ v.ownBlock ≠ some R := by
 rcases hv : v.ownBlock with _ | k
 ·
  exact Or.inl rfl
 ·
  refine Or.inr (fun e => ?_)
  have := (h.lt k hv).1
  injection e with e
  omega
theorem zb5 {w : World} {b1 b2 e1 e2 s1 s2 n1 n2 : Nat} {v1 v2 : Value} {xs ys : List Value} (h1 : w.ownsRow b1 e1 s1 v1 n1 xs) (h2 : w.ownsRow b2 e2 s2 v2 n2 ys) (he : e1 ≠ e2) : v1.ownBlock = none ∨ v1.ownBlock ≠ v2.ownBlock := by
 rcases h1.2 with ⟨rfl, _⟩ | ⟨g, c, cur, rfl, _, hg, _⟩
 ·
  exact Or.inl rfl
 ·
  rcases h2.2 with ⟨rfl, _⟩ | ⟨g2, c2, cur2, rfl, _, hg2, _⟩
  ·
   exact Or.inr (by simp [Value.ownBlock])
  ·
   refine Or.inr (fun e => ?_)
   simp only [Value.ownBlock, Option.some.injEq] at e
   subst e
   rw [hg] at hg2
   simp only [Option.some.injEq, Obj.cells.injEq] at hg2
   exact he hg2.2.1
theorem ziM (b off i : Nat) : (⟨b, off, none⟩ : Addr).add i = ⟨b, off + i, none⟩ := by unfold Addr.add; split <;> simp_all
end Go.Proofs.YtenaaneckobdpaaGreat
