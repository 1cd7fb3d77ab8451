/-
  Parts of one proof, one behind the other: ProjS3, ProjS4, ProjS5.
-/
import Derived.Test.YtaioedcaopbgkaaP8

/-! The contracts of chapter 8's specification: l8Order. -/
namespace Go.Proofs.Ytaioedcaopbgkaa
open Go.RowKit

def lenOf (v : Value) : Nat := match v with | .slice _ n _ => n | _ => 0
theorem next8_at {ps : List Pk} {out : List (List UInt8)} {i : Nat} (hi : i < ps.length) (h : ∀ j, j < i → ¬ free8 ps out (ps.getD j pk0)) (hf : free8 ps out (ps.getD i pk0)) : next8 ps out = some (ps.getD i pk0) := by
 have e : ∀ j (hj : j < ps.length), ps.getD j pk0 = ps[j] := fun j hj => by simp [List.getD, hj]
 unfold next8
 rw [List.find?_eq_some_iff_getElem]
 refine ⟨decide_eq_true hf, i, hi, (e i hi).symm, fun j hj => ?_⟩
 have := h j hj
 rw [e j (by omega)] at this
 simpa using this
theorem next8_all {ps : List Pk} {out : List (List UInt8)} (h : ∀ j, j < ps.length → ¬ free8 ps out (ps.getD j pk0)) : next8 ps out = none := by
 unfold next8
 rw [List.find?_eq_none]
 intro p hp
 obtain ⟨j, hj, rfl⟩ := List.mem_iff_getElem.1 hp
 have := h j hj
 rw [show ps.getD j pk0 = ps[j] by simp [List.getD, hj]] at this
 simpa using this
/-- Free, as far as its imports were asked. -/
def freeTo (ps : List Pk) (out ims : List (List UInt8)) (k : Nat) : Bool := decide (∀ m ∈ ims.take k, m ∈ names8 ps → m ∈ out)
theorem freeTo_step {ps : List Pk} {out ims : List (List UInt8)} {k : Nat} (hk : k < ims.length) : freeTo ps out ims (k + 1) = (freeTo ps out ims k && (decide (at8 ps (ims.getD k []) < 0) || decide (ims.getD k [] ∈ out))) := by
 unfold freeTo
 have e : ims.getD k [] = ims[k] := by simp [List.getD, hk]
 rw [List.take_succ_eq_append_getElem hk, e, Bool.eq_iff_iff]
 simp only [decide_eq_true_eq, Bool.and_eq_true, Bool.or_eq_true, List.mem_append, List.mem_singleton]
 have hat := at8_mem ps ims[k]
 constructor
 ·
  intro h
  refine ⟨fun m hm hn => h m (Or.inl hm) hn, ?_⟩
  by_cases h0 : at8 ps ims[k] < 0
  ·
   exact Or.inl h0
  ·
   exact Or.inr (h _ (Or.inr rfl) (hat.1 (by omega)))
 ·
  rintro ⟨h1, h2⟩ m (hm | rfl) hn
  ·
   exact h1 m hm hn
  ·
   rcases h2 with h2 | h2
   ·
    have := hat.2 hn; omega
   ·
    exact h2
/-- What the inner walk of l8Order knows: none so far, or the next one. -/
structure Nx8 (ps : List Pk) (out : List (List UInt8)) (i : Nat) (nx : List UInt8) : Prop where
 no : nx = [] → ∀ j, j < i → ¬ free8 ps out (ps.getD j pk0)
 yes : nx ≠ [] → ∃ p, next8 ps out = some p ∧ nx = p.1
theorem new_str8 (w : World) (x : List UInt8) (c : Nat) : Src (w.alloc (.cells #[.string ⟨x.toArray⟩] 9)) (.slice (some ⟨w.heap.size, 0, none⟩) 1 c) 1 1 (strV [x]) := by
 refine ⟨rfl, fun u hu => ?_, Or.inr ⟨_, c, rfl, fun j u hu => ?_⟩⟩
 ·
  simp [strV] at hu; subst hu; rfl
 ·
  exact cell_one_new w _ 9 j u hu
theorem push_text {X : World} {B : Nat} {v : Value} {n : Nat} {ls : List (List UInt8)} (x : List UInt8) (hv : X.ownsRow B 9 1 v n (strV ls)) (hb : B ≤ X.heap.size) (hn : n ≤ 1048576) :
 ∃ v' Y, (Builtin.append_ #[59, 59] 59 #[v, .slice (some ⟨X.heap.size, 0, none⟩) 1 1]).run Try.prog (X.alloc (.cells #[.string ⟨x.toArray⟩] 9)) = .ok v' Y ∧ Y.ownsRow B 9 1 v' (n + 1) (strV (ls ++ [x])) ∧ X.grownBy Y v.ownBlock := by
 obtain ⟨i0, hi, hz0, hz1, hz2⟩ := info_parts info9
 obtain ⟨v', Y, hrun, hown, hg, _⟩ := run_append_src (P := Try.prog) (X.alloc (.cells #[.string ⟨x.toArray⟩] 9)) B 59 59 9 i0 _ 1 16 Try.underlying59 hi hz0 hz1 hz2 rfl (by decide) _ _ _ (hv.alloc _) _ 1 (strV [x]) (new_str8 X x 1) (by unfold maxLen; omega) (by omega) (by simp; omega)
 exact ⟨v', Y, hrun, by rw [← strV_snoc]; exact hown, (World.grownBy_alloc X _ _).trans hg⟩

set_option maxHeartbeats 4000000 in
set_option maxRecDepth 100000 in
theorem specOrder8 (a : Option Addr) (len cap : Nat) (ps : List Pk) (w : World) (hin : PkgsIn w a len ps) (hp : projB ps = true) :
 Calls Try.prog 84 #[.slice a len cap] w fun e w' => ∃ v, e = .returned v ∧ w'.ownsRow w.heap.size 9 1 v (order8 ps).length (strV (order8 ps)) ∧ Below w.heap.size w w' := by
 obtain rfl : ps.length = len := hin.1
 obtain ⟨hrise, hlen8, hpk⟩ := projB_parts hp
 have HND : Hid ((names8 ps).Nodup) := hrise.nodup
 have HPK : Hid (∀ p ∈ ps, pkgB p = true) := hpk
 have hl8 : (ps.length : Int) ≤ 8 := by omega
 have HI : Hid (PkgsIn w a ps.length ps) := hin
 have hown0 := (World.ownsRow_lit (base := w.heap.size) (e := 9) (size := 1) w #[] 0 (Nat.le_refl _) (by decide) rfl)
 have hbA : Below w.heap.size w (w.alloc (.cells #[] 9)) := (Below.refl _ _).alloc (Nat.le_refl _) _
 have HO0 : Hid ((w.alloc (.cells #[] 9)).ownsRow w.heap.size 9 1 (.slice (some ⟨w.heap.size, 0, none⟩) 0 0) 0 (strV [])) := hown0
 have HB0 : Hid (Below w.heap.size w (w.alloc (.cells #[] 9))) := hbA
 have HR0 : Hid (order8 ps = orderGo ps (ps.length + 1) []) := rfl
 have HE : Hid (Or8 ps []) := or8_nil ps
 generalize order8 ps = R at HR0 ⊢
 clear hin hp hrise hpk hown0 hbA
 go_enter Try.func84, Try.ntmps84
 go_wp2
 go_loopw [3] (fun v wr => ∃ (oa : Option Addr) (oc : Nat) (out : List (List UInt8)) (n : Nat), v = .slice oa out.length oc ∧ ps.length < n + out.length ∧ Hid (wr.ownsRow w.heap.size 9 1 (.slice oa out.length oc) out.length (strV out)) ∧ Hid (Below w.heap.size w wr) ∧ Hid (Or8 ps out) ∧ Hid (R = orderGo ps n out)) (fun v _ => ps.length + 1 - lenOf v)
 case atStart => exact ⟨some ⟨w.heap.size, 0, none⟩, 0, [], ps.length + 1, rfl, by simp, HO0, HB0, HE, HR0⟩
 case round =>
  obtain ⟨oa, oc, out, n, rfl, hn, HO, HB, HOr, HRn⟩ := hrel
  clear HO0 HB0 HE HR0
  obtain ⟨W2, rfl⟩ : ∃ W2, W2 = wr := ⟨_, rfl⟩
  have hol := HOr.out.len
  have HP : Hid (PkgsIn W2 a ps.length ps) := HI.out.below HB.out
  have HT : Hid (TextsIn W2 oa out.length out) := by
   obtain ⟨_, a', c', e, h⟩ := own_texts HO.out
   injection e with e1 _ _
   subst e1
   exact h
  go_wp2
  go_loopw [4, 5] (fun nv iv wx => ∃ (i : Nat) (nx : List UInt8), nv = .string ⟨nx.toArray⟩ ∧ iv = .int .i64 (i : Int) ∧ i ≤ ps.length ∧ Hid (Nx8 ps out i nx) ∧ W2 = wx) (fun _ iv _ => ps.length - (intOf iv).toNat)
  case atStart => exact ⟨0, [], rfl, rfl, by omega, (⟨fun _ j hj => by omega, fun h => absurd rfl h⟩ : Nx8 ps out 0 []), rfl⟩
  case round =>
   obtain ⟨i, nx, rfl, rfl, hi, HN, rfl⟩ := hrel
   by_cases hnx : nx = []
   ·
    subst hnx
    have he : (([] : List UInt8) == []) = true := by decide
    by_cases hlt : (i : Int) < (ps.length : Int)
    ·
     have hi2 : i < ps.length := by omega
     obtain ⟨b, off, rfl, hbl, c0, ia, il, ic, fa, fl, fc, c1, c2, hii, _⟩ := HP.out.2 i hi2
     have hpi : pkgB (ps.getD i pk0) = true := HPK.out _ (by simp [List.getD, hi2])
     have hfree : free8 ps out (ps.getD i pk0) ↔ (¬ (ps.getD i pk0).1 ∈ out ∧ ∀ m ∈ (ps.getD i pk0).2.1, m ∈ names8 ps → m ∈ out) := Iff.rfl
     have hnat := next8_at (out := out) hi2 (HN.out.no rfl)
     obtain ⟨p, hp⟩ : ∃ p, ps.getD i pk0 = p := ⟨_, rfl⟩
     have HPI : Hid (ps.getD i pk0 = p) := hp
     rw [hp] at c0 hii hpi hfree hnat
     have HNA : Hid (free8 ps out p → next8 ps out = some p) := hnat
     clear hp hnat
     obtain ⟨x, ims, fs⟩ := p
     simp only at c0 hii hfree
     obtain ⟨h1, h2, h3, _, _⟩ := pkgB_parts hpi
     simp only at h1 h2 h3
     have hx1 := (name_letters h1).1.1
     obtain rfl : ims.length = il := hii.1
     have HFR : Hid (free8 ps out (x, ims, fs) ↔ (¬ x ∈ out ∧ ∀ m ∈ ims, m ∈ names8 ps → m ∈ out)) := hfree
     have HII : Hid (TextsIn W2 ia ims.length ims) := hii
     clear hpi h1 h2 hii hfree
     have HH : Hid (_) := specHas oa out.length oc out x W2 HT.out (by omega)
     by_cases hxo : x ∈ out
     ·
      rw [decide_eq_true hxo] at HH
      have HN2 : Hid (Nx8 ps out (i + 1) []) := ⟨fun _ j hj => by
       rcases Nat.lt_or_ge j i with h | h
       ·
        exact HN.out.no rfl j h
       ·
        obtain rfl : j = i := by omega
        rw [HPI.out]
        exact fun h => (HFR.out.1 h).1 hxo, fun h => absurd rfl h⟩
      go_wp2_with (go_at_call 61; refine Calls.mono HH.out ?_; rintro e w1 ⟨rfl, hw1⟩; obtain rfl := hw1.symm)
      go_roundw
      case rel => exact ⟨i + 1, [], rfl, by go_num, by omega, HN2, trivial⟩
      case measure => simp [intOf]; omega
     ·
      rw [decide_eq_false hxo] at HH
      have HXO : Hid (¬ x ∈ out) := hxo
      clear hxo
      go_wp2_with (go_at_call 61; refine Calls.mono HH.out ?_; rintro e w1 ⟨rfl, hw1⟩; obtain rfl := hw1.symm)
      go_loopw [6, 7] (fun fv kv wy => ∃ (k : Nat) (fr : Bool), fv = .bool fr ∧ kv = .int .i64 (k : Int) ∧ k ≤ ims.length ∧ Hid (freeTo ps out ims k = fr) ∧ W2 = wy) (fun _ kv _ => ims.length - (intOf kv).toNat)
      case atStart => exact ⟨0, true, rfl, rfl, by omega, (by simp [freeTo] : freeTo ps out ims 0 = true), rfl⟩
      case round =>
       obtain ⟨k, fr, rfl, rfl, hk, HF, rfl⟩ := hrel
       by_cases hkl : (k : Int) < (ims.length : Int)
       ·
        have hk2 : k < ims.length := by omega
        obtain ⟨b', off', rfl, hbl', d0⟩ := HII.out.2 k hk2
        have hst := freeTo_step (ps := ps) (out := out) hk2
        obtain ⟨m, hm⟩ : ∃ m, ims.getD k [] = m := ⟨_, rfl⟩
        rw [hm, HF.out] at hst
        rw [hm] at d0
        have HA : Hid (_) := specAt8 (some ⟨b, off, none⟩) ps.length cap ps m W2 HP.out (by omega)
        have HM : Hid (_) := specHas oa out.length oc out m W2 HT.out (by omega)
        obtain ⟨z, hz⟩ : ∃ z, at8 ps m = z := ⟨_, rfl⟩
        obtain ⟨q, hq⟩ : ∃ q, decide (m ∈ out) = q := ⟨_, rfl⟩
        rw [hz] at HA hst
        rw [hq] at HM hst
        clear hz hq hm
        rcases fr with _ | _
        ·
         have HF2 : Hid (freeTo ps out ims (k + 1) = false) := by exact (by rw [hst]; rfl : freeTo ps out ims (k + 1) = false)
         clear hst HA HM
         go_wp2
         go_roundw
         case rel => exact ⟨k + 1, false, rfl, by go_num, by omega, HF2, trivial⟩
         case measure => simp [intOf]; omega
        ·
         by_cases hz0 : z < 0
         ·
          have HF2 : Hid (freeTo ps out ims (k + 1) = true) := by exact (by rw [hst, decide_eq_true hz0]; rfl : freeTo ps out ims (k + 1) = true)
          clear hst HM
          go_wp2_with (go_at_call 60; refine Calls.mono HA.out ?_; rintro e w1 ⟨rfl, hw1⟩; obtain rfl := hw1.symm)
          go_roundw
          case rel => exact ⟨k + 1, true, rfl, by go_num, by omega, HF2, trivial⟩
          case measure => simp [intOf]; omega
         ·
          have HF2 : Hid (freeTo ps out ims (k + 1) = q) := by exact (by rw [hst, decide_eq_false hz0]; cases q <;> rfl : freeTo ps out ims (k + 1) = q)
          clear hst
          go_wp2_with (first | (go_at_call 60; refine Calls.mono HA.out ?_; rintro e w1 ⟨rfl, hw1⟩; obtain rfl := hw1.symm) | (go_at_call 61; refine Calls.mono HM.out ?_; rintro e w1 ⟨rfl, hw1⟩; obtain rfl := hw1.symm))
          go_roundw
          case rel => exact ⟨k + 1, q, by rw [decide_eq_false (by omega)]; cases q <;> rfl, by go_num, by omega, HF2, trivial⟩
          case measure => simp [intOf]; omega
       ·
        obtain rfl : k = ims.length := by omega
        have hF := HF.out
        unfold freeTo at hF
        rw [List.take_of_length_le (Nat.le_refl _)] at hF
        rcases fr with _ | _
        ·
         have HN2 : Hid (Nx8 ps out (i + 1) []) := ⟨fun _ j hj => by
          rcases Nat.lt_or_ge j i with h | h
          ·
           exact HN.out.no rfl j h
          ·
           obtain rfl : j = i := by omega
           rw [HPI.out]
           exact fun h => (of_decide_eq_false hF) (HFR.out.1 h).2, fun h => absurd rfl h⟩
         clear hF HF
         go_wp2
         go_roundw
         case rel => exact ⟨i + 1, [], rfl, by go_num, by omega, HN2, trivial⟩
         case measure => simp [intOf]; omega
        ·
         have hne : x ≠ [] := fun e => by rw [e] at hx1; simp at hx1
         have HN2 : Hid (Nx8 ps out (i + 1) x) := ⟨fun h => absurd h hne, fun _ => ⟨_, HNA.out (HFR.out.2 ⟨HXO.out, of_decide_eq_true hF⟩), rfl⟩⟩
         clear hF HF hne
         go_wp2
         go_roundw
         case rel => exact ⟨i + 1, x, rfl, by go_num, by omega, HN2, trivial⟩
         case measure => simp [intOf]; omega
    ·
     have hnone : next8 ps out = none := next8_all (fun j hj => HN.out.no rfl j (by omega))
     have HRR : Hid (R = out) := by exact (by rw [HRn.out]; exact orderGo_none n hnone : R = out)
     clear hnone
     go_wp2
     go_ret
     exact ⟨_, rfl, by rw [HRR.out]; exact HO.out, HB.out⟩
   ·
    have he : (nx == []) = false := beq_eq_false_iff_ne.2 hnx
    have he2 : nx.isEmpty = false := by rw [List.isEmpty_eq_false_iff]; exact hnx
    obtain ⟨p, hp, hpn⟩ := HN.out.yes hnx
    obtain ⟨n', rfl⟩ : ∃ n', n = n' + 1 := ⟨n - 1, by omega⟩
    have HR2 : Hid (R = orderGo ps n' (out ++ [nx])) := by exact (by rw [HRn.out, orderGo_some n' hp, hpn] : R = orderGo ps n' (out ++ [nx]))
    have HOr2 : Hid (Or8 ps (out ++ [nx])) := by exact (by rw [hpn]; exact HOr.out.step HND.out hp : Or8 ps (out ++ [nx]))
    obtain ⟨v', Y, hrun, hv', hg⟩ := push_text nx HO.out HB.out.size (by omega)
    obtain ⟨a', c', rfl⟩ : ∃ a c, v' = .slice a (out.length + 1) c := by
     rcases own_forms hv' with ⟨_, h0, _⟩ | ⟨g, cp, rfl⟩
     ·
      omega
     ·
      exact ⟨_, cp, rfl⟩
    have e1 : (out ++ [nx]).length = out.length + 1 := by simp
    have HO2 : Hid (Y.ownsRow w.heap.size 9 1 (.slice a' (out ++ [nx]).length c') (out ++ [nx]).length (strV (out ++ [nx]))) := by exact (by rw [e1]; exact hv' : Y.ownsRow w.heap.size 9 1 (.slice a' (out ++ [nx]).length c') (out ++ [nx]).length (strV (out ++ [nx])))
    have HB2 : Hid (Below w.heap.size w Y) := HB.out.grown hg HB.out.size (fun k e => (HO.out.lt k e).1)
    have hol2 := HOr2.out.len
    rw [e1] at hol2
    have HE1 : Hid ((out ++ [nx]).length = out.length + 1) := e1
    clear hp hpn hv' hg e1 HN
    have hil : i ≤ ps.length := hi
    go_wp2_with (at_builtin; refine wpList_append_run rfl (.tmp 66) (.tmp 68) 59 rfl _ _ _ rfl rfl hrun ?_; clear hrun)
    all_goals
     go_roundw
     case rel => exact ⟨a', c', out ++ [nx], n', by rw [HE1.out], by rw [HE1.out]; omega, HO2, HB2, HOr2, HR2⟩
     case measure => simp only [lenOf]; omega

end Go.Proofs.Ytaioedcaopbgkaa

/-! The contracts of chapter 8's specification: l1Put. -/
namespace Go.Proofs.Ytaioedcaopbgkaa
open Go.RowKit

/-- A row of texts behind a row of texts. -/
theorem app8 {X : World} {B : Nat} {v x : Value} {n m : Nat} {ls ms : List (List UInt8)} (hv : X.ownsRow B 9 1 v n (strV ls)) (hb : B ≤ X.heap.size) (hs : Src X x m 1 (strV ms)) (hn : n + m ≤ 4194304) :
 ∃ v' Y, (Builtin.append_ #[59, 59] 59 #[v, x]).run Try.prog X = .ok v' Y ∧ Y.ownsRow B 9 1 v' (n + m) (strV (ls ++ ms)) ∧ X.grownBy Y v.ownBlock := by
 obtain ⟨i0, hi, hz0, hz1, hz2⟩ := info_parts info9
 obtain ⟨v', Y, hrun, hown, hg, _⟩ := run_append_src (P := Try.prog) X B 59 59 9 i0 _ 1 16 Try.underlying59 hi hz0 hz1 hz2 rfl (by decide) _ _ _ hv x m (strV ms) hs (by unfold maxLen; omega) (by omega) hb
 have e : strV (ls ++ ms) = strV ls ++ strV ms := by simp [strV]
 exact ⟨v', Y, hrun, by rw [e]; exact hown, hg⟩
theorem TextsIn.src8 {w : World} {a : Option Addr} {len cap : Nat} {ts : List (List UInt8)} (h : TextsIn w a len ts) (hc : a = none → cap = 0) : Src w (.slice a len cap) len 1 (strV ts) := by
 have hl : (strV ts).length = len := by simp [strV, h.1]
 refine ⟨by omega, fun u hu => ?_, ?_⟩
 ·
  simp only [strV, List.mem_map] at hu
  obtain ⟨l, _, rfl⟩ := hu
  rfl
 ·
  rcases Nat.eq_zero_or_pos len with h0 | h0
  ·
   cases a with
   | none => left; rw [hc rfl, h0]; exact ⟨rfl, rfl⟩
   | some ad => right; exact ⟨ad, cap, rfl, fun j u hu => by rw [List.getElem?_eq_none (by omega)] at hu; cases hu⟩
  ·
   obtain ⟨b, off, rfl, _, hcell⟩ := h.at h0
   right
   refine ⟨_, cap, rfl, fun j u hu => ?_⟩
   have hj : j < len := by have := (List.getElem?_eq_some_iff.1 hu).1; omega
   have e : (⟨b, off, none⟩ : Addr).add j = ⟨b, off + j, none⟩ := by unfold Addr.add; split <;> simp_all
   rw [e, hcell j hj]
   have h2 : (strV ts)[j]? = some (.string ⟨(ts.getD j []).toArray⟩) := by simp [strV, List.getD, List.getElem?_eq_getElem (show j < ts.length by rw [h.1]; exact hj)]
   rw [← h2]; exact hu
/-- Parts of a row of texts that a call owns, as 'append' reads them. -/
theorem src_take {w : World} {B g cap : Nat} {ts : List (List UInt8)} (h : w.ownsRow B 9 1 (.slice (some ⟨g, 0, none⟩) ts.length cap) ts.length (strV ts)) {k : Nat} (hk : k ≤ ts.length) : Src w (.slice (some ⟨g, 0, none⟩) k cap) k 1 (strV (ts.take k)) := by
 refine ⟨by simp [strV]; omega, fun u hu => ?_, Or.inr ⟨_, cap, rfl, fun j u hu => ?_⟩⟩
 ·
  simp only [strV, List.mem_map] at hu
  obtain ⟨l, _, rfl⟩ := hu
  rfl
 ·
  have hj : j < k := by
   have := (List.getElem?_eq_some_iff.1 hu).1
   simp [strV] at this
   omega
  have e : (⟨g, 0, none⟩ : Addr).add j = ⟨g, j, none⟩ := by unfold Addr.add; split <;> simp_all
  rw [e, World.ownsRow.cellAt h j (by omega)]
  rw [← strV_take, List.getElem?_take, if_pos hj] at hu
  exact hu
theorem src_drop {w : World} {B g cap : Nat} {ts : List (List UInt8)} (h : w.ownsRow B 9 1 (.slice (some ⟨g, 0, none⟩) ts.length cap) ts.length (strV ts)) {k : Nat} (hk : k ≤ ts.length) : Src w (.slice (if cap = k then some ⟨g, 0, none⟩ else some ⟨g, k, none⟩) (ts.length - k) (cap - k)) (ts.length - k) 1 (strV (ts.drop k)) := by
 have hcap := own_cap h
 have hone : ∀ u ∈ strV (ts.drop k), u.oneCell' = true := fun u hu => by
  simp only [strV, List.mem_map] at hu
  obtain ⟨l, _, rfl⟩ := hu
  rfl
 by_cases hc : cap = k
 ·
  rw [if_pos hc]
  have hd : ts.drop k = [] := List.drop_eq_nil_of_le (by omega)
  rw [hd]
  exact ⟨by simp [strV]; omega, fun u hu => by simp [strV] at hu, Or.inr ⟨_, _, rfl, fun j u hu => by simp [strV] at hu⟩⟩
 ·
  rw [if_neg hc]
  refine ⟨by simp [strV], hone, Or.inr ⟨_, cap - k, rfl, fun j u hu => ?_⟩⟩
  have hj : j < ts.length - k := by
   have := (List.getElem?_eq_some_iff.1 hu).1
   simpa [strV] using this
  have e : (⟨g, k, none⟩ : Addr).add j = ⟨g, k + j, none⟩ := by unfold Addr.add; split <;> simp_all
  rw [e, World.ownsRow.cellAt h (k + j) (by omega)]
  have e2 : (strV (ts.drop k))[j]? = (strV ts)[k + j]? := by simp [strV, List.getElem?_drop]
  rw [← e2]
  exact hu

set_option maxHeartbeats 1000000 in
set_option maxRecDepth 100000 in
theorem specPut (B g cap : Nat) (ts : List (List UInt8)) (s : List UInt8) (w : World) (h : w.ownsRow B 9 1 (.slice (some ⟨g, 0, none⟩) ts.length cap) ts.length (strV ts)) (hB : B ≤ w.heap.size) (hlen : ts.length ≤ 1048576) :
 Calls Try.prog 93 #[.slice (some ⟨g, 0, none⟩) ts.length cap, .string ⟨s.toArray⟩] w fun e w' => ∃ g' c', e = .returned (.slice (some ⟨g', 0, none⟩) (put8 ts s).length c') ∧ w'.ownsRow B 9 1 (.slice (some ⟨g', 0, none⟩) (put8 ts s).length c') (put8 ts s).length (strV (put8 ts s)) ∧ Below w.heap.size w w' := by
 have hcap := own_cap h
 have HO : Hid (w.ownsRow B 9 1 (.slice (some ⟨g, 0, none⟩) ts.length cap) ts.length (strV ts)) := h
 have hc1 : (ts.length : Int) ≤ (cap : Int) := by omega
 go_enter Try.func93, Try.ntmps93
 go_wp2
 go_loopw [5] (fun iv wr => ∃ k : Nat, iv = .int .i64 (k : Int) ∧ k ≤ ts.length ∧ Hid (∀ i, i < k → Op.bytesLess (ts.getD i []) s = true) ∧ w = wr) (fun iv _ => ts.length - (intOf iv).toNat)
 case atStart => exact ⟨0, rfl, by omega, (fun i hi => by omega), rfl⟩
 case round =>
  obtain ⟨k, rfl, hk, HA, rfl⟩ := hrel
  -- the way on where the text is not there
  have HW : Hid (low8 s ts = k → ts[k]? ≠ some s → ∃ v1 Y1 v2 Y2 v3 Y3 g' c' Y4, (Builtin.append_ #[59, 59] 59 #[.slice (some ⟨w.heap.size, 0, none⟩) 0 0, .slice (if cap = k then some ⟨g, 0, none⟩ else some ⟨g, k, none⟩) (ts.length - k) (cap - k)]).run Try.prog (w.alloc (.cells #[] 9)) = .ok v1 Y1 ∧
   (Builtin.append_ #[59, 59] 59 #[.slice (some ⟨Y1.heap.size, 0, none⟩) 0 0, .slice (some ⟨g, 0, none⟩) k cap]).run Try.prog (Y1.alloc (.cells #[] 9)) = .ok v2 Y2 ∧
   (Builtin.append_ #[59, 59] 59 #[v2, .slice (some ⟨Y2.heap.size, 0, none⟩) 1 1]).run Try.prog (Y2.alloc (.cells #[.string ⟨s.toArray⟩] 9)) = .ok v3 Y3 ∧
   (Builtin.append_ #[59, 59] 59 #[v3, v1]).run Try.prog Y3 = .ok (.slice (some ⟨g', 0, none⟩) (put8 ts s).length c') Y4 ∧ Y4.ownsRow B 9 1 (.slice (some ⟨g', 0, none⟩) (put8 ts s).length c') (put8 ts s).length (strV (put8 ts s)) ∧ Below w.heap.size w Y4) := fun hlow hno => by
   have hput : put8 ts s = ts.take k ++ s :: ts.drop k := by unfold put8; rw [hlow, if_neg hno]
   have hb1 : Below w.heap.size w (w.alloc (.cells #[] 9)) := (Below.refl _ _).alloc (Nat.le_refl _) _
   have ho1 := (World.ownsRow_lit (base := w.heap.size) (e := 9) (size := 1) w #[] 0 (Nat.le_refl _) (by decide) rfl)
   obtain ⟨v1, Y1, hr1, hv1, hg1⟩ := app8 (ls := []) ho1 hb1.size (src_drop (own_below HO.out hb1) hk) (by omega)
   have hbY1 : Below w.heap.size w Y1 := hb1.grown hg1 hb1.size (fun q e => by simp [Value.ownBlock] at e; omega)
   have hb2 : Below Y1.heap.size Y1 (Y1.alloc (.cells #[] 9)) := (Below.refl _ _).alloc (Nat.le_refl _) _
   have ho2 := (World.ownsRow_lit (base := Y1.heap.size) (e := 9) (size := 1) Y1 #[] 0 (Nat.le_refl _) (by decide) rfl)
   obtain ⟨v2, Y2, hr2, hv2, hg2⟩ := app8 (ls := []) ho2 hb2.size (src_take (own_below (own_below HO.out hbY1) hb2) hk) (by omega)
   have hbY2 : Below Y1.heap.size Y1 Y2 := hb2.grown hg2 hb2.size (fun q e => by simp [Value.ownBlock] at e; omega)
   obtain ⟨v3, Y3, hr3, hv3, hg3⟩ := push_text s hv2 hbY2.size (by simp; omega)
   have hbY3 : Below Y1.heap.size Y1 Y3 := hbY2.grown hg3 hbY2.size (fun q e => (hv2.lt q e).1)
   have hv1Y3 := own_below hv1 hbY3
   obtain ⟨_, a1, c1, rfl, hin1⟩ := own_texts hv1
   have hsrc1 : Src Y3 (.slice a1 (0 + (ts.length - k)) c1) (0 + (ts.length - k)) 1 (strV ([] ++ ts.drop k)) := by
    obtain ⟨_, a2, c2, e2, hin2⟩ := own_texts hv1Y3
    injection e2 with e2a _ e2c
    subst e2a e2c
    refine hin2.src8 (fun e => ?_)
    rcases own_forms hv1Y3 with ⟨e3, _, _⟩ | ⟨g3, cp3, e3⟩
    ·
     injection e3
    ·
     injection e3 with e3; rw [e] at e3; cases e3
   obtain ⟨v4, Y4, hr4, hv4, hg4⟩ := app8 hv3 hbY3.size hsrc1 (by omega)
   have e4 : [] ++ ts.take k ++ [s] ++ ([] ++ ts.drop k) = put8 ts s := by rw [hput]; simp
   have e5 : 0 + k + 1 + (0 + (ts.length - k)) = (put8 ts s).length := by rw [hput]; simp; omega
   rw [e4, e5] at hv4
   obtain ⟨g', c', rfl⟩ := own_some hv4 (by rw [← e5]; omega)
   exact ⟨_, Y1, v2, Y2, v3, Y3, g', c', Y4, hr1, hr2, hr3, hr4, own_base hv4 (Nat.le_trans hB hbY1.size), hbY1.trans ((hbY3.grown hg4 hbY3.size (fun q e => (hv3.lt q e).1)).mono hbY1.size)⟩
  by_cases hkl : (k : Int) < (ts.length : Int)
  ·
   have hk2 : k < ts.length := by omega
   have c0 := str_cellsD HO.out rfl k hk2
   have hat : ts[k]? = some (ts.getD k []) := by simp [List.getD, hk2]
   have hlow := low8_at s ts k HA.out hk
   obtain ⟨x, hx⟩ : ∃ x, ts.getD k [] = x := ⟨_, rfl⟩
   rw [hx] at c0 hat hlow
   rcases hb : Op.bytesLess x s with _ | _
   ·
    have hl := hlow (Or.inr hb)
    by_cases hxs : x = s
    ·
     subst hxs
     have HPt : Hid (put8 ts x = ts) := by exact (by unfold put8; rw [hl, if_pos hat] : put8 ts x = ts)
     have hself : (x == x) = true := by simp
     clear HW HA hat hlow hx hl
     go_wp2
     go_ret
     exact ⟨g, cap, by rw [HPt.out]; rfl, by rw [HPt.out]; exact HO.out, Below.refl _ _⟩
    ·
     obtain ⟨v1, Y1, v2, Y2, v3, Y3, g', c', Y4, hr1, hr2, hr3, hr4, hv4, hbY4⟩ := HW.out hl (by rw [hat]; intro e; injection e with e; exact hxs e)
     have hne : (x == s) = false := by rw [beq_eq_false_iff_ne]; exact hxs
     have HV4 : Hid (Y4.ownsRow B 9 1 (.slice (some ⟨g', 0, none⟩) (put8 ts s).length c') (put8 ts s).length (strV (put8 ts s))) := hv4
     rw [if_neg (show ¬ cap = k by omega)] at hr1
     clear HW HA hat hlow hx hl hv4 h
     have hkc : (k : Int) ≤ (cap : Int) := by omega
     go_wp2_with (at_builtin; first | (refine wpList_append_run rfl (.tmp 34) (.tmp 37) 59 rfl _ _ _ rfl rfl hr1 ?_; clear hr1) | (refine wpList_append_run rfl (.tmp 39) (.tmp 42) 59 rfl _ _ _ rfl rfl hr2 ?_; clear hr2) | (refine wpList_append_run rfl (.tmp 43) (.tmp 45) 59 rfl _ _ _ rfl rfl hr3 ?_; clear hr3) | (refine wpList_append_run rfl (.tmp 46) (.tmp 47) 59 rfl _ _ _ rfl rfl hr4 ?_; clear hr4))
     go_ret
     exact ⟨g', c', rfl, HV4.out, hbY4⟩
   ·
    have HA2 : Hid (∀ i, i < k + 1 → Op.bytesLess (ts.getD i []) s = true) := fun i hi => by
     rcases Nat.lt_or_ge i k with h | h
     ·
      exact HA.out i h
     ·
      obtain rfl : i = k := by omega
      rw [hx]; exact hb
    clear HW HA hat hlow hx
    go_wp2
    go_roundw
    case rel => exact ⟨k + 1, by go_num, by omega, HA2, trivial⟩
    case measure => simp [intOf]; omega
  ·
   obtain rfl : k = ts.length := by omega
   obtain ⟨v1, Y1, v2, Y2, v3, Y3, g', c', Y4, hr1, hr2, hr3, hr4, hv4, hbY4⟩ := HW.out (low8_at s ts _ HA.out hk (Or.inl rfl)) (by simp)
   have HV4 : Hid (Y4.ownsRow B 9 1 (.slice (some ⟨g', 0, none⟩) (put8 ts s).length c') (put8 ts s).length (strV (put8 ts s))) := hv4
   clear HW HA hv4
   by_cases hcl : cap = ts.length
   ·
    subst hcl
    rw [if_pos rfl] at hr1
    simp only [Nat.sub_self] at hr1
    clear h
    go_wp2_with (at_builtin; first | (refine wpList_append_run rfl (.tmp 34) (.tmp 37) 59 rfl _ _ _ rfl rfl hr1 ?_; clear hr1) | (refine wpList_append_run rfl (.tmp 39) (.tmp 42) 59 rfl _ _ _ rfl rfl hr2 ?_; clear hr2) | (refine wpList_append_run rfl (.tmp 43) (.tmp 45) 59 rfl _ _ _ rfl rfl hr3 ?_; clear hr3) | (refine wpList_append_run rfl (.tmp 46) (.tmp 47) 59 rfl _ _ _ rfl rfl hr4 ?_; clear hr4))
    go_ret
    exact ⟨g', c', rfl, HV4.out, hbY4⟩
   ·
    rw [if_neg hcl, Nat.sub_self] at hr1
    clear h
    have hcl2 : ¬ (cap : Int) = (ts.length : Int) := by omega
    go_wp2_with (at_builtin; first | (refine wpList_append_run rfl (.tmp 34) (.tmp 37) 59 rfl _ _ _ rfl rfl hr1 ?_; clear hr1) | (refine wpList_append_run rfl (.tmp 39) (.tmp 42) 59 rfl _ _ _ rfl rfl hr2 ?_; clear hr2) | (refine wpList_append_run rfl (.tmp 43) (.tmp 45) 59 rfl _ _ _ rfl rfl hr3 ?_; clear hr3) | (refine wpList_append_run rfl (.tmp 46) (.tmp 47) 59 rfl _ _ _ rfl rfl hr4 ?_; clear hr4))
    go_ret
    exact ⟨g', c', rfl, HV4.out, hbY4⟩

end Go.Proofs.Ytaioedcaopbgkaa

/-! The contracts of chapter 8's specification: l8Reaches. -/
namespace Go.Proofs.Ytaioedcaopbgkaa
open Go.RowKit

theorem step8_take (ps qs : List Pk) (o : List (List UInt8)) (k : Nat) (hk : k < qs.length) : step8 ps (qs.take (k + 1)) o = pass8 ps (step8 ps (qs.take k) o) (qs.getD k pk0) := by
 have e : qs.getD k pk0 = qs[k] := by simp [List.getD, hk]
 unfold step8
 rw [List.take_succ_eq_append_getElem hk, List.foldl_append, e]
 rfl
theorem inner8_take (ps : List Pk) (o ms : List (List UInt8)) (k : Nat) (hk : k < ms.length) : inner8 ps o (ms.take (k + 1)) = in8 ps (inner8 ps o (ms.take k)) (ms.getD k []) := by
 have e : ms.getD k [] = ms[k] := by simp [List.getD, hk]
 unfold inner8
 rw [List.take_succ_eq_append_getElem hk, List.foldl_append, e]
 rfl
theorem in8_at (ps : List Pk) (o : List (List UInt8)) (m : List UInt8) : in8 ps o m = if at8 ps m < 0 then o else put8 o m := by
 unfold in8
 have h := at8_mem ps m
 by_cases hm : m ∈ names8 ps
 ·
  rw [if_pos hm, if_neg (by have := h.2 hm; omega)]
 ·
  rw [if_neg hm, if_pos (by
   rcases Int.lt_or_le (at8 ps m) 0 with g | g
   ·
    exact g
   ·
    exact absurd (h.1 g) hm)]
theorem Re8.prefix {ps : List Pk} {s : List UInt8} {o : List (List UInt8)} (h : Re8 ps s o) (k : Nat) : Re8 ps s (step8 ps (ps.take k) o) := Re8.step _ _ (fun _ hq => List.mem_of_mem_take hq) h
theorem Re8.part {ps : List Pk} {s : List UInt8} {o : List (List UInt8)} (h : Re8 ps s o) {p : Pk} (hp : p ∈ ps) (hpo : p.1 ∈ o) (i : Nat) : Re8 ps s (inner8 ps o (p.2.1.take i)) := Re8.inner hp _ _ h hpo (fun _ hm => List.mem_of_mem_take hm)

/-- What l8Reaches holds of a list of names. -/
structure Ro8 (w X : World) (ps : List Pk) (g c : Nat) (o : List (List UInt8)) : Prop where
 own : X.ownsRow w.heap.size 9 1 (.slice (some ⟨g, 0, none⟩) o.length c) o.length (strV o)
 h : Below w.heap.size w X
theorem Ro8.texts {w X : World} {ps : List Pk} {g c : Nat} {o : List (List UInt8)} (r : Ro8 w X ps g c o) : TextsIn X (some ⟨g, 0, none⟩) o.length o := by
 obtain ⟨_, a', c', e, h⟩ := own_texts r.own
 injection e with e1 _ _
 subst e1
 exact h

set_option maxHeartbeats 4000000 in
set_option maxRecDepth 100000 in
theorem specReach8 (a : Option Addr) (len cap : Nat) (ps : List Pk) (s : List UInt8) (w : World) (hin : PkgsIn w a len ps) (hp : projB ps = true) (hs : s ∈ names8 ps) :
 Calls Try.prog 87 #[.slice a len cap, .string ⟨s.toArray⟩] w fun e w' => ∃ g c, e = .returned (.slice (some ⟨g, 0, none⟩) (reach8 ps s).length c) ∧ w'.ownsRow w.heap.size 9 1 (.slice (some ⟨g, 0, none⟩) (reach8 ps s).length c) (reach8 ps s).length (strV (reach8 ps s)) ∧ Below w.heap.size w w' := by
 obtain rfl : ps.length = len := hin.1
 obtain ⟨_, hlen8, hpk⟩ := projB_parts hp
 have HPK : Hid (∀ p ∈ ps, pkgB p = true) := hpk
 have hl8 : (ps.length : Int) ≤ 8 := by omega
 have HI : Hid (PkgsIn w a ps.length ps) := hin
 have hown0 := (World.ownsRow_lit (base := w.heap.size) (e := 9) (size := 1) w #[.string ⟨s.toArray⟩] 1 (Nat.le_refl _) (by decide) rfl)
 have hbA : Below w.heap.size w (w.alloc (.cells #[.string ⟨s.toArray⟩] 9)) := (Below.refl _ _).alloc (Nat.le_refl _) _
 have HO0 : Hid (Ro8 w (w.alloc (.cells #[.string ⟨s.toArray⟩] 9)) ps w.heap.size 1 [s]) := ⟨hown0, hbA⟩
 have HR0 : Hid (reach8 ps s = reachGo ps (ps.length + 1) [s]) := rfl
 have HE : Hid (Re8 ps s [s]) := re8_one hs
 generalize reach8 ps s = R at HR0 ⊢
 clear hin hp hpk hown0 hbA hs
 go_enter Try.func87, Try.ntmps87
 go_wp2
 go_loopw [5] (fun v wr => ∃ (g c : Nat) (out : List (List UInt8)) (n : Nat), v = .slice (some ⟨g, 0, none⟩) out.length c ∧ ps.length < n + out.length ∧ Hid (Ro8 w wr ps g c out) ∧ Hid (Re8 ps s out) ∧ Hid (R = reachGo ps n out)) (fun v _ => ps.length + 1 - lenOf v)
 case atStart => exact ⟨w.heap.size, 1, [s], ps.length + 1, rfl, by simp only [List.length_singleton]; omega, HO0, HE, HR0⟩
 case round =>
  obtain ⟨g, c, out, n, rfl, hn, HO, HRe, HRn⟩ := hrel
  clear HO0 HE HR0
  have hol := HRe.out.len
  obtain ⟨n', rfl⟩ : ∃ n', n = n' + 1 := ⟨n - 1, by omega⟩
  go_wp2
  go_loopw [5, 7] (fun v iv wx => ∃ (g2 c2 k : Nat) (o : List (List UInt8)), v = .slice (some ⟨g2, 0, none⟩) o.length c2 ∧ iv = .int .i64 (k : Int) ∧ k ≤ ps.length ∧ Hid (o = step8 ps (ps.take k) out) ∧ Hid (Ro8 w wx ps g2 c2 o)) (fun _ iv _ => ps.length - (intOf iv).toNat)
  case atStart => exact ⟨g, c, 0, out, rfl, rfl, by omega, (rfl : out = step8 ps (ps.take 0) out), HO⟩
  case round =>
   obtain ⟨g2, c2, k, o, rfl, rfl, hk, HS, HO2⟩ := hrel
   have HRo : Hid (Re8 ps s o) := by exact (by rw [HS.out]; exact HRe.out.prefix k : Re8 ps s o)
   have hol2 := HRo.out.len
   by_cases hlt : (k : Int) < (ps.length : Int)
   ·
    have hk2 : k < ps.length := by omega
    have hst := step8_take ps ps out k hk2
    rw [← HS.out] at hst
    have hpm : ps.getD k pk0 ∈ ps := by simp [List.getD, hk2]
    have hpi : pkgB (ps.getD k pk0) = true := HPK.out _ hpm
    obtain ⟨b, off, ea, _, _⟩ := HI.out.2 k hk2
    subst ea
    obtain ⟨p, hp⟩ : ∃ p, ps.getD k pk0 = p := ⟨_, rfl⟩
    have HPI : Hid (ps.getD k pk0 = p) := hp
    rw [hp] at hst hpm hpi
    clear hp
    obtain ⟨x, ims, fs⟩ := p
    have hi6 := (pkgB_parts hpi).2.2.1
    simp only at hi6
    have HST : Hid (step8 ps (ps.take (k + 1)) out = pass8 ps o (x, ims, fs)) := hst
    have HPM : Hid ((x, ims, fs) ∈ ps) := hpm
    clear hst hpm hpi
    go_wp2
    go_loopw [5, 8] (fun v iv wy => ∃ (g3 c3 i : Nat) (q : List (List UInt8)), v = .slice (some ⟨g3, 0, none⟩) q.length c3 ∧ iv = .int .i64 (i : Int) ∧ i ≤ ims.length ∧ Hid ((i = 0 ∧ q = o) ∨ (x ∈ o ∧ q = inner8 ps o (ims.take i))) ∧ Hid (Ro8 w wy ps g3 c3 q)) (fun _ iv _ => ims.length - (intOf iv).toNat)
    case atStart => exact ⟨g2, c2, 0, o, rfl, rfl, by omega, (Or.inl ⟨rfl, rfl⟩ : (0 = 0 ∧ o = o) ∨ _), HO2⟩
    case round =>
     obtain ⟨g3, c3, i, q, rfl, rfl, hi, HQ, HO3⟩ := hrel
     obtain ⟨W3, rfl⟩ : ∃ W3, W3 = wr := ⟨_, rfl⟩
     have hin3 := HI.out.below HO3.out.h
     obtain ⟨b', off', ea, hbl, c0, ia, il, ic, fa, fl, fc, c1, c2', hii, _⟩ := hin3.2 k hk2
     simp only [Option.some.injEq, Addr.mk.injEq, and_true] at ea
     obtain ⟨rfl, rfl⟩ := ea
     rw [HPI.out] at c0 hii
     simp only at c0 hii
     obtain rfl : ims.length = il := hii.1
     have HII : Hid (TextsIn W3 ia ims.length ims) := hii
     have HP3 : Hid (PkgsIn W3 (some ⟨b, off, none⟩) ps.length ps) := hin3
     have hql : q.length ≤ ps.length := by
      rcases HQ.out with ⟨_, e⟩ | ⟨hx, e⟩
      ·
       rw [e]; exact hol2
      ·
       rw [e]; exact (HRo.out.part HPM.out hx i).len
     have HT3 : Hid (TextsIn W3 (some ⟨g3, 0, none⟩) q.length q) := HO3.out.texts
     clear hii hin3 c2'
     by_cases hil : (i : Int) < (ims.length : Int)
     ·
      have hi2 : i < ims.length := by omega
      have HH : Hid (_) := specHas (some ⟨g3, 0, none⟩) q.length c3 q x W3 HT3.out (by omega)
      by_cases hxq : x ∈ q
      ·
       have hxo : x ∈ o := by
        rcases HQ.out with ⟨_, e⟩ | ⟨hx, _⟩
        ·
         rw [← e]; exact hxq
        ·
         exact hx
       have hqe : q = inner8 ps o (ims.take i) := by
        rcases HQ.out with ⟨e0, e⟩ | ⟨_, e⟩
        ·
         rw [e0, e]; rfl
        ·
         exact e
       obtain ⟨b4, off4, rfl, _, d0⟩ := HII.out.2 i hi2
       have hst := inner8_take ps o ims i hi2
       rw [← hqe] at hst
       obtain ⟨m, hm⟩ : ∃ m, ims.getD i [] = m := ⟨_, rfl⟩
       rw [hm] at d0 hst
       rw [in8_at] at hst
       rw [decide_eq_true hxq] at HH
       have HA : Hid (_) := specAt8 (some ⟨b, off, none⟩) ps.length cap ps m W3 HP3.out (by omega)
       have HXO : Hid (x ∈ o) := hxo
       obtain ⟨z, hz⟩ : ∃ z, at8 ps m = z := ⟨_, rfl⟩
       rw [hz] at HA hst
       clear hz hm hqe hxo hxq
       by_cases hz0 : z < 0
       ·
        have HQ2 : Hid ((i + 1 = 0 ∧ q = o) ∨ (x ∈ o ∧ q = inner8 ps o (ims.take (i + 1)))) := Or.inr ⟨HXO.out, by rw [hst, if_pos hz0]⟩
        have hz1 : ¬ 0 ≤ z := by omega
        clear hst HQ
        go_wp2_with (first | (go_at_call 61; refine Calls.mono HH.out ?_; rintro e w1 ⟨rfl, hw1⟩; obtain rfl := hw1.symm) | (go_at_call 60; refine Calls.mono HA.out ?_; rintro e w1 ⟨rfl, hw1⟩; obtain rfl := hw1.symm))
        go_roundw
        case rel => exact ⟨g3, c3, i + 1, q, rfl, by go_num, by omega, HQ2, HO3⟩
        case measure => simp [intOf]; omega
       ·
        have HQ2 : Hid ((i + 1 = 0 ∧ put8 q m = o) ∨ (x ∈ o ∧ put8 q m = inner8 ps o (ims.take (i + 1)))) := Or.inr ⟨HXO.out, by rw [hst, if_neg hz0]⟩
        have HPu : Hid (_) := specPut w.heap.size g3 c3 q m W3 HO3.out.own HO3.out.h.size (by omega)
        have hz1 : 0 ≤ z := by omega
        clear hst HQ
        go_wp2_with (first | (go_at_call 61; refine Calls.mono HH.out ?_; rintro e w1 ⟨rfl, hw1⟩; obtain rfl := hw1.symm) | (go_at_call 60; refine Calls.mono HA.out ?_; rintro e w1 ⟨rfl, hw1⟩; obtain rfl := hw1.symm) | (go_at_call 93; refine Calls.mono HPu.out ?_; rintro e w4 ⟨g4, c4, rfl, ho4, hb4⟩))
        have HO4 : Hid (Ro8 w w4 ps g4 c4 (put8 q m)) := ⟨ho4, HO3.out.h.trans (hb4.mono HO3.out.h.size)⟩
        go_roundw
        case rel => exact ⟨g4, c4, i + 1, put8 q m, rfl, by go_num, by omega, HQ2, HO4⟩
        case measure => simp [intOf]; omega
      ·
       have hqo : q = o ∧ ¬ x ∈ o := by
        rcases HQ.out with ⟨_, e⟩ | ⟨hx, e⟩
        ·
         exact ⟨e, by rw [← e]; exact hxq⟩
        ·
         exact absurd (by rw [e]; exact inner8_sub _ _ hx) hxq
       rw [decide_eq_false hxq] at HH
       have HS2 : Hid (q = step8 ps (ps.take (k + 1)) out) := by exact (by rw [HST.out, hqo.1]; unfold pass8; rw [if_neg hqo.2] : q = step8 ps (ps.take (k + 1)) out)
       clear hqo hxq HQ
       go_wp2_with (go_at_call 61; refine Calls.mono HH.out ?_; rintro e w1 ⟨rfl, hw1⟩; obtain rfl := hw1.symm)
       go_roundw
       case rel => exact ⟨g3, c3, k + 1, q, rfl, by go_num, by omega, HS2, HO3⟩
       case measure => simp [intOf]; omega
     ·
      obtain rfl : i = ims.length := by omega
      have hqe : q = pass8 ps o (x, ims, fs) := by
       unfold pass8
       rcases HQ.out with ⟨e0, e⟩ | ⟨hx, e⟩
       ·
        have hn0 : ims = [] := List.eq_nil_of_length_eq_zero e0
        rw [e, hn0]
        split <;> rfl
       ·
        rw [if_pos hx, e, List.take_of_length_le (Nat.le_refl _)]
      have HS2 : Hid (q = step8 ps (ps.take (k + 1)) out) := by exact (by rw [HST.out]; exact hqe : q = step8 ps (ps.take (k + 1)) out)
      clear hqe HQ
      go_wp2
      go_roundw
      case rel => exact ⟨g3, c3, k + 1, q, rfl, by go_num, by omega, HS2, HO3⟩
      case measure => simp [intOf]; omega
   ·
    obtain rfl : k = ps.length := by omega
    have hS := HS.out
    rw [List.take_of_length_le (Nat.le_refl _)] at hS
    have hle := HRe.out.rise.nodup.length_le_of_subset (fun y hy => by rw [hS]; exact step8_sub (ps := ps) ps out hy : ∀ y ∈ out, y ∈ o)
    have hR := HRn.out
    rw [reachGo, ← hS] at hR
    by_cases heq : o.length = out.length
    ·
     have HRR : Hid (R = o) := by exact (by rw [hR, if_pos heq] : R = o)
     have hei : ((o.length : Int) == (out.length : Int)) = true := by rw [beq_iff_eq]; omega
     clear hR hS hle heq
     go_wp2
     go_ret
     exact ⟨g2, c2, by rw [HRR.out]; rfl, by rw [HRR.out]; exact HO2.out.own, HO2.out.h⟩
    ·
     have HRR : Hid (R = reachGo ps n' o) := by exact (by rw [hR, if_neg heq] : R = reachGo ps n' o)
     have hei : ((o.length : Int) == (out.length : Int)) = false := by rw [beq_eq_false_iff_ne]; omega
     clear hR hS
     go_wp2
     go_roundw
     case rel => exact ⟨g2, c2, o, n', rfl, by omega, HO2, HRo, HRR⟩
     case measure => simp only [lenOf]; omega

end Go.Proofs.Ytaioedcaopbgkaa
