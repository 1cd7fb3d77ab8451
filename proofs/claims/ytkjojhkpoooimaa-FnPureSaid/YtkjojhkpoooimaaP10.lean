/-
  Parts of one proof, one behind the other: ProjS3, ProjS4, ProjS5, ProjS6, RowW, PackS4, PackC, PackC2, PackS5, PackO.
-/
import Derived.Test.YtkjojhkpoooimaaP9
import Derived.Test.YtkjojhkpoooimaaP3
import Derived.Test.YtkjojhkpoooimaaP2
import Derived.Laws.IdiomCopy
import Derived.Test.YtkjojhkpoooimaaP8
import Derived.Test.YtkjojhkpoooimaaP4
import Derived.Test.YtkjojhkpoooimaaP7

/-! The contracts of chapter 8's specification: l8Order. -/
namespace Go.Proofs.Ytkjojhkpoooimaa
open Go.RowKit

def lenOf (v : Value) : Nat := match v with | .slice _ n _ => n | _ => 0
theorem next8_at {ps : List Pk} {out : List (List UInt8)} {i : Nat} (hi : i < ps.length) (h : ∀ j, j < i → ¬ free8 ps out (ps.getD j pk0)) (hf : free8 ps out (ps.getD i pk0)) : next8 ps out = some (ps.getD i pk0) := by
  have e : ∀ j (hj : j < ps.length), ps.getD j pk0 = ps[j] := fun j hj => by simp [List.getD, hj]
  unfold next8
  rw [List.find?_eq_some_iff_getElem]
  refine ⟨decide_eq_true hf, i, hi, (e i hi).symm, fun j hj => ?_⟩
  have := h j hj
  rw [e j (by omega)] at this
  simpa using this
theorem next8_all {ps : List Pk} {out : List (List UInt8)} (h : ∀ j, j < ps.length → ¬ free8 ps out (ps.getD j pk0)) : next8 ps out = none := by
  unfold next8
  rw [List.find?_eq_none]
  intro p hp
  obtain ⟨j, hj, rfl⟩ := List.mem_iff_getElem.1 hp
  have := h j hj
  rw [show ps.getD j pk0 = ps[j] by simp [List.getD, hj]] at this
  simpa using this
/-- Free, as far as its imports were asked. -/
def freeTo (ps : List Pk) (out ims : List (List UInt8)) (k : Nat) : Bool := decide (∀ m ∈ ims.take k, m ∈ names8 ps → m ∈ out)
theorem freeTo_step {ps : List Pk} {out ims : List (List UInt8)} {k : Nat} (hk : k < ims.length) : freeTo ps out ims (k + 1) = (freeTo ps out ims k && (decide (at8 ps (ims.getD k []) < 0) || decide (ims.getD k [] ∈ out))) := by
  unfold freeTo
  have e : ims.getD k [] = ims[k] := by simp [List.getD, hk]
  rw [List.take_succ_eq_append_getElem hk, e, Bool.eq_iff_iff]
  simp only [decide_eq_true_eq, Bool.and_eq_true, Bool.or_eq_true, List.mem_append, List.mem_singleton]
  have hat := at8_mem ps ims[k]
  constructor
  · intro h
    refine ⟨fun m hm hn => h m (Or.inl hm) hn, ?_⟩
    by_cases h0 : at8 ps ims[k] < 0
    · exact Or.inl h0
    · exact Or.inr (h _ (Or.inr rfl) (hat.1 (by omega)))
  · rintro ⟨h1, h2⟩ m (hm | rfl) hn
    · exact h1 m hm hn
    · rcases h2 with h2 | h2
      · have := hat.2 hn; omega
      · exact h2
/-- What the inner walk of l8Order knows: none so far, or the next one. -/
structure Nx8 (ps : List Pk) (out : List (List UInt8)) (i : Nat) (nx : List UInt8) : Prop where
  no : nx = [] → ∀ j, j < i → ¬ free8 ps out (ps.getD j pk0)
  yes : nx ≠ [] → ∃ p, next8 ps out = some p ∧ nx = p.1
theorem new_str8 (w : World) (x : List UInt8) (c : Nat) : Src (w.alloc (.cells #[.string ⟨x.toArray⟩] 9)) (.slice (some ⟨w.heap.size, 0, none⟩) 1 c) 1 1 (strV [x]) := by
  refine ⟨rfl, fun u hu => ?_, Or.inr ⟨_, c, rfl, fun j u hu => ?_⟩⟩
  · simp [strV] at hu; subst hu; rfl
  · exact cell_one_new w _ 9 j u hu
theorem push_text {X : World} {B : Nat} {v : Value} {n : Nat} {ls : List (List UInt8)} (x : List UInt8) (hv : X.ownsRow B 9 1 v n (strV ls)) (hb : B ≤ X.heap.size) (hn : n ≤ 1048576) :
    ∃ v' Y, (Builtin.append_ #[33, 33] 33 #[v, .slice (some ⟨X.heap.size, 0, none⟩) 1 1]).run Try.prog (X.alloc (.cells #[.string ⟨x.toArray⟩] 9)) = .ok v' Y ∧ Y.ownsRow B 9 1 v' (n + 1) (strV (ls ++ [x])) ∧ X.grownBy Y v.ownBlock := by
  obtain ⟨i0, hi, hz0, hz1, hz2⟩ := info_parts info9
  obtain ⟨v', Y, hrun, hown, hg, _⟩ := run_append_src (P := Try.prog) (X.alloc (.cells #[.string ⟨x.toArray⟩] 9)) B 33 33 9 i0 _ 1 16 Try.underlying33 hi hz0 hz1 hz2 rfl (by decide) _ _ _ (hv.alloc _) _ 1 (strV [x]) (new_str8 X x 1) (by unfold maxLen; omega) (by omega) (by simp; omega)
  exact ⟨v', Y, hrun, by rw [← strV_snoc]; exact hown, (World.grownBy_alloc X _ _).trans hg⟩

set_option maxHeartbeats 4000000 in
set_option maxRecDepth 100000 in
theorem specOrder8 (a : Option Addr) (len cap : Nat) (ps : List Pk) (w : World) (hin : PkgsIn w a len ps) (hp : projB ps = true) :
    Calls Try.prog 114 #[.slice a len cap] w fun e w' => ∃ v, e = .returned v ∧ w'.ownsRow w.heap.size 9 1 v (order8 ps).length (strV (order8 ps)) ∧ Below w.heap.size w w' := by
  obtain rfl : ps.length = len := hin.1
  obtain ⟨hrise, hlen8, hpk⟩ := projB_parts hp
  have HND : Hid ((names8 ps).Nodup) := hrise.nodup
  have HPK : Hid (∀ p ∈ ps, pkgB p = true) := hpk
  have hl8 : (ps.length : Int) ≤ 8 := by omega
  have HI : Hid (PkgsIn w a ps.length ps) := hin
  have hown0 := (World.ownsRow_lit (base := w.heap.size) (e := 9) (size := 1) w #[] 0 (Nat.le_refl _) (by decide) rfl)
  have hbA : Below w.heap.size w (w.alloc (.cells #[] 9)) := (Below.refl _ _).alloc (Nat.le_refl _) _
  have HO0 : Hid ((w.alloc (.cells #[] 9)).ownsRow w.heap.size 9 1 (.slice (some ⟨w.heap.size, 0, none⟩) 0 0) 0 (strV [])) := hown0
  have HB0 : Hid (Below w.heap.size w (w.alloc (.cells #[] 9))) := hbA
  have HR0 : Hid (order8 ps = orderGo ps (ps.length + 1) []) := rfl
  have HE : Hid (Or8 ps []) := or8_nil ps
  generalize order8 ps = R at HR0 ⊢
  clear hin hp hrise hpk hown0 hbA
  go_enter Try.func114, Try.ntmps114
  go_wp2
  go_loopw [3] (fun v wr => ∃ (oa : Option Addr) (oc : Nat) (out : List (List UInt8)) (n : Nat), v = .slice oa out.length oc ∧ ps.length < n + out.length ∧ Hid (wr.ownsRow w.heap.size 9 1 (.slice oa out.length oc) out.length (strV out)) ∧ Hid (Below w.heap.size w wr) ∧ Hid (Or8 ps out) ∧ Hid (R = orderGo ps n out)) (fun v _ => ps.length + 1 - lenOf v)
  case atStart => exact ⟨some ⟨w.heap.size, 0, none⟩, 0, [], ps.length + 1, rfl, by simp, HO0, HB0, HE, HR0⟩
  case round =>
    obtain ⟨oa, oc, out, n, rfl, hn, HO, HB, HOr, HRn⟩ := hrel
    clear HO0 HB0 HE HR0
    obtain ⟨W2, rfl⟩ : ∃ W2, W2 = wr := ⟨_, rfl⟩
    have hol := HOr.out.len
    have HP : Hid (PkgsIn W2 a ps.length ps) := HI.out.below HB.out
    have HT : Hid (TextsIn W2 oa out.length out) := by
      obtain ⟨_, a', c', e, h⟩ := own_texts HO.out
      injection e with e1 _ _
      subst e1
      exact h
    go_wp2
    go_loopw [4, 5] (fun nv iv wx => ∃ (i : Nat) (nx : List UInt8), nv = .string ⟨nx.toArray⟩ ∧ iv = .int .i64 (i : Int) ∧ i ≤ ps.length ∧ Hid (Nx8 ps out i nx) ∧ W2 = wx) (fun _ iv _ => ps.length - (intOf iv).toNat)
    case atStart => exact ⟨0, [], rfl, rfl, by omega, (⟨fun _ j hj => by omega, fun h => absurd rfl h⟩ : Nx8 ps out 0 []), rfl⟩
    case round =>
      obtain ⟨i, nx, rfl, rfl, hi, HN, rfl⟩ := hrel
      by_cases hnx : nx = []
      · subst hnx
        have he : (([] : List UInt8) == []) = true := by decide
        by_cases hlt : (i : Int) < (ps.length : Int)
        · have hi2 : i < ps.length := by omega
          obtain ⟨b, off, rfl, hbl, c0, ia, il, ic, fa, fl, fc, c1, c2, hii, _⟩ := HP.out.2 i hi2
          have hpi : pkgB (ps.getD i pk0) = true := HPK.out _ (by simp [List.getD, hi2])
          have hfree : free8 ps out (ps.getD i pk0) ↔ (¬ (ps.getD i pk0).1 ∈ out ∧ ∀ m ∈ (ps.getD i pk0).2.1, m ∈ names8 ps → m ∈ out) := Iff.rfl
          have hnat := next8_at (out := out) hi2 (HN.out.no rfl)
          obtain ⟨p, hp⟩ : ∃ p, ps.getD i pk0 = p := ⟨_, rfl⟩
          have HPI : Hid (ps.getD i pk0 = p) := hp
          rw [hp] at c0 hii hpi hfree hnat
          have HNA : Hid (free8 ps out p → next8 ps out = some p) := hnat
          clear hp hnat
          obtain ⟨x, ims, fs⟩ := p
          simp only at c0 hii hfree
          obtain ⟨h1, h2, h3, _, _⟩ := pkgB_parts hpi
          simp only at h1 h2 h3
          have hx1 := (name_letters h1).1.1
          obtain rfl : ims.length = il := hii.1
          have HFR : Hid (free8 ps out (x, ims, fs) ↔ (¬ x ∈ out ∧ ∀ m ∈ ims, m ∈ names8 ps → m ∈ out)) := hfree
          have HII : Hid (TextsIn W2 ia ims.length ims) := hii
          clear hpi h1 h2 hii hfree
          have HH : Hid (_) := specHas oa out.length oc out x W2 HT.out (by omega)
          by_cases hxo : x ∈ out
          · rw [decide_eq_true hxo] at HH
            have HN2 : Hid (Nx8 ps out (i + 1) []) := ⟨fun _ j hj => by
              rcases Nat.lt_or_ge j i with h | h
              · exact HN.out.no rfl j h
              · obtain rfl : j = i := by omega
                rw [HPI.out]
                exact fun h => (HFR.out.1 h).1 hxo, fun h => absurd rfl h⟩
            go_wp2_with (go_at_call 115; refine Calls.mono HH.out ?_; rintro e w1 ⟨rfl, hw1⟩; obtain rfl := hw1.symm)
            go_roundw
            case rel => exact ⟨i + 1, [], rfl, by go_num, by omega, HN2, trivial⟩
            case measure => simp [intOf]; omega
          · rw [decide_eq_false hxo] at HH
            have HXO : Hid (¬ x ∈ out) := hxo
            clear hxo
            go_wp2_with (go_at_call 115; refine Calls.mono HH.out ?_; rintro e w1 ⟨rfl, hw1⟩; obtain rfl := hw1.symm)
            go_loopw [6, 7] (fun fv kv wy => ∃ (k : Nat) (fr : Bool), fv = .bool fr ∧ kv = .int .i64 (k : Int) ∧ k ≤ ims.length ∧ Hid (freeTo ps out ims k = fr) ∧ W2 = wy) (fun _ kv _ => ims.length - (intOf kv).toNat)
            case atStart => exact ⟨0, true, rfl, rfl, by omega, (by simp [freeTo] : freeTo ps out ims 0 = true), rfl⟩
            case round =>
              obtain ⟨k, fr, rfl, rfl, hk, HF, rfl⟩ := hrel
              by_cases hkl : (k : Int) < (ims.length : Int)
              · have hk2 : k < ims.length := by omega
                obtain ⟨b', off', rfl, hbl', d0⟩ := HII.out.2 k hk2
                have hst := freeTo_step (ps := ps) (out := out) hk2
                obtain ⟨m, hm⟩ : ∃ m, ims.getD k [] = m := ⟨_, rfl⟩
                rw [hm, HF.out] at hst
                rw [hm] at d0
                have HA : Hid (_) := specAt8 (some ⟨b, off, none⟩) ps.length cap ps m W2 HP.out (by omega)
                have HM : Hid (_) := specHas oa out.length oc out m W2 HT.out (by omega)
                obtain ⟨z, hz⟩ : ∃ z, at8 ps m = z := ⟨_, rfl⟩
                obtain ⟨q, hq⟩ : ∃ q, decide (m ∈ out) = q := ⟨_, rfl⟩
                rw [hz] at HA hst
                rw [hq] at HM hst
                clear hz hq hm
                rcases fr with _ | _
                · have HF2 : Hid (freeTo ps out ims (k + 1) = false) := by exact (by rw [hst]; rfl : freeTo ps out ims (k + 1) = false)
                  clear hst HA HM
                  go_wp2
                  go_roundw
                  case rel => exact ⟨k + 1, false, rfl, by go_num, by omega, HF2, trivial⟩
                  case measure => simp [intOf]; omega
                · by_cases hz0 : z < 0
                  · have HF2 : Hid (freeTo ps out ims (k + 1) = true) := by exact (by rw [hst, decide_eq_true hz0]; rfl : freeTo ps out ims (k + 1) = true)
                    clear hst HM
                    go_wp2_with (go_at_call 72; refine Calls.mono HA.out ?_; rintro e w1 ⟨rfl, hw1⟩; obtain rfl := hw1.symm)
                    go_roundw
                    case rel => exact ⟨k + 1, true, rfl, by go_num, by omega, HF2, trivial⟩
                    case measure => simp [intOf]; omega
                  · have HF2 : Hid (freeTo ps out ims (k + 1) = q) := by exact (by rw [hst, decide_eq_false hz0]; cases q <;> rfl : freeTo ps out ims (k + 1) = q)
                    clear hst
                    go_wp2_with (first | (go_at_call 72; refine Calls.mono HA.out ?_; rintro e w1 ⟨rfl, hw1⟩; obtain rfl := hw1.symm) | (go_at_call 115; refine Calls.mono HM.out ?_; rintro e w1 ⟨rfl, hw1⟩; obtain rfl := hw1.symm))
                    go_roundw
                    case rel => exact ⟨k + 1, q, by rw [decide_eq_false (by omega)]; cases q <;> rfl, by go_num, by omega, HF2, trivial⟩
                    case measure => simp [intOf]; omega
              · obtain rfl : k = ims.length := by omega
                have hF := HF.out
                unfold freeTo at hF
                rw [List.take_of_length_le (Nat.le_refl _)] at hF
                rcases fr with _ | _
                · have HN2 : Hid (Nx8 ps out (i + 1) []) := ⟨fun _ j hj => by
                    rcases Nat.lt_or_ge j i with h | h
                    · exact HN.out.no rfl j h
                    · obtain rfl : j = i := by omega
                      rw [HPI.out]
                      exact fun h => (of_decide_eq_false hF) (HFR.out.1 h).2, fun h => absurd rfl h⟩
                  clear hF HF
                  go_wp2
                  go_roundw
                  case rel => exact ⟨i + 1, [], rfl, by go_num, by omega, HN2, trivial⟩
                  case measure => simp [intOf]; omega
                · have hne : x ≠ [] := fun e => by rw [e] at hx1; simp at hx1
                  have HN2 : Hid (Nx8 ps out (i + 1) x) := ⟨fun h => absurd h hne, fun _ => ⟨_, HNA.out (HFR.out.2 ⟨HXO.out, of_decide_eq_true hF⟩), rfl⟩⟩
                  clear hF HF hne
                  go_wp2
                  go_roundw
                  case rel => exact ⟨i + 1, x, rfl, by go_num, by omega, HN2, trivial⟩
                  case measure => simp [intOf]; omega
        · have hnone : next8 ps out = none := next8_all (fun j hj => HN.out.no rfl j (by omega))
          have HRR : Hid (R = out) := by exact (by rw [HRn.out]; exact orderGo_none n hnone : R = out)
          clear hnone
          go_wp2
          go_ret
          exact ⟨_, rfl, by rw [HRR.out]; exact HO.out, HB.out⟩
      · have he : (nx == []) = false := beq_eq_false_iff_ne.2 hnx
        have he2 : nx.isEmpty = false := by rw [List.isEmpty_eq_false_iff]; exact hnx
        obtain ⟨p, hp, hpn⟩ := HN.out.yes hnx
        obtain ⟨n', rfl⟩ : ∃ n', n = n' + 1 := ⟨n - 1, by omega⟩
        have HR2 : Hid (R = orderGo ps n' (out ++ [nx])) := by exact (by rw [HRn.out, orderGo_some n' hp, hpn] : R = orderGo ps n' (out ++ [nx]))
        have HOr2 : Hid (Or8 ps (out ++ [nx])) := by exact (by rw [hpn]; exact HOr.out.step HND.out hp : Or8 ps (out ++ [nx]))
        obtain ⟨v', Y, hrun, hv', hg⟩ := push_text nx HO.out HB.out.size (by omega)
        obtain ⟨a', c', rfl⟩ : ∃ a c, v' = .slice a (out.length + 1) c := by
          rcases own_forms hv' with ⟨_, h0, _⟩ | ⟨g, cp, rfl⟩
          · omega
          · exact ⟨_, cp, rfl⟩
        have e1 : (out ++ [nx]).length = out.length + 1 := by simp
        have HO2 : Hid (Y.ownsRow w.heap.size 9 1 (.slice a' (out ++ [nx]).length c') (out ++ [nx]).length (strV (out ++ [nx]))) := by exact (by rw [e1]; exact hv' : Y.ownsRow w.heap.size 9 1 (.slice a' (out ++ [nx]).length c') (out ++ [nx]).length (strV (out ++ [nx])))
        have HB2 : Hid (Below w.heap.size w Y) := HB.out.grown hg HB.out.size (fun k e => (HO.out.lt k e).1)
        have hol2 := HOr2.out.len
        rw [e1] at hol2
        have HE1 : Hid ((out ++ [nx]).length = out.length + 1) := e1
        clear hp hpn hv' hg e1 HN
        have hil : i ≤ ps.length := hi
        go_wp2_with (at_builtin; refine wpList_append_run rfl (.tmp 66) (.tmp 68) 33 rfl _ _ _ rfl rfl hrun ?_; clear hrun)
        all_goals
          go_roundw
          case rel => exact ⟨a', c', out ++ [nx], n', by rw [HE1.out], by rw [HE1.out]; omega, HO2, HB2, HOr2, HR2⟩
          case measure => simp only [lenOf]; omega

end Go.Proofs.Ytkjojhkpoooimaa

/-! The contracts of chapter 8's specification: l1Put. -/
namespace Go.Proofs.Ytkjojhkpoooimaa
open Go.RowKit

end Go.Proofs.Ytkjojhkpoooimaa

/-! The contracts of chapter 8's specification: l8Reaches. -/
namespace Go.Proofs.Ytkjojhkpoooimaa
open Go.RowKit

theorem Re8.part {ps : List Pk} {s : List UInt8} {o : List (List UInt8)} (h : Re8 ps s o) {p : Pk} (hp : p ∈ ps) (hpo : p.1 ∈ o) (i : Nat) : Re8 ps s (inner8 ps o (p.2.1.take i)) := Re8.inner hp _ _ h hpo (fun _ hm => List.mem_of_mem_take hm)

/-- What l8Reaches holds of a list of names. -/
structure Ro8 (w X : World) (ps : List Pk) (g c : Nat) (o : List (List UInt8)) : Prop where
  own : X.ownsRow w.heap.size 9 1 (.slice (some ⟨g, 0, none⟩) o.length c) o.length (strV o)
  h : Below w.heap.size w X
end Go.Proofs.Ytkjojhkpoooimaa

/-! The contracts of chapter 8's specification: l8Needs, Order, Reaches, Needs. -/
namespace Go.Proofs.Ytkjojhkpoooimaa
open Go.RowKit

def keep8 (r : List (List UInt8)) (s x : List UInt8) : Bool := decide (x ≠ s ∧ x ∈ r)
end Go.Proofs.Ytkjojhkpoooimaa

/-! A row of bytes that a call has made of a string ('[]byte(s)'), and 'append(b, s...)' onto it, whether there is room or not. -/
namespace Go.Proofs.Ytkjojhkpoooimaa
open Go.RowKit

/-- Block g, new since 'base', holds the bytes l from its head on; all of its cap cells may be written. -/
structure RowW (w : World) (base g cap : Nat) (l : List UInt8) : Prop where
  row : RowB w base g cap l
  all : ∀ j, j < cap → (w.cell? ⟨g, j, none⟩).isSome = true ∧ w.frozen? ⟨g, j, none⟩ = false

theorem RowW.kept {w w' : World} {base g cap : Nat} {l : List UInt8} {row : Option Nat} (h : RowW w base g cap l) (hg : w.grownBy w' row) (hne : some g ≠ row) : RowW w' base g cap l := by
  have hb := hg.block g h.row.there hne
  exact ⟨h.row.kept hg hne, fun j hj => by rw [World.cell?_of_block (a := ⟨g, j, none⟩) hb, World.frozen?_of_block (a := ⟨g, j, none⟩) hb]; exact h.all j hj⟩

theorem RowW.below {w w' : World} {base g cap : Nat} {l : List UInt8} (h : RowW w base g cap l) (hb : Below w.heap.size w w') : RowW w' base g cap l :=
  h.kept (row := none) ⟨hb.os, hb.tape, hb.output, hb.size, fun k hk _ => hb.block k hk⟩ (by simp)

theorem RowW.drew {w : World} {base g cap : Nat} {l : List UInt8} (h : RowW w base g cap l) : RowW w.drew base g cap l :=
  h.below ⟨rfl, rfl, rfl, Nat.le_refl _, fun _ _ => rfl⟩

end Go.Proofs.Ytkjojhkpoooimaa

/-! The contracts of chapter 7's specification: l7Show, ShowPackage. -/
namespace Go.Proofs.Ytkjojhkpoooimaa
open Go.RowKit

/-- A line with its end. -/
def lineT (x : List UInt8) : List UInt8 := x ++ [10]

/-- What a round of l7Show's second loop holds: the function's own block, the row that is written, the function's tree. -/
structure ShSt (X W : World) (B F g cap : Nat) (l s : List UInt8) (n : Int) (t : List Nd) (ta : Option Addr) (tl tc : Nat) : Prop where
  c0 : X.cell? ⟨F, 0, none⟩ = some (.string ⟨s.toArray⟩)
  c1 : X.cell? ⟨F, 1, none⟩ = some (.int .i64 n)
  c2 : X.cell? ⟨F, 2, none⟩ = some (.slice ta tl tc)
  ne : g ≠ F
  row : RowW X B g cap l
  nodes : NodesIn X ta tl t
  b : Below B W X
  bs : B ≤ X.heap.size

theorem ShSt.below {X Y W : World} {B F g cap : Nat} {l s : List UInt8} {n : Int} {t : List Nd} {ta : Option Addr} {tl tc : Nat} (h : ShSt X W B F g cap l s n t ta tl tc) (hb : Below X.heap.size X Y) : ShSt Y W B F g cap l s n t ta tl tc :=
  have hl : F < X.heap.size := World.block_lt_of_cell? X ⟨F, 0, none⟩ h.c0
  ⟨(hb.cell (p := ⟨F, 0, none⟩) hl).trans h.c0, (hb.cell (p := ⟨F, 1, none⟩) hl).trans h.c1, (hb.cell (p := ⟨F, 2, none⟩) hl).trans h.c2, h.ne, h.row.below hb, h.nodes.below hb, h.b.trans (hb.mono h.bs), Nat.le_trans h.bs hb.size⟩

theorem ShSt.drew {X W : World} {B F g cap : Nat} {l s : List UInt8} {n : Int} {t : List Nd} {ta : Option Addr} {tl tc : Nat} (h : ShSt X W B F g cap l s n t ta tl tc) : ShSt X.drew W B F g cap l s n t ta tl tc :=
  h.below ⟨rfl, rfl, rfl, Nat.le_refl _, fun _ _ => rfl⟩

end Go.Proofs.Ytkjojhkpoooimaa

/-! Texts and trees are copied: l1Texts; rows as 'append' reads them. -/
namespace Go.Proofs.Ytkjojhkpoooimaa
open Go.RowKit


theorem TextsIn.src {w : World} {a : Option Addr} {len cap : Nat} {ts : List (List UInt8)} (h : TextsIn w a len ts) (hc : a = none → cap = 0) : Src w (.slice a len cap) len 1 (strV ts) := by
  have hl : (strV ts).length = len := by simp [strV, h.1]
  refine ⟨by rw [hl]; omega, fun u hu => ?_, ?_⟩
  · simp only [strV, List.mem_map] at hu
    obtain ⟨x, _, rfl⟩ := hu
    rfl
  rcases a with _ | ad
  · have h0 : len = 0 := by
      rcases Nat.eq_zero_or_pos len with h' | h'
      · exact h'
      · obtain ⟨b, off, e, _⟩ := h.2 0 h'
        cases e
    exact Or.inl ⟨by rw [h0, hc rfl], h0⟩
  · refine Or.inr ⟨ad, cap, rfl, fun j u hu => ?_⟩
    have hj : j < (strV ts).length := by
      rcases Nat.lt_or_ge j (strV ts).length with h' | h'
      · exact h'
      · rw [List.getElem?_eq_none h'] at hu; cases hu
    rw [hl] at hj
    obtain ⟨b, off, e, _, c0⟩ := h.2 j hj
    injection e with e
    subst e
    rw [add_plain, c0]
    rw [strV_at ts j (by rw [h.1]; exact hj)] at hu
    rw [← hu, List.getD_eq_getElem?_getD, List.getElem?_eq_getElem (by rw [h.1]; exact hj)]
    rfl

theorem NodesIn.src {w : World} {a : Option Addr} {len cap : Nat} {ns : List Nd} (h : NodesIn w a len ns) (hc : a = none → cap = 0) : Src w (.slice a len cap) len 4 (nodesV ns) := by
  refine ⟨by rw [nodesV_len, h.1], nodesV_one ns, ?_⟩
  rcases a with _ | ad
  · have h0 : len = 0 := by
      rcases Nat.eq_zero_or_pos len with h' | h'
      · exact h'
      · obtain ⟨b, off, e, _⟩ := h.2 0 h'
        cases e
    exact Or.inl ⟨by rw [h0, hc rfl], h0⟩
  · refine Or.inr ⟨ad, cap, rfl, fun j u hu => ?_⟩
    have hj : j < (nodesV ns).length := by
      rcases Nat.lt_or_ge j (nodesV ns).length with h' | h'
      · exact h'
      · rw [List.getElem?_eq_none h'] at hu; cases hu
    rw [nodesV_len, h.1] at hj
    obtain ⟨b, off, e, _, c0, c1, c2, c3⟩ := h.2 (j / 4) (by omega)
    injection e with e
    subst e
    obtain ⟨v0, v1, v2, v3⟩ := nodesV_at ns (j / 4) (by rw [h.1]; omega)
    rw [add_plain]
    rcases (show j % 4 = 0 ∨ j % 4 = 1 ∨ j % 4 = 2 ∨ j % 4 = 3 by omega) with h' | h' | h' | h'
    · rw [show j / 4 * 4 = j by omega] at v0 c0
      rw [hu] at v0
      rw [c0, v0]
    · rw [show j / 4 * 4 + 1 = j by omega] at v1
      rw [hu] at v1
      rw [show off + j = off + j / 4 * 4 + 1 by omega, c1, v1]
    · rw [show j / 4 * 4 + 2 = j by omega] at v2
      rw [hu] at v2
      rw [show off + j = off + j / 4 * 4 + 2 by omega, c2, v2]
    · rw [show j / 4 * 4 + 3 = j by omega] at v3
      rw [hu] at v3
      rw [show off + j = off + j / 4 * 4 + 3 by omega, c3, v3]

end Go.Proofs.Ytkjojhkpoooimaa

/-! A function is copied: l7CopyFunc. -/
namespace Go.Proofs.Ytkjojhkpoooimaa
open Go.RowKit

end Go.Proofs.Ytkjojhkpoooimaa

/-! The contract of chapter 7's specification: FuncOf. -/
namespace Go.Proofs.Ytkjojhkpoooimaa
open Go.RowKit

def foundB (p : Pk) (s : List UInt8) : Bool := pkgB p && decide (0 ≤ atV p.2.2 s)
def foundV (p : Pk) (s : List UInt8) : Fn := if foundB p s = true then p.2.2.getD (atV p.2.2 s).toNat fn0 else fn0

/-- What FuncOf holds while it finds one. -/
structure FoSt (X w : World) (D : Nat) (nm : List UInt8) (ia : Option Addr) (il ic : Nat) (b off fl fc : Nat) (ims : List (List UInt8)) (fs : List Fn) (j : Nat) (s : List UInt8) (n : Int) (t : List Nd) (ta : Option Addr) (tl tc : Nat) : Prop where
  p : PkIn X D nm ia il ic (some ⟨b, off, none⟩) fl fc ims fs
  c0 : X.cell? ⟨b, off + j * 3, none⟩ = some (.string ⟨s.toArray⟩)
  c1 : X.cell? ⟨b, off + j * 3 + 1, none⟩ = some (.int .i64 n)
  c2 : X.cell? ⟨b, off + j * 3 + 2, none⟩ = some (.slice ta tl tc)
  nodes : NodesIn X ta tl t
  r0 : X.cell? ⟨D + 1, 0, none⟩ = some (.string ⟨#[]⟩)
  r1 : X.cell? ⟨D + 1, 1, none⟩ = some (.int .i64 0)
  r2 : X.cell? ⟨D + 1, 2, none⟩ = some (.slice none 0 0)
  fr : ∀ j, X.frozen? ⟨D + 1, j, none⟩ = false
  b : Below D w X
  bs : D ≤ X.heap.size

theorem FoSt.below {X Y w : World} {D : Nat} {nm : List UInt8} {ia : Option Addr} {il ic : Nat} {b off fl fc : Nat} {ims : List (List UInt8)} {fs : List Fn} {j : Nat} {s : List UInt8} {n : Int} {t : List Nd} {ta : Option Addr} {tl tc : Nat}
    (h : FoSt X w D nm ia il ic b off fl fc ims fs j s n t ta tl tc) (hb : Below X.heap.size X Y) : FoSt Y w D nm ia il ic b off fl fc ims fs j s n t ta tl tc :=
  have hl : b < X.heap.size := World.block_lt_of_cell? X ⟨b, off + j * 3, none⟩ h.c0
  have hr : D + 1 < X.heap.size := World.block_lt_of_cell? X ⟨D + 1, 0, none⟩ h.r0
  ⟨h.p.below hb, (hb.cell (p := ⟨b, off + j * 3, none⟩) hl).trans h.c0, (hb.cell (p := ⟨b, off + j * 3 + 1, none⟩) hl).trans h.c1, (hb.cell (p := ⟨b, off + j * 3 + 2, none⟩) hl).trans h.c2, h.nodes.below hb,
    (hb.cell (p := ⟨D + 1, 0, none⟩) hr).trans h.r0, (hb.cell (p := ⟨D + 1, 1, none⟩) hr).trans h.r1, (hb.cell (p := ⟨D + 1, 2, none⟩) hr).trans h.r2, fun i => (hb.frozen (p := ⟨D + 1, i, none⟩) hr).trans (h.fr i), h.b.trans (hb.mono h.bs), Nat.le_trans h.bs hb.size⟩

theorem FoSt.drew {X w : World} {D : Nat} {nm : List UInt8} {ia : Option Addr} {il ic : Nat} {b off fl fc : Nat} {ims : List (List UInt8)} {fs : List Fn} {j : Nat} {s : List UInt8} {n : Int} {t : List Nd} {ta : Option Addr} {tl tc : Nat}
    (h : FoSt X w D nm ia il ic b off fl fc ims fs j s n t ta tl tc) : FoSt X.drew w D nm ia il ic b off fl fc ims fs j s n t ta tl tc := h.below ⟨rfl, rfl, rfl, Nat.le_refl _, fun _ _ => rfl⟩

/-- Three cells of a block are written. -/
theorem set3 {X : World} {R : Nat} {a0 a1 a2 : Value} (u0 u1 u2 : Value) (r0 : X.cell? ⟨R, 0, none⟩ = some a0) (r1 : X.cell? ⟨R, 1, none⟩ = some a1) (r2 : X.cell? ⟨R, 2, none⟩ = some a2) :
    ∃ Y, ((X.setCell ⟨R, 0, none⟩ u0).setCell ⟨R, 1, none⟩ u1).setCell ⟨R, 2, none⟩ u2 = Y ∧ Y.cell? ⟨R, 0, none⟩ = some u0 ∧ Y.cell? ⟨R, 1, none⟩ = some u1 ∧ Y.cell? ⟨R, 2, none⟩ = some u2 ∧ X.grownBy Y (some R) := by
  refine ⟨_, rfl, ?_, ?_, ?_, ?_⟩
  · exact (World.cell?_setCell_other _ _ _ _ (by simp)).trans ((World.cell?_setCell_other _ _ _ _ (by simp)).trans (World.cell?_setCell_same _ _ _ r0))
  · exact (World.cell?_setCell_other _ _ _ _ (by simp)).trans (World.cell?_setCell_same _ _ _ ((World.cell?_setCell_other _ _ _ _ (by simp)).trans r1))
  · exact World.cell?_setCell_same _ _ _ ((World.cell?_setCell_other _ _ _ _ (by simp)).trans ((World.cell?_setCell_other _ _ _ _ (by simp)).trans r2))
  · exact ((grown_setCell _ _ _ _).trans (grown_setCell _ _ _ _)).trans (grown_setCell _ _ _ _)

/-- A row that is owned above a block does not lie in it. -/
theorem own_off {w : World} {base e size n R : Nat} {v : Value} {xs : List Value} (h : w.ownsRow base e size v n xs) (hR : R < base) : v.ownBlock = none ∨ v.ownBlock ≠ some R := by
  rcases hv : v.ownBlock with _ | k
  · exact Or.inl rfl
  · refine Or.inr (fun e => ?_)
    have := (h.lt k hv).1
    injection e with e
    omega

end Go.Proofs.Ytkjojhkpoooimaa

/-! A package that a call has made: its imports, its functions, their trees, each in a row of its own. -/
namespace Go.Proofs.Ytkjojhkpoooimaa
open Go.RowKit

/-- A function, and where its tree lies. -/
abbrev FV := Fn × Option Addr × Nat
def fvT (x : FV) : Value := .slice x.2.1 x.1.2.2.length x.2.2
def fnsV : List FV → List Value
  | [] => []
  | x :: r => .string ⟨x.1.1.toArray⟩ :: .int .i64 x.1.2.1 :: fvT x :: fnsV r

def fv0 : FV := (fn0, none, 0)

theorem fnsV_append (x y : List FV) : fnsV (x ++ y) = fnsV x ++ fnsV y := by
  induction x with
  | nil => rfl
  | cons n r ih => simp [fnsV, ih]

theorem fnsV_one (xs : List FV) : ∀ u ∈ fnsV xs, u.oneCell' = true := by
  induction xs with
  | nil => intro u hu; cases hu
  | cons n r ih =>
    intro u hu
    simp only [fnsV, List.mem_cons] at hu
    rcases hu with rfl | rfl | rfl | h
    · rfl
    · rfl
    · rfl
    · exact ih u h

theorem fnsV_at (xs : List FV) (j : Nat) (hj : j < xs.length) : (fnsV xs)[j * 3]? = some (.string ⟨(xs.getD j fv0).1.1.toArray⟩) ∧ (fnsV xs)[j * 3 + 1]? = some (.int .i64 (xs.getD j fv0).1.2.1) ∧ (fnsV xs)[j * 3 + 2]? = some (fvT (xs.getD j fv0)) := by
  induction xs generalizing j with
  | nil => simp at hj
  | cons n r ih =>
    cases j with
    | zero => simp [fnsV]
    | succ j =>
      obtain ⟨h0, h1, h2⟩ := ih j (by simpa using hj)
      refine ⟨?_, ?_, ?_⟩
      · rw [show (j + 1) * 3 = j * 3 + 1 + 1 + 1 by omega]; simpa [fnsV] using h0
      · rw [show (j + 1) * 3 + 1 = j * 3 + 1 + 1 + 1 + 1 by omega]; simpa [fnsV] using h1
      · rw [show (j + 1) * 3 + 2 = j * 3 + 2 + 1 + 1 + 1 by omega]; simpa [fnsV] using h2

/-- Rows of elements of two types lie in two blocks. -/
theorem own_types {w : World} {b1 b2 e1 e2 s1 s2 n1 n2 : Nat} {v1 v2 : Value} {xs ys : List Value} (h1 : w.ownsRow b1 e1 s1 v1 n1 xs) (h2 : w.ownsRow b2 e2 s2 v2 n2 ys) (he : e1 ≠ e2) : v1.ownBlock = none ∨ v1.ownBlock ≠ v2.ownBlock := by
  rcases h1.2 with ⟨rfl, _⟩ | ⟨g, c, cur, rfl, _, hg, _⟩
  · exact Or.inl rfl
  · rcases h2.2 with ⟨rfl, _⟩ | ⟨g2, c2, cur2, rfl, _, hg2, _⟩
    · exact Or.inr (by simp [Value.ownBlock])
    · refine Or.inr (fun e => ?_)
      simp only [Value.ownBlock, Option.some.injEq] at e
      subst e
      rw [hg] at hg2
      simp only [Option.some.injEq, Obj.cells.injEq] at hg2
      exact he hg2.2.1

structure FnsOwn (w : World) (base : Nat) (v : Value) (xs : List FV) : Prop where
  row : w.ownsRow base 31 3 v xs.length (fnsV xs)
  trees : ∀ x ∈ xs, w.ownsRow base 28 4 (fvT x) x.1.2.2.length (nodesV x.1.2.2)

theorem FnsOwn.below {w w' : World} {base : Nat} {v : Value} {xs : List FV} (h : FnsOwn w base v xs) (hb : Below w.heap.size w w') : FnsOwn w' base v xs := ⟨own_below h.row hb, fun x hx => own_below (h.trees x hx) hb⟩

theorem FnsOwn.kept {w w' : World} {base : Nat} {v : Value} {xs : List FV} {row : Option Nat} (h : FnsOwn w base v xs) (hg : w.grownBy w' row) (h1 : v.ownBlock = none ∨ v.ownBlock ≠ row) (h2 : ∀ x ∈ xs, (fvT x).ownBlock = none ∨ (fvT x).ownBlock ≠ row) : FnsOwn w' base v xs :=
  ⟨h.row.kept hg h1, fun x hx => (h.trees x hx).kept hg (h2 x hx)⟩

theorem FnsOwn.base {w : World} {base b2 : Nat} {v : Value} {xs : List FV} (h : FnsOwn w base v xs) (hb : b2 ≤ base) : FnsOwn w b2 v xs := ⟨own_base h.row hb, fun x hx => own_base (h.trees x hx) hb⟩

theorem FnsOwn.nil (w : World) (base : Nat) : FnsOwn w base (.slice none 0 0) [] := ⟨World.ownsRow_nil w _ _ _, fun x hx => by cases hx⟩

theorem getD_map_fn (xs : List FV) (j : Nat) : (xs.map (·.1)).getD j fn0 = (xs.getD j fv0).1 := by
  rw [List.getD_eq_getElem?_getD, List.getD_eq_getElem?_getD, List.getElem?_map]
  cases xs[j]? <;> rfl

/-- What is owned can be read. -/
theorem FnsOwn.in {w : World} {base : Nat} {v : Value} {xs : List FV} (h : FnsOwn w base v xs) : ∃ a cap, v = .slice a xs.length cap ∧ (a = none → cap = 0) ∧ FuncsIn w a xs.length (xs.map (·.1)) := by
  rcases own_forms h.row with ⟨rfl, h0, _⟩ | ⟨g, cp, rfl⟩
  · exact ⟨none, 0, by rw [h0], fun _ => rfl, by simp, fun j hj => by omega⟩
  · refine ⟨some ⟨g, 0, none⟩, cp, rfl, fun e => (by cases e), by simp, fun j hj => ?_⟩
    obtain ⟨v0, v1, v2⟩ := fnsV_at xs j hj
    have hc := fun k (hk : k < xs.length * 3) => World.ownsRow.cellAt h.row k hk
    have hmem : xs.getD j fv0 ∈ xs := by rw [List.getD_eq_getElem?_getD, List.getElem?_eq_getElem hj]; exact List.getElem_mem hj
    obtain ⟨hl, a, cap, e, hn⟩ := own_nodes (h.trees _ hmem)
    refine ⟨g, 0, rfl, (h.row.lt g rfl).2, ?_, ?_, (xs.getD j fv0).2.1, (xs.getD j fv0).1.2.2.length, (xs.getD j fv0).2.2, ?_, ?_, ?_⟩
    · rw [Nat.zero_add, hc _ (by omega), v0, getD_map_fn]
    · rw [Nat.zero_add, hc _ (by omega), v1, getD_map_fn]
    · rw [Nat.zero_add, hc _ (by omega), v2]; rfl
    · intro e2
      rcases own_forms (h.trees _ hmem) with ⟨e3, _⟩ | ⟨g3, cp3, e3⟩
      · unfold fvT at e3; injection e3
      · unfold fvT at e3; rw [e2] at e3; injection e3 with e4; cases e4
    · rw [getD_map_fn]
      unfold fvT at e
      injection e with e1 e2 e3
      rw [e1]; exact hn

theorem infoFunc : (Try.prog.info? 31).map (fun i => (i.zero, i.size, i.bytes)) = some (some (.agg #[.string ⟨#[]⟩, .int .i64 0, .slice none 0 0]), 3, 48) := by kernel_rfl

/-- A new block of one function, as 'append' reads it. -/
theorem new_fn (w : World) (x : FV) (c : Nat) : Src (w.alloc (.cells #[.string ⟨x.1.1.toArray⟩, .int .i64 x.1.2.1, fvT x] 31)) (.slice (some ⟨w.heap.size, 0, none⟩) 1 c) 1 3 (fnsV [x]) := by
  refine ⟨rfl, fnsV_one _, Or.inr ⟨_, c, rfl, fun j u hu => ?_⟩⟩
  rw [add_plain, Nat.zero_add]
  match j, hu with
  | 0, hu => simp [fnsV] at hu; subst hu; simp
  | 1, hu => simp [fnsV] at hu; subst hu; simp
  | 2, hu => simp [fnsV] at hu; subst hu; simp
  | j + 3, hu => simp [fnsV] at hu

/-- What ReadPackage holds: the package so far (at P), the answer's zero cells (at D), the lines (at gL). All that was made since lies from B on. -/
structure RdSt (X w : World) (D P B gL : Nat) (ls : List (List UInt8)) (nm : List UInt8) (ims : List (List UInt8)) (xs : List FV) (ia : Option Addr) (ic : Nat) (fa : Option Addr) (fc : Nat) : Prop where
  p0 : X.cell? ⟨P, 0, none⟩ = some (.string ⟨nm.toArray⟩)
  p1 : X.cell? ⟨P, 1, none⟩ = some (.slice ia ims.length ic)
  p2 : X.cell? ⟨P, 2, none⟩ = some (.slice fa xs.length fc)
  pf : ∀ j, X.frozen? ⟨P, j, none⟩ = false
  r0 : X.cell? ⟨D, 0, none⟩ = some (.string ⟨#[]⟩)
  r1 : X.cell? ⟨D, 1, none⟩ = some (.slice none 0 0)
  r2 : X.cell? ⟨D, 2, none⟩ = some (.slice none 0 0)
  rf : ∀ j, X.frozen? ⟨D, j, none⟩ = false
  lines : ∀ j, j < ls.length → X.cell? ⟨gL, j, none⟩ = some (.string ⟨(ls.getD j []).toArray⟩)
  oi : X.ownsRow B 9 1 (.slice ia ims.length ic) ims.length (strV ims)
  fo : FnsOwn X B (.slice fa xs.length fc) xs
  dp : D < P
  gd : gL ≠ D
  gp : gL ≠ P
  db : D < B
  pb : P < B
  gb : gL < B
  b : Below D w X
  bs : B ≤ X.heap.size

section
variable {X Y w : World} {D P B gL : Nat} {ls : List (List UInt8)} {nm : List UInt8} {ims : List (List UInt8)} {xs : List FV} {ia : Option Addr} {ic : Nat} {fa : Option Addr} {fc : Nat}

/-- Whatever leaves the blocks below B and the rows alone. -/
theorem RdSt.grown {row : Option Nat} (h : RdSt X w D P B gL ls nm ims xs ia ic fa fc) (hg : X.grownBy Y row) (hrow : ∀ k, row = some k → B ≤ k):
    (∀ k, k < B → Y.heap[k]? = X.heap[k]?) ∧ Below D w Y ∧ B ≤ Y.heap.size := by
  have hk : ∀ k, k < B → Y.heap[k]? = X.heap[k]? := fun k hk => hg.block k (Nat.lt_of_lt_of_le hk h.bs) (fun e => by have := hrow k e.symm; omega)
  exact ⟨hk, h.b.grown hg (Nat.le_trans (Nat.le_of_lt h.db) h.bs) (fun k e => Nat.le_trans (Nat.le_of_lt h.db) (hrow k e)), Nat.le_trans h.bs hg.size⟩

theorem RdSt.below (h : RdSt X w D P B gL ls nm ims xs ia ic fa fc) (hb : Below X.heap.size X Y) : RdSt Y w D P B gL ls nm ims xs ia ic fa fc :=
  have hp : P < X.heap.size := Nat.lt_of_lt_of_le h.pb h.bs
  have hd : D < X.heap.size := Nat.lt_of_lt_of_le h.db h.bs
  have hg : gL < X.heap.size := Nat.lt_of_lt_of_le h.gb h.bs
  ⟨(hb.cell (p := ⟨P, 0, none⟩) hp).trans h.p0, (hb.cell (p := ⟨P, 1, none⟩) hp).trans h.p1, (hb.cell (p := ⟨P, 2, none⟩) hp).trans h.p2, fun j => (hb.frozen (p := ⟨P, j, none⟩) hp).trans (h.pf j),
   (hb.cell (p := ⟨D, 0, none⟩) hd).trans h.r0, (hb.cell (p := ⟨D, 1, none⟩) hd).trans h.r1, (hb.cell (p := ⟨D, 2, none⟩) hd).trans h.r2, fun j => (hb.frozen (p := ⟨D, j, none⟩) hd).trans (h.rf j),
   fun j hj => (hb.cell (p := ⟨gL, j, none⟩) hg).trans (h.lines j hj), own_below h.oi hb, h.fo.below hb, h.dp, h.gd, h.gp, h.db, h.pb, h.gb, h.b.trans (hb.mono (Nat.le_of_lt hd)), Nat.le_trans h.bs hb.size⟩

theorem RdSt.drew (h : RdSt X w D P B gL ls nm ims xs ia ic fa fc) : RdSt X.drew w D P B gL ls nm ims xs ia ic fa fc := h.below ⟨rfl, rfl, rfl, Nat.le_refl _, fun _ _ => rfl⟩

/-- Its functions. -/
theorem RdSt.fn1 (h : RdSt X w D P B gL ls nm ims xs ia ic fa fc) (hk : ∀ k, k < B → Y.heap[k]? = X.heap[k]?) (hb : Below D w Y) (hbs : B ≤ Y.heap.size) {xs' : List FV} {fa' : Option Addr} {fc' : Nat} (oi : Y.ownsRow B 9 1 (.slice ia ims.length ic) ims.length (strV ims)) (fo : FnsOwn Y B (.slice fa' xs'.length fc') xs') : RdSt (Y.setCell ⟨P, 2, none⟩ (.slice fa' xs'.length fc')) w D P B gL ls nm ims xs' ia ic fa' fc' := by
  have hg := grown_set Y P 2 (.slice fa' xs'.length fc')
  have off : ∀ {e size n : Nat} {v : Value} {ys : List Value}, Y.ownsRow B e size v n ys → v.ownBlock = none ∨ v.ownBlock ≠ some P := fun ho => own_off ho h.pb
  have hoth : ∀ (q : Addr), q.block ≠ P → q.block < B → (Y.setCell ⟨P, 2, none⟩ (.slice fa' xs'.length fc')).cell? q = X.cell? q := fun q hq hqb => (World.cell?_setCell_other _ _ _ _ (fun e => hq (by rw [← e]))).trans (World.cell?_of_block (hk _ hqb))
  have hdp : D ≠ P := Nat.ne_of_lt h.dp
  have hfz : ∀ (q : Addr), q.block < B → (Y.setCell ⟨P, 2, none⟩ (.slice fa' xs'.length fc')).frozen? q = X.frozen? q := fun q hqb => (World.frozen?_setCell ..).trans (World.frozen?_of_block (hk _ hqb))
  have hp : ∀ j, Y.cell? ⟨P, j, none⟩ = X.cell? ⟨P, j, none⟩ := fun j => World.cell?_of_block (hk _ h.pb)
  exact ⟨(World.cell?_setCell_other _ _ _ _ (by simp)).trans ((hp 0).trans h.p0), (World.cell?_setCell_other _ _ _ _ (by simp)).trans ((hp 1).trans h.p1), World.cell?_setCell_same _ _ _ ((hp 2).trans h.p2), fun j => (hfz ⟨P, j, none⟩ h.pb).trans (h.pf j), (hoth _ hdp h.db).trans h.r0, (hoth _ hdp h.db).trans h.r1, (hoth _ hdp h.db).trans h.r2, fun j => (hfz ⟨D, j, none⟩ h.db).trans (h.rf j),
    fun j hj => (hoth ⟨gL, j, none⟩ h.gp h.gb).trans (h.lines j hj), oi.kept hg (off oi), fo.kept hg (off fo.row) (fun y hy => off (fo.trees y hy)), h.dp, h.gd, h.gp, h.db, h.pb, h.gb, hb.grown hg (Nat.le_trans (Nat.le_of_lt h.db) hbs) (fun k e => by injection e with e; have := h.dp; omega), by simpa using hbs⟩

theorem RdSt.func (h : RdSt X w D P B gL ls nm ims xs ia ic fa fc) (y : FV) (hy : X.ownsRow B 28 4 (fvT y) y.1.2.2.length (nodesV y.1.2.2)) (hn : xs.length ≤ 1048576) :
    ∃ g' c' Y, (Builtin.append_ #[32, 32] 32 #[.slice fa xs.length fc, .slice (some ⟨X.heap.size, 0, none⟩) 1 1]).run Try.prog (X.alloc (.cells #[.string ⟨y.1.1.toArray⟩, .int .i64 y.1.2.1, fvT y] 31)) = .ok (.slice (some ⟨g', 0, none⟩) (xs.length + 1) c') Y ∧
      Y.cell? ⟨P, 2, none⟩ = some (.slice fa xs.length fc) ∧ (∀ j, Y.frozen? ⟨P, j, none⟩ = false) ∧ RdSt (Y.setCell ⟨P, 2, none⟩ (.slice (some ⟨g', 0, none⟩) (xs.length + 1) c')) w D P B gL ls nm ims (xs ++ [y]) ia ic (some ⟨g', 0, none⟩) c' := by
  obtain ⟨i0, hi, hz0, hz1, hz2⟩ := info_parts infoFunc
  have hX1 : Below X.heap.size X (X.alloc (.cells #[.string ⟨y.1.1.toArray⟩, .int .i64 y.1.2.1, fvT y] 31)) := (Below.refl _ _).alloc (Nat.le_refl _) _
  have h1 := h.below hX1
  have hy1 := own_below hy hX1
  obtain ⟨v', Y, hrun, hown, hg, _⟩ := run_append_src (P := Try.prog) (X.alloc (.cells #[.string ⟨y.1.1.toArray⟩, .int .i64 y.1.2.1, fvT y] 31)) B 32 32 31 i0 _ 3 48 Try.underlying32 hi hz0 hz1 hz2 rfl (by decide) _ _ _ h1.fo.row _ 1 (fnsV [y]) (new_fn X y 1) (by unfold maxLen; omega) (by omega) h1.bs
  obtain ⟨g', c', rfl⟩ := own_some hown (by omega)
  obtain ⟨hk, hb, hbs⟩ := h1.grown hg (fun k e => (h1.fo.row.lt k e).1)
  have e1 : (xs ++ [y]).length = xs.length + 1 := by simp
  have hown2 : Y.ownsRow B 31 3 (.slice (some ⟨g', 0, none⟩) (xs ++ [y]).length c') (xs ++ [y]).length (fnsV (xs ++ [y])) := by
    rw [e1, fnsV_append]; exact hown
  have htr : ∀ z ∈ xs ++ [y], Y.ownsRow B 28 4 (fvT z) z.1.2.2.length (nodesV z.1.2.2) := fun z hz => by
    rw [List.mem_append, List.mem_singleton] at hz
    rcases hz with hz | rfl
    · exact (h1.fo.trees z hz).kept hg (own_types (h1.fo.trees z hz) h1.fo.row (by decide))
    · exact hy1.kept hg (own_types hy1 h1.fo.row (by decide))
  have hoi := h1.oi.kept hg (own_types h1.oi h1.fo.row (by decide))
  have hz := h1.fn1 hk hb hbs hoi (⟨hown2, htr⟩ : FnsOwn Y B _ (xs ++ [y]))
  refine ⟨g', c', Y, hrun, (World.cell?_of_block (a := ⟨P, 2, none⟩) (hk _ h1.pb)).trans h1.p2, fun j => (World.frozen?_of_block (a := ⟨P, j, none⟩) (hk _ h1.pb)).trans (h1.pf j), ?_⟩
  rw [e1] at hz
  exact hz
end

end Go.Proofs.Ytkjojhkpoooimaa
