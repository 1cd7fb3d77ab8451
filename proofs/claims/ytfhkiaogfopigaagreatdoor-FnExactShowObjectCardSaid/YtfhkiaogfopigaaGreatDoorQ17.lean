/-
  Parts of one proof, one behind the other: ObS2, RegT, ImgR, ImgQ.
-/
import Derived.Test.YtfhkiaogfopigaaGreatDoorQ16
import Derived.Test.YtfhkiaogfopigaaGreatDoorQ13
import Derived.Test.YtfhkiaogfopigaaGreatDoorQ1
import Derived.Deep.RegionHeld
import Derived.RegionTactic
import Derived.Test.YtfhkiaogfopigaaGreatDoorQ14
import Derived.Test.YtfhkiaogfopigaaGreatDoorQ7
import Derived.Test.YtfhkiaogfopigaaGreatDoorQ4
import Derived.BigQuiet
import Derived.Test.YtfhkiaogfopigaaGreatDoorQ8
import Derived.Test.YtfhkiaogfopigaaGreatDoorQ2
import Derived.Maps.AppendAt

/-! The contracts of chapter 15's specification: l15Show, ShowObject. -/
namespace Go.Proofs.YtfhkiaogfopigaaGreatDoor
open Go.RowKit

/-- What l15Show has so far. -/
def obHd (nm : List UInt8) (ims : List (List UInt8)) : List UInt8 := objLn nm ++ [10] ++ termJ (ims.map impLn)
theorem obHd_take (nm : List UInt8) (ims : List (List UInt8)) (k : Nat) (hk : k < ims.length) : obHd nm (ims.take (k + 1)) = obHd nm (ims.take k) ++ [105, 109, 112, 111, 114, 116, 32] ++ ims.getD k [] ++ [10] := by
  have e : ims.getD k [] = ims[k] := by rw [List.getD_eq_getElem?_getD, List.getElem?_eq_getElem hk]; rfl
  unfold obHd
  rw [e, List.take_succ_eq_append_getElem hk, List.map_append, termJ_appR]
  simp [termJ, impLn, kwImport]
theorem obHd_le (nm : List UInt8) (ims : List (List UInt8)) (rs : List Rt) (k : Nat) : (obHd nm (ims.take k)).length ≤ (showO (nm, ims, rs)).length := by
  have h := congrArg List.length (termJ_appR ((ims.take k).map impLn) ((ims.drop k).map impLn))
  rw [← List.map_append, List.take_append_drop, List.length_append] at h
  rw [showO_eq]
  unfold obHd
  simp only [List.length_append]
  omega

set_option maxHeartbeats 4000000 in
set_option maxRecDepth 100000 in
theorem specShowO (nm : List UInt8) (ia : Option Addr) (il ic : Nat) (fa : Option Addr) (fl fc : Nat) (ims : List (List UInt8)) (rs : List Rt) (w : World) (hi : TextsIn w ia il ims) (hf : RtsIn w fa fl rs) (hp : objB (nm, ims, rs) = true) :
    Calls Tryz.prog 41 #[.agg #[.string ⟨nm.toArray⟩, .slice ia il ic, .slice fa fl fc]] w fun e w' => e = .returned (.string ⟨(showO (nm, ims, rs)).toArray⟩) ∧ Below w.heap.size w w' := by
  obtain rfl : rs.length = fl := hf.1
  obtain rfl : ims.length = il := hi.1
  have hlen := showO_len hp
  have hP := objB_parts hp
  have hnm := (name_letters hP.nm).1.2
  have him := obj_imn hp
  simp only at hnm him
  obtain ⟨W, hW⟩ : ∃ W, w.alloc (.cells #[.string ⟨nm.toArray⟩, .slice ia ims.length ic, .slice fa rs.length fc] 43) = W := ⟨_, rfl⟩
  obtain ⟨st, hB⟩ := ObIn.new (w := w) (nm := nm) (ic := ic) (fc := fc) hi hf
  rw [hW] at st hB
  obtain ⟨D, hD⟩ : ∃ D, w.heap.size = D := ⟨_, rfl⟩
  rw [hD] at st
  have k0 := st.k0
  have k1 := st.k1
  have k2 := st.k2
  have HST : Hid (ObIn W D nm ia ims.length ic fa rs.length fc ims rs) := st
  have HB : Hid (Below w.heap.size w W) := hB
  have hl8 : rs.length ≤ 64 := by have := hP.l; simp only at this; omega
  have HSh : Hid (∀ Z, Below W.heap.size W Z → Calls Tryz.prog 27 #[.slice fa rs.length fc] Z fun e w' => e = .returned (.string ⟨(showI rs).toArray⟩) ∧ Below Z.heap.size Z w') := fun Z hz => specShowIR fa rs.length fc rs Z (st.below hz).f (obj_rts hp) hl8
  have e1 : ∀ X : World, (Op.stringOp .add ⟨#[111, 98, 106, 101, 99, 116, 32]⟩ ⟨nm.toArray⟩).run Tryz.prog X = .ok (.string ⟨(objLn nm).toArray⟩) X := fun X => run_string_add_lists (P := Tryz.prog) X [111, 98, 106, 101, 99, 116, 32] nm (by simp) (by omega)
  have e2 : ∀ X : World, (Op.stringOp .add ⟨(objLn nm).toArray⟩ ⟨#[10]⟩).run Tryz.prog X = .ok (.string ⟨(objLn nm ++ [10]).toArray⟩) X := fun X => run_string_add_lists (P := Tryz.prog) X (objLn nm) [10] (by unfold objLn kwObject; simp; omega) (by simp)
  have HH0 : Hid (objLn nm ++ [10] = obHd nm (ims.take 0)) := by exact (by simp [obHd, termJ] : objLn nm ++ [10] = obHd nm (ims.take 0))
  have HTk : Hid (∀ k, k < ims.length → obHd nm (ims.take (k + 1)) = obHd nm (ims.take k) ++ [105, 109, 112, 111, 114, 116, 32] ++ ims.getD k [] ++ [10]) := fun k hk => obHd_take nm ims k hk
  have HLe : Hid (∀ k, (obHd nm (ims.take k)).length ≤ 100000) := fun k => Nat.le_trans (obHd_le nm ims rs k) hlen
  have HNI : Hid (∀ j, (ims.getD j []).length ≤ 8) := fun j => by
    by_cases hj : j < ims.length
    · have hm : ims.getD j [] ∈ ims := by rw [List.getD_eq_getElem?_getD, List.getElem?_eq_getElem hj]; exact List.getElem_mem hj
      exact (name_letters (him.2 _ hm)).1.2
    · rw [List.getD_eq_getElem?_getD, List.getElem?_eq_none (by omega)]; simp
  have HEq : Hid (showO (nm, ims, rs) = obHd nm ims ++ showI rs) := showO_eq (nm, ims, rs)
  have HSL : Hid ((showO (nm, ims, rs)).length ≤ 100000) := hlen
  generalize showO (nm, ims, rs) = out at HEq HSL ⊢
  have hi6 : ims.length ≤ 6 := him.1
  obtain ⟨nr, hnr⟩ : ∃ nr, rs.length = nr := ⟨_, rfl⟩
  rw [hnr] at HSh HST k2 hW ⊢
  clear hl8
  generalize showI rs = tail at HSh HEq
  clear hi hf hp hlen hP hB st him hnr
  go_enter Tryz.func41, Tryz.ntmps41
  go_wp2
  clear e1 e2 k0
  go_loopw [3, 4] (fun sv iv wr => ∃ k : Nat, k ≤ ims.length ∧ iv = .int .i64 (k : Int) ∧ sv = .string ⟨(obHd nm (ims.take k)).toArray⟩ ∧ Hid (Below W.heap.size W wr)) (fun _ i _ => ims.length - (intOf i).toNat)
  case atStart => exact ⟨0, Nat.zero_le _, rfl, by rw [HH0.out], Below.refl _ _⟩
  case round =>
    obtain ⟨k, hk, rfl, rfl, HBl⟩ := hrel
    have st := HST.out.below HBl.out
    replace k1 := st.k1
    replace k2 := st.k2
    have hle := HLe.out k
    by_cases hkl : (k : Int) < (ims.length : Int)
    · have hk2 : k < ims.length := by omega
      obtain ⟨b, off, rfl, hbl, c0⟩ := st.i.2 k hk2
      have htk := HTk.out k hk2
      have hxl := HNI.out k
      have hle2 := HLe.out (k + 1)
      obtain ⟨x, hx⟩ : ∃ x, ims.getD k [] = x := ⟨_, rfl⟩
      rw [hx] at c0 htk hxl
      rw [htk] at hle2
      obtain ⟨a, ha⟩ : ∃ a, obHd nm (ims.take k) = a := ⟨_, rfl⟩
      rw [ha] at htk hle hle2 ⊢
      have e3 : ∀ X : World, (Op.stringOp .add ⟨a.toArray⟩ ⟨#[105, 109, 112, 111, 114, 116, 32]⟩).run Tryz.prog X = .ok (.string ⟨(a ++ [105, 109, 112, 111, 114, 116, 32]).toArray⟩) X := fun X => run_string_add_lists (P := Tryz.prog) X a [105, 109, 112, 111, 114, 116, 32] (by omega) (by simp)
      obtain ⟨a2, ha2⟩ : ∃ a2, a ++ [105, 109, 112, 111, 114, 116, 32] = a2 := ⟨_, rfl⟩
      have hl2 : a2.length ≤ 100007 := by rw [← ha2, List.length_append]; simp; omega
      rw [ha2] at e3 htk
      have e4 : ∀ X : World, (Op.stringOp .add ⟨a2.toArray⟩ ⟨x.toArray⟩).run Tryz.prog X = .ok (.string ⟨(a2 ++ x).toArray⟩) X := fun X => run_string_add_lists (P := Tryz.prog) X a2 x (by omega) (by omega)
      obtain ⟨a3, ha3⟩ : ∃ a3, a2 ++ x = a3 := ⟨_, rfl⟩
      have hl3 : a3.length ≤ 100015 := by rw [← ha3, List.length_append]; omega
      rw [ha3] at e4 htk
      have e5 : ∀ X : World, (Op.stringOp .add ⟨a3.toArray⟩ ⟨#[10]⟩).run Tryz.prog X = .ok (.string ⟨(a3 ++ [10]).toArray⟩) X := fun X => run_string_add_lists (P := Tryz.prog) X a3 [10] (by omega) (by simp)
      have HTK : Hid (obHd nm (ims.take (k + 1)) = a3 ++ [10]) := htk
      clear htk hle hle2 hx hxl ha ha2 ha3 st k2
      go_wp2
      go_roundw
      case rel => exact ⟨k + 1, by omega, by go_num, by rw [HTK.out], HBl⟩
      case measure => simp [intOf]; omega
    · obtain rfl : k = ims.length := by omega
      rw [List.take_of_length_le (Nat.le_refl _)] at hle ⊢
      have hsl := HSL.out
      rw [HEq.out] at hsl
      obtain ⟨a, ha⟩ : ∃ a, obHd nm ims = a := ⟨_, rfl⟩
      have HE2 : Hid (out = a ++ tail) := by exact (by rw [HEq.out, ha] : out = a ++ tail)
      rw [ha] at hle hsl ⊢
      rw [List.length_append] at hsl
      have e6 : ∀ X : World, (Op.stringOp .add ⟨a.toArray⟩ ⟨tail.toArray⟩).run Tryz.prog X = .ok (.string ⟨(a ++ tail).toArray⟩) X := fun X => run_string_add_lists (P := Tryz.prog) X a tail (by omega) (by omega)
      clear ha hle hsl st
      go_wp2_with fail
      refine Calls.mono (HSh.out _ HBl.out) ?_
      rintro e w5 ⟨rfl, hb5⟩
      have HF : Hid (Below w.heap.size w w5) := HB.out.trans ((HBl.out.trans (hb5.mono HBl.out.size)).mono HB.out.size)
      clear hb5
      go_wp2
      go_ret
      exact ⟨by rw [HE2.out]; rfl, by first | exact HF.out | exact hD ▸ HF.out⟩

set_option maxHeartbeats 2000000 in
set_option maxRecDepth 100000 in
theorem specShowObject (nm : List UInt8) (ia : Option Addr) (il ic : Nat) (fa : Option Addr) (fl fc : Nat) (ims : List (List UInt8)) (rs : List Rt) (w : World) (hi : TextsIn w ia il ims) (hf : RtsIn w fa fl rs) (hil : il ≤ 1048576) (hfl : fl ≤ 1048576) (hnl : nm.length ≤ 1048576) (his : ∀ i, (ims.getD i []).length ≤ 1048576) (hfs : ShortR rs) :
    Calls Tryz.prog 17 #[.agg #[.string ⟨nm.toArray⟩, .slice ia il ic, .slice fa fl fc]] w fun e w' => e = .returned (.string ⟨(showOb (nm, ims, rs)).toArray⟩) ∧ Below w.heap.size w w' := by
  obtain ⟨W, hW⟩ : ∃ W, w.alloc (.cells #[.string ⟨nm.toArray⟩, .slice ia il ic, .slice fa fl fc] 43) = W := ⟨_, rfl⟩
  obtain ⟨st, hB⟩ := ObIn.new (w := w) (nm := nm) (ic := ic) (fc := fc) hi hf
  rw [hW] at st hB
  obtain ⟨D, hD⟩ : ∃ D, w.heap.size = D := ⟨_, rfl⟩
  rw [hD] at st
  have HST : Hid (∀ Z, Below W.heap.size W Z → ObIn Z D nm ia il ic fa fl fc ims rs) := fun Z hz => st.below hz
  have HB : Hid (∀ Z, Below W.heap.size W Z → Below w.heap.size w Z) := fun Z hz => hB.trans (hz.mono hB.size)
  have HC : Hid (_) := specObjectOk nm ia il ic fa fl fc ims rs W st.i st.f hil hfl hnl his hfs
  have k0 := st.k0
  have k1 := st.k1
  have k2 := st.k2
  rcases hp : objB (nm, ims, rs) with _ | _
  · have HS : Hid (showOb (nm, ims, rs) = []) := obj_not hp
    rw [hp] at HC
    clear hp hi hf hfs his st hB
    go_enter Tryz.func17, Tryz.ntmps17
    go_wp2_with fail
    refine Calls.mono HC.out ?_
    rintro e w1 ⟨rfl, hb1⟩
    have HF := HB.out _ hb1
    clear hb1
    go_wp2
    go_ret
    exact ⟨by rw [HS.out]; rfl, by first | exact HF | exact hD ▸ HF⟩
  · have HS : Hid (showOb (nm, ims, rs) = showO (nm, ims, rs)) := if_pos hp
    have HSh : Hid (∀ Z, Below W.heap.size W Z → Calls Tryz.prog 41 #[.agg #[.string ⟨nm.toArray⟩, .slice ia il ic, .slice fa fl fc]] Z fun e w' => e = .returned (.string ⟨(showO (nm, ims, rs)).toArray⟩) ∧ Below Z.heap.size Z w') := fun Z hz => specShowO nm ia il ic fa fl fc ims rs Z (HST.out Z hz).i (HST.out Z hz).f hp
    rw [hp] at HC
    clear hp hi hf hfs his st hB
    go_enter Tryz.func17, Tryz.ntmps17
    go_wp2_with fail
    refine Calls.mono HC.out ?_
    rintro e w1 ⟨rfl, hb1⟩
    replace k0 := (HST.out _ hb1).k0
    replace k1 := (HST.out _ hb1).k1
    replace k2 := (HST.out _ hb1).k2
    go_wp2_with fail
    refine Calls.mono (HSh.out _ hb1) ?_
    rintro e w2 ⟨rfl, hb2⟩
    have HF := HB.out _ (hb1.trans (hb2.mono hb1.size))
    clear hb1 hb2
    go_wp2
    go_ret
    exact ⟨by rw [HS.out]; rfl, by first | exact HF | exact hD ▸ HF⟩

end Go.Proofs.YtfhkiaogfopigaaGreatDoor

/-! A region that draws its order and stores, at its end, into a cell that it has read: what is held of the world is asked for behind every operation but those of E, which wait for all that is taken first. -/
namespace Go.Proofs.YtfhkiaogfopigaaGreatDoor
open Go.RowKit

section
variable {P : Program} {ops : Array Oper} {Q : Exit → Act → World → Prop} {md : Region.Mode} {S : World → Prop} {E : List Nat}

/-- Whatever comes up next, and so on to the end; S holds behind each that is not of E. -/
def Till (P : Program) (md : Region.Mode) (ops : Array Oper) (Q : Exit → Act → World → Prop) (E : List Nat) (S : World → Prop) : Nat → Array Bool → Act → World → Prop
  | 0 => fun listed a w => Region.ready md ops listed = [] ∧ Q .normal a w
  | k + 1 => fun listed a w => (Region.ready md ops listed = [] → Q .normal a w) ∧
      ∀ i, i ∈ Region.ready md ops listed → wpOp P ops Q i (fun b v => (i ∉ E → S v) ∧ Till P md ops Q E S k (listed.setIfInBounds i true) b v) a w

theorem Till.any : ∀ (k : Nat) {listed : Array Bool} {a : Act} {w : World}, Till P md ops Q E S k listed a w → wpAny P md ops Q k listed a w
  | 0, _, _, _, h => h
  | k + 1, _, _, _, h => ⟨h.1, fun i hi => wpOp_mono (fun _ _ x => Till.any k x.2) (h.2 i hi)⟩
theorem Till.done {listed : Array Bool} {a : Act} {w : World} (hr : Region.ready md ops listed = []) (h : Q .normal a w) : ∀ k, Till P md ops Q E S k listed a w
  | 0 => ⟨hr, h⟩
  | _ + 1 => ⟨fun _ => h, fun i hi => by rw [hr] at hi; cases hi⟩

/-- What has come up has come behind all that it waits for. -/
def Shut11 (md : Region.Mode) (ops : Array Oper) (listed : Array Bool) : Prop := ∀ j o, ops[j]? = some o → listed.getD j false = true → ∀ e ∈ o.after, Region.binds md e = true → listed.getD e.on false = true
theorem Shut11.start (n : Nat) : Shut11 md ops (Array.replicate n false) := fun j o _ h => by
  rw [Array.getD_eq_getD_getElem?] at h
  simp only [Array.getElem?_replicate] at h
  split at h <;> cases h
theorem Shut11.set {listed : Array Bool} {i : Nat} (h : Shut11 md ops listed) (hi : i ∈ Region.ready md ops listed) : Shut11 md ops (listed.setIfInBounds i true) := fun j o ho hj e he hb => by
  refine getD_set_true ?_
  rcases Nat.decEq i j with hne | heq
  · rw [getD_set_ne false hne] at hj
    exact h j o ho hj e he hb
  · subst heq
    obtain ⟨_, p, hp, hall⟩ := mem_ready.1 hi
    rw [ho] at hp
    injection hp with hp
    subst hp
    exact hall e he hb
/-- m waits for i, by way of others. -/
def waitsB (md : Region.Mode) (ops : Array Oper) : Nat → Nat → Nat → Bool
  | 0, _, _ => false
  | k + 1, m, i => match ops[m]? with
    | some o => o.after.any (fun e => Region.binds md e && (e.on == i || waitsB md ops k e.on i))
    | none => false
theorem waits_listed {listed : Array Bool} (h : Shut11 md ops listed) {i : Nat} : ∀ (k m : Nat), (∀ o, ops[m]? = some o → ∀ e ∈ o.after, Region.binds md e = true → listed.getD e.on false = true) → waitsB md ops k m i = true → listed.getD i false = true
  | 0, _, _, hw => by cases hw
  | k + 1, m, hd, hw => by
    unfold waitsB at hw
    cases ho : ops[m]? with
    | none => rw [ho] at hw; cases hw
    | some o =>
      rw [ho] at hw
      simp only [Array.any_eq_true'] at hw
      obtain ⟨e, he, h2⟩ := hw
      rw [Bool.and_eq_true, Bool.or_eq_true] at h2
      have hl := hd o ho e he h2.1
      rcases h2.2 with h3 | h3
      · rw [← beq_iff_eq.1 h3]; exact hl
      · exact waits_listed h k e.on (fun p hp f hf hb => h e.on p hp hl f hf hb) h3

/-- One that may come up, and for which all of E wait, is taken first. -/
theorem Till.first {i : Nat} {o : Oper} {v : Value} {d : Nat} (ho : ops[i]? = some o) (hE : E.all (fun m => waitsB md ops d m i) = true) (hsel : ∀ (j : Nat) (p : Oper) cs b, ops[j]? = some p → p.op ≠ .select cs b)
    (hQ : ∀ c a w, Q (.panic c) (a.put o.dst v) w → Q (.panic c) a w) : ∀ (k : Nat) (listed : Array Bool) (a : Act) (w : World), Shut11 md ops listed →
      (∀ j p, ops[j]? = some p → j ≠ i → listed.getD j true = false → (∀ e ∈ p.after, Region.binds md e = true → e.on ≠ i) → o.apart ops p = true) →
      i ∈ Region.ready md ops listed → YieldsIf P ops S o v a → S w →
      Till P md ops Q E S k (listed.setIfInBounds i true) (a.put o.dst v) w → Till P md ops Q E S (k + 1) listed a w := by
  intro k
  induction k with
  | zero =>
    intro listed a w hsh hfree hr hy hS H
    refine ⟨fun h => (by rw [h] at hr; cases hr), fun j hj => ?_⟩
    rcases Nat.decEq j i with hne | heq
    · have hji : j ∈ Region.ready md ops (listed.setIfInBounds i true) := ready_mono hj hne
      rw [H.1] at hji
      cases hji
    · subst heq
      exact hy.wpOp ho hS ⟨fun _ => hS, H⟩
  | succ k ih =>
    intro listed a w hsh hfree hr hy hS H
    refine ⟨fun h => (by rw [h] at hr; cases hr), fun j hj => ?_⟩
    rcases Nat.decEq j i with hne | heq
    · have hji : j ∈ Region.ready md ops (listed.setIfInBounds i true) := ready_mono hj hne
      obtain ⟨hun, p, hp, hall⟩ := mem_ready.1 hj
      have h0 : listed.getD i true = false := (mem_ready.1 hr).1
      have h0f : listed.getD i false = false := by
        rcases Nat.lt_or_ge i listed.size with hl | hl
        · simp [hl] at h0 ⊢; exact h0
        · simp [Array.getElem?_eq_none hl] at h0
      have hnot : ∀ e ∈ p.after, Region.binds md e = true → e.on ≠ i := fun e he hb hei => by
        have h1 := hall e he hb
        rw [hei, h0f] at h1
        cases h1
      have hjE : j ∉ E := fun hjE => by
        have h1 := waits_listed hsh d j (fun q hq e he hb => by rw [hp] at hq; injection hq with hq; subst hq; exact hall e he hb) (List.all_eq_true.1 hE j hjE)
        rw [h0f] at h1
        cases h1
      have h2 := wpOp_putIf hp (hfree j p hp hne hun hnot) (fun cs b => hsel i o cs b ho) (fun cs b => hsel j p cs b hp) hQ hy (H.2 j hji)
      have hfree' : ∀ q r, ops[q]? = some r → q ≠ i → (listed.setIfInBounds j true).getD q true = false → (∀ e ∈ r.after, Region.binds md e = true → e.on ≠ i) → o.apart ops r = true := fun q r hq hqi hqu hqn => by
        refine hfree q r hq hqi ?_ hqn
        rcases Nat.decEq j q with hjq | hjq
        · rw [getD_set_ne true hjq] at hqu; exact hqu
        · subst hjq; exact hun
      refine wpOp_mono (fun b u h3 => ⟨h3.2.1, ih (listed.setIfInBounds j true) b u (hsh.set hj) hfree' (ready_mono hr (Ne.symm hne)) h3.1 (h3.2.1 hjE) ?_⟩) h2
      rw [Array.setIfInBounds_comm _ _ hne]
      exact h3.2.2
    · subst heq
      exact hy.wpOp ho hS ⟨fun _ => hS, H⟩

/-! The moves of a walk. -/
theorem Till.region {id : Nat} {a : Act} {w : World} (hm : P.follows .mixedOrders = true) (hS : S w.drew) (h : S w.drew → Shut11 .any ops (Array.replicate ops.size false) → Till P .any ops Q E S ops.size (Array.replicate ops.size false) a w.drew) : (Code.region id ops true).wp P Q a w :=
  wp_region_any hm (Till.any _ (h hS (Shut11.start _)))
theorem Till.take {i : Nat} {o : Oper} {v : Value} {d k : Nat} {listed : Array Bool} {a : Act} {w : World} (ho : ops[i]? = some o) (hs : Region.noSelect ops = true) (hf : Region.free md ops listed i = true) (hr : (Region.ready md ops listed).contains i = true) (hE : E.all (fun m => waitsB md ops d m i) = true)
    (hQ : ∀ c a w, Q (.panic c) (a.put o.dst v) w → Q (.panic c) a w) (hy : YieldsIf P ops S o v a) (hS : S w) (hsh : Shut11 md ops listed)
    (h : Shut11 md ops (listed.setIfInBounds i true) → Till P md ops Q E S k (listed.setIfInBounds i true) (a.put o.dst v) w) : Till P md ops Q E S (k + 1) listed a w :=
  Till.first ho hE (Region.noSelect_spec hs) hQ k listed a w hsh (Region.free_spec ho hf) (by simpa using hr) hy hS (h (hsh.set (by simpa using hr)))
theorem Till.one {i : Nat} {o : Oper} {k : Nat} {listed : Array Bool} {a : Act} {w : World} (hr : Region.ready md ops listed = [i]) (ho : ops[i]? = some o) (hsh : Shut11 md ops listed)
    (h : ∀ K' : Act → World → Prop, Shut (∀ b v, S v → (S v → Shut11 md ops (listed.setIfInBounds i true) → Till P md ops Q E S k (listed.setIfInBounds i true) b v) → K' b v) → if Region.wanted o (yielded ops a.tmps) = true then Oper.wp P o a w K' Q else K' (a.put o.dst undef) w) : Till P md ops Q E S (k + 1) listed a w := by
  have hi : i ∈ Region.ready md ops listed := by rw [hr]; exact List.mem_singleton_self i
  refine ⟨fun h0 => (by rw [h0] at hi; cases hi), fun j hj => ?_⟩
  rw [hr] at hj
  obtain rfl := List.mem_singleton.1 hj
  exact wpOp_step ho (fun K' hK => h K' (fun b v hS hW => hK b v ⟨fun _ => hS, hW hS (hsh.set hi)⟩))
theorem Till.last {i : Nat} {o : Oper} {k : Nat} {listed : Array Bool} {a : Act} {w : World} (hr : Region.ready md ops listed = [i]) (ho : ops[i]? = some o) (hiE : i ∈ E)
    (h : ∀ K' : Act → World → Prop, Shut (∀ b v, Till P md ops Q E S k (listed.setIfInBounds i true) b v → K' b v) → if Region.wanted o (yielded ops a.tmps) = true then Oper.wp P o a w K' Q else K' (a.put o.dst undef) w) : Till P md ops Q E S (k + 1) listed a w := by
  have hi : i ∈ Region.ready md ops listed := by rw [hr]; exact List.mem_singleton_self i
  refine ⟨fun h0 => (by rw [h0] at hi; cases hi), fun j hj => ?_⟩
  rw [hr] at hj
  obtain rfl := List.mem_singleton.1 hj
  exact wpOp_step ho (fun K' hK => h K' (fun b v hW => hK b v ⟨fun hn => absurd hiE hn, hW⟩))
end

theorem step_of_wp {P : Program} {ops : Array Oper} {o : Oper} {a : Act} {w : World} {K : Act → World → Prop} {Q : Exit → Act → World → Prop} {E : Prop} (hgd : o.guard = none) (h : Oper.wp P o a w K Q) :
    if Region.wanted o (yielded ops a.tmps) = true then Oper.wp P o a w K Q else E := by
  rw [if_pos (by simp [Region.wanted, hgd])]
  exact h

end Go.Proofs.YtfhkiaogfopigaaGreatDoor

/-! How an image runs, as the specification's walk holds it: the run's block, its row of registers, one instruction. -/
namespace Go.Proofs.YtfhkiaogfopigaaGreatDoor
open Go.RowKit

section
variable {rs : List Rt} {m k : Nat} {xs row row2 : List Int} {p p2 : Int}
end
section
variable {rs : List Rt} {k p : Nat} {xs row : List Int} {i : In13}
end
end Go.Proofs.YtfhkiaogfopigaaGreatDoor

/-! What reading an image holds: the routines so far, and the instruction that is being read. -/
namespace Go.Proofs.YtfhkiaogfopigaaGreatDoor
open Go.RowKit

theorem readI_at (O : List Rt) (ls : List (List UInt8)) (k : Nat) (hk : k < ls.length) : readI O (ls.drop k) =
    if (splitL 32 (ls.getD k [])).length = 4 ∧ (splitL 32 (ls.getD k [])).getD 0 [] = kwRt then readI (O ++ [((splitL 32 (ls.getD k [])).getD 1 [], readV ((splitL 32 (ls.getD k [])).getD 2 []), [])]) (ls.drop (k + 1))
    else if (splitL 32 (ls.getD k [])).length ≠ 5 ∨ O = [] then []
    else readI (addI O (insRd (splitL 32 (ls.getD k [])))) (ls.drop (k + 1)) := by
  have e : ls.getD k [] = ls[k] := by rw [List.getD_eq_getElem?_getD, List.getElem?_eq_getElem hk]; rfl
  rw [List.drop_eq_getElem_cons hk, e, readI]

theorem mem_flatR {x : List UInt8} : ∀ {ls : List (List UInt8)}, x ∈ ls → x.length ≤ ls.flatten.length
  | y :: r, h => by
    rw [List.flatten_cons, List.length_append]
    rcases List.mem_cons.1 h with rfl | h
    · omega
    · have := mem_flatR h; omega
theorem getD_memR {α : Type} (ls : List α) (j : Nat) (d : α) (hj : j < ls.length) : ls.getD j d ∈ ls := by
  rw [List.getD_eq_getElem?_getD, List.getElem?_eq_getElem hj]; exact List.getElem_mem hj
theorem word_lenR (b : UInt8) (x : List UInt8) (j : Nat) : ((splitL b x).getD j []).length ≤ x.length := by
  by_cases hj : j < (splitL b x).length
  · have h1 := mem_flatR (getD_memR (splitL b x) j [] hj)
    have h2 := splitGo_flat b x []
    unfold splitL at h1 ⊢
    simp at h2
    simp only [List.length_flatten] at h1
    omega
  · rw [List.getD_eq_getElem?_getD, List.getElem?_eq_none (by omega)]; simp
theorem line_lenR (l : List UInt8) (j : Nat) : ((linesL l).getD j []).length ≤ l.length := by
  by_cases hj : j < (linesL l).length
  · have h0 := getD_memR (linesL l) j [] hj
    have hm : (linesL l).getD j [] ∈ splitL 10 l := by
      unfold linesL at h0 ⊢
      split
      · rename_i h; rw [if_pos h] at h0; exact (List.dropLast_sublist _).subset h0
      · rename_i h; rw [if_neg h] at h0; exact h0
    have h1 := mem_flatR hm
    have h2 := splitGo_flat 10 l []
    unfold splitL at h1
    simp at h2
    simp only [List.length_flatten] at h1
    omega
  · rw [List.getD_eq_getElem?_getD, List.getElem?_eq_none (by omega)]; simp

theorem rtsV_set2 (ys : List RV) (nm : List UInt8) (ar : Int) (c c' : List In13) (a a' : Option Addr) (cv cv' : Nat) : (rtsV (ys ++ [((nm, ar, c), a, cv)])).set (ys.length * 3 + 2) (rvT ((nm, ar, c'), a', cv')) = rtsV (ys ++ [((nm, ar, c'), a', cv')]) := by
  rw [rtsV_append, List.set_append_right _ _ (by rw [rtsV_len]; omega), rtsV_len, show ys.length * 3 + 2 - ys.length * 3 = 2 by omega, rtsV_append]
  rfl

/-- Rows of other kinds stay. -/
def KeepR (X Y : World) : Prop := X.heap.size ≤ Y.heap.size ∧ ∀ (e size base n : Nat) (v : Value) (ys : List Value), e ≠ 78 → e ≠ 81 → X.ownsRow base e size v n ys → Y.ownsRow base e size v n ys
theorem KeepR.refl (X : World) : KeepR X X := ⟨Nat.le_refl _, fun _ _ _ _ _ _ _ _ h => h⟩
theorem KeepR.trans {X Y Z : World} (h : KeepR X Y) (k : KeepR Y Z) : KeepR X Z := ⟨Nat.le_trans h.1 k.1, fun e s b n v ys h1 h2 ho => k.2 e s b n v ys h1 h2 (h.2 e s b n v ys h1 h2 ho)⟩
theorem KeepR.below {X Y : World} (hb : Below X.heap.size X Y) : KeepR X Y := ⟨hb.size, fun _ _ _ _ _ _ _ _ ho => own_below ho hb⟩
theorem KeepR.rts {X Y : World} {base n : Nat} {v : Value} {ys : List Value} (h : X.ownsRow base 78 3 v n ys) (hg : X.grownBy Y v.ownBlock) : KeepR X Y := ⟨hg.size, fun _ _ _ _ _ _ h1 _ ho => ho.kept hg (own_typesR ho h h1)⟩
theorem KeepR.ins {X Y : World} {base n : Nat} {v : Value} {ys : List Value} (h : X.ownsRow base 81 5 v n ys) (hg : X.grownBy Y v.ownBlock) : KeepR X Y := ⟨hg.size, fun _ _ _ _ _ _ _ h2 ho => ho.kept hg (own_typesR ho h h2)⟩

/-- The routines so far. -/
structure Rd14 (w X : World) (v : Value) (xs : List RV) : Prop where
  fo : RtsOwn X w.heap.size v xs
  ap : ApartR (xs.map rvT)
  b : Below w.heap.size w X
section
variable {w X Y : World} {v : Value} {xs : List RV}
theorem Rd14.below (h : Rd14 w X v xs) (hb : Below X.heap.size X Y) : Rd14 w Y v xs := ⟨h.fo.below hb, h.ap, h.b.trans (hb.mono h.b.size)⟩
theorem Rd14.drew (h : Rd14 w X v xs) : Rd14 w X.drew v xs := h.below ⟨rfl, rfl, rfl, Nat.le_refl _, fun _ _ => rfl⟩
theorem Rd14.nil (hb : Below w.heap.size w X) : Rd14 w (X.alloc (.cells #[] 78)) (.slice (some ⟨X.heap.size, 0, none⟩) 0 0) [] :=
  ⟨⟨World.ownsRow_lit X #[] 0 hb.size (by decide) rfl, fun x hx => by cases hx⟩, ApartR.nil, hb.alloc hb.size _⟩
theorem Rd14.set (h : Rd14 w X v xs) (N j : Nat) (u : Value) (hN : w.heap.size ≤ N) (hv : v.ownBlock ≠ some N) (ht : ∀ z ∈ xs, (rvT z).ownBlock ≠ some N) : Rd14 w (X.setCell ⟨N, j, none⟩ u) v xs :=
  ⟨h.fo.kept (grown_set X N j u) (Or.inr hv) (fun z hz => Or.inr (ht z hz)), h.ap, h.b.grown (grown_set X N j u) h.b.size (fun k e => by injection e with e; omega)⟩

/-- One more routine. -/
theorem Rd14.rtK {a : Option Addr} {c : Nat} (h : Rd14 w X (.slice a xs.length c) xs) (nm : List UInt8) (ar : Int) (hn : xs.length ≤ 1048576) :
    ∃ g' c' Y, (Builtin.append_ #[27, 27] 27 #[.slice a xs.length c, .slice (some ⟨X.heap.size, 0, none⟩) 1 1]).run Tryz.prog (X.alloc (.cells #[.string ⟨nm.toArray⟩, .int .i64 ar, .slice none 0 0] 78)) = .ok (.slice (some ⟨g', 0, none⟩) (xs.length + 1) c') Y ∧ Rd14 w Y (.slice (some ⟨g', 0, none⟩) (xs.length + 1) c') (xs ++ [((nm, ar, []), none, 0)]) ∧ KeepR X Y := by
  obtain ⟨i0, hi, hz0, hz1, hz2⟩ := info_parts infoRt
  obtain ⟨W, hW⟩ : ∃ W, X.alloc (.cells #[.string ⟨nm.toArray⟩, .int .i64 ar, .slice none 0 0] 78) = W := ⟨_, rfl⟩
  have hsrc := new_rt X ((nm, ar, []), none, 0) 1
  have hr : (rvT ((nm, ar, []), none, 0)) = .slice none 0 0 := rfl
  rw [hr] at hsrc
  simp only at hsrc
  have hrow := h.fo.row.alloc (.cells #[.string ⟨nm.toArray⟩, .int .i64 ar, .slice none 0 0] 78)
  have htr : ∀ x ∈ xs, W.ownsRow w.heap.size 81 5 (rvT x) x.1.2.2.length (insV x.1.2.2) := fun x hx => by rw [← hW]; exact (h.fo.trees x hx).alloc _
  have hbW : Below w.heap.size w W := by rw [← hW]; exact h.b.alloc h.b.size _
  rw [hW] at hsrc hrow ⊢
  obtain ⟨v', Y, hrun, hown, hg, _⟩ := run_append_src (P := Tryz.prog) W w.heap.size 27 27 78 i0 _ 3 48 Tryz.underlying27 hi hz0 hz1 hz2 rfl (by decide) _ _ _ hrow (.slice (some ⟨X.heap.size, 0, none⟩) 1 1) 1 _ hsrc (by unfold maxLen; omega) (by omega) hbW.size
  obtain ⟨g', c', rfl⟩ := own_some hown (by omega)
  rw [← rtsV_append] at hown
  refine ⟨g', c', Y, hrun, ⟨⟨by rw [List.length_append]; exact hown, fun x hx => ?_⟩, ?_, hbW.grown hg hbW.size (fun k e => (hrow.lt k e).1)⟩, (KeepR.below (by rw [← hW]; exact (Below.refl _ _).alloc (Nat.le_refl _) _)).trans (KeepR.rts hrow hg)⟩
  · rcases List.mem_append.1 hx with hx | hx
    · exact (htr x hx).kept hg (own_typesR (htr x hx) hrow (by decide))
    · obtain rfl := List.mem_singleton.1 hx
      exact World.ownsRow_nil _ _ _ _
  · rw [List.map_append]
    refine h.ap.snoc (fun u _ => ?_)
    cases hu : u.ownBlock with
    | none => exact Or.inl rfl
    | some k => exact Or.inr (by simp [rvT, Value.ownBlock])

theorem Rd14.rt {a : Option Addr} {c : Nat} (h : Rd14 w X (.slice a xs.length c) xs) (nm : List UInt8) (ar : Int) (hn : xs.length ≤ 1048576) :
    ∃ g' c' Y, (Builtin.append_ #[27, 27] 27 #[.slice a xs.length c, .slice (some ⟨X.heap.size, 0, none⟩) 1 1]).run Tryz.prog (X.alloc (.cells #[.string ⟨nm.toArray⟩, .int .i64 ar, .slice none 0 0] 78)) = .ok (.slice (some ⟨g', 0, none⟩) (xs.length + 1) c') Y ∧ Rd14 w Y (.slice (some ⟨g', 0, none⟩) (xs.length + 1) c') (xs ++ [((nm, ar, []), none, 0)]) := by
  obtain ⟨g', c', Y, h1, h2, _⟩ := h.rtK nm ar hn
  exact ⟨g', c', Y, h1, h2⟩

theorem Rd14.code {gO c : Nat} {ys : List RV} {nm : List UInt8} {ar : Int} {code : List In13} {av : Option Addr} {cv : Nat} (h : Rd14 w X (.slice (some ⟨gO, 0, none⟩) (ys.length + 1) c) (ys ++ [((nm, ar, code), av, cv)])) : X.cell? ⟨gO, ys.length * 3 + 2, none⟩ = some (.slice av code.length cv) := by
  have hr := h.fo.row
  rw [show (ys ++ [((nm, ar, code), av, cv)]).length = ys.length + 1 by simp] at hr
  rw [hr.cellAt (ys.length * 3 + 2) (by omega), rtsV_append, List.getElem?_append_right (by rw [rtsV_len]; omega), rtsV_len, show ys.length * 3 + 2 - ys.length * 3 = 2 by omega]
  rfl
/-- One more instruction in the last routine's code. -/
theorem Rd14.insK {gO c : Nat} {ys : List RV} {nm : List UInt8} {ar : Int} {code : List In13} {av : Option Addr} {cv : Nat} (i : In13)
    (h : Rd14 w X (.slice (some ⟨gO, 0, none⟩) (ys.length + 1) c) (ys ++ [((nm, ar, code), av, cv)])) (hn : code.length ≤ 1048576) :
    ∃ g' c' Y, (Builtin.append_ #[76, 76] 76 #[.slice av code.length cv, .slice (some ⟨X.heap.size, 0, none⟩) 1 1]).run Tryz.prog (X.alloc (.cells #[.int .i64 i.1, .int .i64 i.2.1, .int .i64 i.2.2.1, .int .i64 i.2.2.2.1, .string ⟨i.2.2.2.2.toArray⟩] 81)) = .ok (.slice (some ⟨g', 0, none⟩) (code.length + 1) c') Y ∧
      Y.cell? ⟨gO, ys.length * 3 + 2, none⟩ = some (.slice av code.length cv) ∧ Y.frozen? ⟨gO, ys.length * 3 + 2, none⟩ = false ∧
      Rd14 w (Y.setCell ⟨gO, ys.length * 3 + 2, none⟩ (.slice (some ⟨g', 0, none⟩) (code.length + 1) c')) (.slice (some ⟨gO, 0, none⟩) (ys.length + 1) c) (ys ++ [((nm, ar, code ++ [i]), some ⟨g', 0, none⟩, c')]) ∧
      KeepR X (Y.setCell ⟨gO, ys.length * 3 + 2, none⟩ (.slice (some ⟨g', 0, none⟩) (code.length + 1) c')) := by
  obtain ⟨i0, hi, hz0, hz1, hz2⟩ := info_parts infoIns
  have hT : X.ownsRow w.heap.size 81 5 (.slice av code.length cv) code.length (insV code) := h.fo.trees ((nm, ar, code), av, cv) (by simp)
  obtain ⟨W, hW⟩ : ∃ W, X.alloc (.cells #[.int .i64 i.1, .int .i64 i.2.1, .int .i64 i.2.2.1, .int .i64 i.2.2.2.1, .string ⟨i.2.2.2.2.toArray⟩] 81) = W := ⟨_, rfl⟩
  have hTW : W.ownsRow w.heap.size 81 5 (.slice av code.length cv) code.length (insV code) := by rw [← hW]; exact hT.alloc _
  have hsW : W.heap.size = X.heap.size + 1 := by rw [← hW]; simp
  have hnew := new_ins X i
  have hgW : X.grownBy W (Value.slice av code.length cv).ownBlock := by rw [← hW]; exact World.grownBy_alloc X _ _
  rw [hW] at hnew ⊢
  obtain ⟨v', Y, hrun, hown, hg, _, hat⟩ := run_append_own_at (P := Tryz.prog) W w.heap.size 76 76 81 i0 _ 5 48 Tryz.underlying76 hi hz0 hz1 hz2 rfl (by decide) _ _ _ hTW ⟨X.heap.size, 0, none⟩ 1 1 (insV [i]) rfl hnew (insV_one _) (by unfold maxLen; omega) (by omega) (by have := h.b.size; omega)
  obtain ⟨g', c', rfl⟩ := own_some hown (by omega)
  rw [← insV_append] at hown
  have hgX : X.grownBy Y (Value.slice av code.length cv).ownBlock := hgW.trans hg
  have hrowX := h.fo.row
  have hrowY := hrowX.kept hgX (own_typesR hrowX hT (by decide))
  have hl : (ys ++ [((nm, ar, code), av, cv)]).length = ys.length + 1 := by simp
  rw [hl] at hrowY
  have hcY : Y.cell? ⟨gO, ys.length * 3 + 2, none⟩ = some (.slice av code.length cv) := by
    rw [hrowY.cellAt (ys.length * 3 + 2) (by omega), rtsV_append, List.getElem?_append_right (by rw [rtsV_len]; omega), rtsV_len, show ys.length * 3 + 2 - ys.length * 3 = 2 by omega]
    rfl
  have hs := hrowY.stored (ys.length * 3 + 2) (.slice (some ⟨g', 0, none⟩) (code.length + 1) c')
  have hsv : Value.slice (some ⟨g', 0, none⟩) (code.length + 1) c' = rvT ((nm, ar, code ++ [i]), some ⟨g', 0, none⟩, c') := by unfold rvT; simp
  have hset := rtsV_set2 ys nm ar code (code ++ [i]) av (some ⟨g', 0, none⟩) cv c'
  rw [← hsv] at hset
  rw [hset] at hs
  have hap := h.ap
  rw [List.map_append] at hap
  have hap2 := List.pairwise_append.1 hap
  have hne : ∀ z ∈ ys, (rvT z).ownBlock = none ∨ (rvT z).ownBlock ≠ (Value.slice av code.length cv).ownBlock := fun z hz => hap2.2.2 (rvT z) (List.mem_map.2 ⟨z, hz, rfl⟩) _ (by simp [rvT])
  have hgo : (Value.slice (some ⟨gO, 0, none⟩) (ys.length + 1) c).ownBlock = some gO := rfl
  refine ⟨g', c', Y, hrun, hcY, hrowY.frozenAt _, ⟨⟨?_, fun z hz => ?_⟩, ?_, ?_⟩, (KeepR.ins hT hgX).trans (KeepR.rts hrowY hs.2)⟩
  · rw [List.length_append]; exact hs.1
  · rcases List.mem_append.1 hz with hz | hz
    · have h1 := (h.fo.trees z (List.mem_append.2 (Or.inl hz))).kept hgX (hne z hz)
      exact h1.kept hs.2 (own_typesR h1 hrowY (by decide))
    · obtain rfl := List.mem_singleton.1 hz
      have h1 := hown.kept hs.2 (own_typesR hown hrowY (by decide))
      rw [← hsv]
      simpa using h1
  · rw [List.map_append]
    refine ApartR.snoc hap2.1 (fun u hu => ?_)
    obtain ⟨z, hz, rfl⟩ := List.mem_map.1 hu
    rw [← hsv]
    rcases hat with e | e
    · rw [e]; exact hne z hz
    · rw [e]
      cases hzb : (rvT z).ownBlock with
      | none => exact Or.inl rfl
      | some q =>
        have := ((h.fo.trees z (List.mem_append.2 (Or.inl hz))).lt q hzb).2
        exact Or.inr (by intro e2; injection e2 with e2; omega)
  · have hb1 := h.b.grown hgX h.b.size (fun k e => (hT.lt k e).1)
    exact hb1.grown hs.2 hb1.size (fun k e => (hrowX.lt k e).1)
theorem Rd14.ins {gO c : Nat} {ys : List RV} {nm : List UInt8} {ar : Int} {code : List In13} {av : Option Addr} {cv : Nat} (i : In13)
    (h : Rd14 w X (.slice (some ⟨gO, 0, none⟩) (ys.length + 1) c) (ys ++ [((nm, ar, code), av, cv)])) (hn : code.length ≤ 1048576) :
    ∃ g' c' Y, (Builtin.append_ #[76, 76] 76 #[.slice av code.length cv, .slice (some ⟨X.heap.size, 0, none⟩) 1 1]).run Tryz.prog (X.alloc (.cells #[.int .i64 i.1, .int .i64 i.2.1, .int .i64 i.2.2.1, .int .i64 i.2.2.2.1, .string ⟨i.2.2.2.2.toArray⟩] 81)) = .ok (.slice (some ⟨g', 0, none⟩) (code.length + 1) c') Y ∧
      Y.cell? ⟨gO, ys.length * 3 + 2, none⟩ = some (.slice av code.length cv) ∧ Y.frozen? ⟨gO, ys.length * 3 + 2, none⟩ = false ∧
      Rd14 w (Y.setCell ⟨gO, ys.length * 3 + 2, none⟩ (.slice (some ⟨g', 0, none⟩) (code.length + 1) c')) (.slice (some ⟨gO, 0, none⟩) (ys.length + 1) c) (ys ++ [((nm, ar, code ++ [i]), some ⟨g', 0, none⟩, c')]) := by
  obtain ⟨g', c', Y, h1, h2, h3, h4, _⟩ := h.insK i hn
  exact ⟨g', c', Y, h1, h2, h3, h4⟩
end

/-- The instruction that is being read: its block N; its words lie in g2. -/
structure Bi14 (w X : World) (v : Value) (xs : List RV) (N g2 : Nat) (ws : List (List UInt8)) (i : In13) : Prop where
  rd : Rd14 w X v xs
  blk : X.heap[N]? = some (.cells #[.int .i64 i.1, .int .i64 i.2.1, .int .i64 i.2.2.1, .int .i64 i.2.2.2.1, .string ⟨i.2.2.2.2.toArray⟩] 81 (0, 0))
  cw : ∀ j, j < ws.length → X.cell? ⟨g2, j, none⟩ = some (.string ⟨(ws.getD j []).toArray⟩)
  wN : w.heap.size ≤ N
  ov : v.ownBlock ≠ some N
  ot : ∀ z ∈ xs, (rvT z).ownBlock ≠ some N
  gN : g2 ≠ N
section
variable {w X Y : World} {v : Value} {xs : List RV} {N g2 : Nat} {ws : List (List UInt8)} {i i' : In13}
theorem Bi14.c0 (h : Bi14 w X v xs N g2 ws i) : X.cell? ⟨N, 0, none⟩ = some (.int .i64 i.1) := by rw [cell_of_row _ _ _ _ _ _ h.blk]; rfl
theorem Bi14.c1 (h : Bi14 w X v xs N g2 ws i) : X.cell? ⟨N, 1, none⟩ = some (.int .i64 i.2.1) := by rw [cell_of_row _ _ _ _ _ _ h.blk]; rfl
theorem Bi14.c2 (h : Bi14 w X v xs N g2 ws i) : X.cell? ⟨N, 2, none⟩ = some (.int .i64 i.2.2.1) := by rw [cell_of_row _ _ _ _ _ _ h.blk]; rfl
theorem Bi14.c3 (h : Bi14 w X v xs N g2 ws i) : X.cell? ⟨N, 3, none⟩ = some (.int .i64 i.2.2.2.1) := by rw [cell_of_row _ _ _ _ _ _ h.blk]; rfl
theorem Bi14.c4 (h : Bi14 w X v xs N g2 ws i) : X.cell? ⟨N, 4, none⟩ = some (.string ⟨i.2.2.2.2.toArray⟩) := by rw [cell_of_row _ _ _ _ _ _ h.blk]; rfl
theorem Bi14.fz (h : Bi14 w X v xs N g2 ws i) (j : Nat) : X.frozen? ⟨N, j, none⟩ = false := frozen_of_row _ _ _ _ _ h.blk
theorem Bi14.new (h : Rd14 w X v xs) (hc : ∀ j, j < ws.length → X.cell? ⟨g2, j, none⟩ = some (.string ⟨(ws.getD j []).toArray⟩)) (hg : g2 < X.heap.size) (i : In13) :
    Bi14 w (X.alloc (.cells #[.int .i64 i.1, .int .i64 i.2.1, .int .i64 i.2.2.1, .int .i64 i.2.2.2.1, .string ⟨i.2.2.2.2.toArray⟩] 81)) v xs X.heap.size g2 ws i := by
  have hb : Below X.heap.size X (X.alloc (.cells #[.int .i64 i.1, .int .i64 i.2.1, .int .i64 i.2.2.1, .int .i64 i.2.2.2.1, .string ⟨i.2.2.2.2.toArray⟩] 81)) := (Below.refl _ _).alloc (Nat.le_refl _) _
  exact ⟨h.below hb, heap_alloc_new X _, fun j hj => (hb.cell (p := ⟨g2, j, none⟩) hg).trans (hc j hj), h.b.size, fun e => by have := (h.fo.row.lt _ e).2; omega, fun z hz e => by have := ((h.fo.trees z hz).lt _ e).2; omega, Nat.ne_of_lt hg⟩
theorem Bi14.set (h : Bi14 w X v xs N g2 ws i) (j : Nat) (u : Value) (hv : (#[.int .i64 i.1, .int .i64 i.2.1, .int .i64 i.2.2.1, .int .i64 i.2.2.2.1, .string ⟨i.2.2.2.2.toArray⟩] : Array Value).setIfInBounds j u = #[.int .i64 i'.1, .int .i64 i'.2.1, .int .i64 i'.2.2.1, .int .i64 i'.2.2.2.1, .string ⟨i'.2.2.2.2.toArray⟩]) : Bi14 w (X.setCell ⟨N, j, none⟩ u) v xs N g2 ws i' :=
  ⟨h.rd.set N j u h.wN h.ov h.ot, by rw [heap_setCell_same _ _ _ _ _ _ h.blk, hv], fun q hq => (World.cell?_setCell_other _ _ _ _ (fun e => h.gN (by injection e with e; exact e.symm))).trans (h.cw q hq), h.wN, h.ov, h.ot, h.gN⟩
end

end Go.Proofs.YtfhkiaogfopigaaGreatDoor
