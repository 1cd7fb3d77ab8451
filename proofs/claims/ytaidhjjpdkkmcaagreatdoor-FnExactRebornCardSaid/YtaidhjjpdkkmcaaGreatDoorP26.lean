/-
  Parts of one proof, one behind the other: FltL, FltM.
-/
import Derived.Test.YtaidhjjpdkkmcaaGreatDoorP25

/-! The contract of chapter 9's landed code: what is wrong in a project. -/
namespace Go.Proofs.YtaidhjjpdkkmcaaGreatDoor
open Go.RowKit

/-- What is wrong in a project. -/
def PrIs (er : Nat → Addr) (v : Value) (F : Flt) : Prop := (F = (0, [], []) ∧ v = .nilIface) ∨ (F = (6, [], []) ∧ v = .iface 258 (.pointer (some (er 0)))) ∨
 ∃ c p g k, F = (c, p, g) ∧ KindIs c k ∧ v = .iface 134 (.agg #[.string ⟨p.toArray⟩, .string ⟨g.toArray⟩, .iface 258 (.pointer (some (er k)))])
theorem flt_step {ps : List Pk} (hpj : projB ps = true) {al : List Nat} (hall : nmsAt ps al = ord9 ps) (hlt : ∀ x ∈ al, x < ps.length) (dn : Nat) {j : Nat} (hj : j < al.length) :
 fltGo ps dn ((ord9 ps).drop j) j = match pk9 ps dn j (ps.getD (al.getD j 0) pk0) with
  | some f => some f
  | none => fltGo ps dn ((ord9 ps).drop (j + 1)) (j + 1) := by
 have hl : j < (ord9 ps).length := by rw [← hall]; simpa [nmsAt] using hj
 rw [fltGo_drop hl]
 have e1 : (ord9 ps).getD j [] = nmAt ps (al.getD j 0) := by rw [← hall]; simp [nmsAt, List.getD, hj]
 rw [e1, pkOf_nm (projB_parts hpj).1.nodup (hlt _ (getD_mem_n hj))]
 generalize pk9 ps dn j (ps.getD (al.getD j 0) pk0) = o
 cases o <;> rfl

set_option maxHeartbeats 8000000 in
set_option maxRecDepth 100000 in
theorem implProjectWrong (a : Option Addr) (len cap : Nat) (ps : List Pk) (er : Nat → Addr) (w : World) (hE : Err8 w er) (h : PkgsOk w a len cap ps) :
 Calls Tryz.prog 105 #[.slice a len cap] w fun e w' => ∃ v, e = .returned v ∧ PrIs er v (faultV ps) ∧ Below w.heap.size w w' := by
 obtain rfl : ps.length = len := h.hlen
 obtain ⟨F9v, hF9⟩ : ∃ f, faultV ps = f := ⟨_, rfl⟩
 have HF : Hid (F9v = if projB ps = true then fault9 ps else (6, [], [])) := hF9.symm
 have HPj : Hid (_) := implProjectOk a ps.length cap ps w h
 have hsm := h.small
 rw [hF9]
 clear hF9
 rcases hpj : projB ps with _ | _
 ·
  have HR : Hid (F9v = (6, [], [])) := HF.out.trans (if_neg (by rw [hpj]; decide))
  rw [hpj] at HPj
  have HEr : Hid (Err8 w er) := hE
  clear HF hpj h hE
  go_enter Tryz.func105, Tryz.ntmps105
  go_wp2_with fail
  refine Calls.mono HPj.out ?_
  rintro e w1 ⟨rfl, hb1⟩
  have g0 := (HEr.out.below hb1).four.told
  unfold sentV at g0
  go_wp2
  go_ret
  exact ⟨_, rfl, Or.inr (Or.inl ⟨HR.out, rfl⟩), hb1⟩
 ·
  have HF2 : Hid (F9v = fault9 ps) := HF.out.trans (if_pos hpj)
  have hn8 : ps.length ≤ 8 := (projB_parts hpj).2.1.2
  have HOr : Hid (∀ Z, PkgsOk Z a ps.length cap ps → _) := fun Z hz => implPlacesInOrder a ps.length cap ps Z hz hpj
  have HMn : Hid (∀ Z, PkgsOk Z a ps.length cap ps → _) := fun Z hz => implHasMain a ps.length cap ps Z hz
  have HPw : Hid (∀ (Z : World) (f : Nat) (lo : Bool) (dn i : Nat), lo = decide (dn ≤ i) → Err8 Z er → PkgsOk Z a ps.length cap ps → f < ps.length → _) := fun Z f lo dn i h1 h2 h3 h4 => implPackageWrong a ps.length cap ps f lo dn i h1 er Z h2 h3 h4
  have HSt : Hid (∀ (al : List Nat), nmsAt ps al = ord9 ps → (∀ x ∈ al, x < ps.length) → ∀ (dn j : Nat), j < al.length → _) := fun al h1 h2 dn j h3 => flt_step hpj h1 h2 dn h3
  have HNm : Hid (∀ out, nmsAt ps out = order8 ps → (∀ x ∈ out, x < ps.length) → nmsAt ps (all9 out ps.length) = ord9 ps) := fun out h1 h2 => all9_names hpj h1 h2
  have HI : Hid (PkgsOk w a ps.length cap ps) := h
  have HEr : Hid (Err8 w er) := hE
  rw [hpj] at HPj
  clear HF hpj h hE
  go_enter Tryz.func105, Tryz.ntmps105
  go_wp2_with fail
  refine Calls.mono HPj.out ?_
  rintro e w1 ⟨rfl, hb1⟩
  have HB1 : Hid (Below w.heap.size w w1) := hb1
  clear hb1 HPj
  go_wp2_with fail
  refine Calls.mono (HOr.out _ (HI.out.below HB1.out)) ?_
  rintro e w2 ⟨v2, rfl, out, ho2, hnm, hlt, hl8, hb2⟩
  have HB2 : Hid (Below w.heap.size w w2) := HB1.out.trans (hb2.mono HB1.out.size)
  have HWl : Hid (_) := implWithLeft w1.heap.size v2 out ps.length w2 ho2 hl8 hn8
  obtain ⟨oa, oc, rfl, -⟩ := own_nats ho2 rfl
  have HLt : Hid (∀ x ∈ all9 out ps.length, x < ps.length) := all9_lt hlt
  have HNa : Hid (nmsAt ps (all9 out ps.length) = ord9 ps) := HNm.out out hnm hlt
  have hdn : (order8 ps).length = out.length := by rw [← hnm]; simp [nmsAt]
  have HF3 : Hid (F9v = match fltGo ps out.length ((ord9 ps).drop 0) 0 with | some f => f | none => main9 ps) := by
   exact (by rw [HF2.out]; unfold fault9; rw [hdn]; rfl : F9v = match fltGo ps out.length ((ord9 ps).drop 0) 0 with | some f => f | none => main9 ps)
  have HStp : Hid (∀ j, j < (all9 out ps.length).length → _) := fun j hj => HSt.out (all9 out ps.length) HNa.out HLt.out out.length j hj
  have hal := all9_len out ps.length
  have HAl : Hid (nmsAt ps (all9 out ps.length) = ord9 ps) := HNa
  obtain ⟨al, hale⟩ : ∃ al, all9 out ps.length = al := ⟨_, rfl⟩
  rw [hale] at HWl HLt HStp hal HAl
  clear hnm hlt ho2 hb2 HOr HSt HNm HF2 hdn HNa hale HB1
  go_wp2_with fail
  refine Calls.mono HWl.out ?_
  rintro e V ⟨v3, rfl, ho3, hb3⟩
  obtain ⟨pa, pc, rfl, hin⟩ := own_nats ho3 rfl
  have HZ : Hid (∀ Z, Below V.heap.size V Z → NatsIn Z pa al.length al ∧ Err8 Z er ∧ PkgsOk Z a ps.length cap ps ∧ Below w.heap.size w Z) := fun Z hz =>
   have hb := HB2.out.trans (hb3.mono HB2.out.size)
   have hbz := hb.trans (hz.mono hb.size)
   ⟨hin.below hz, HEr.out.below hbz, HI.out.below hbz, hbz⟩
  have HB : Hid (Below V.heap.size V V) := Below.refl _ _
  clear ho3 hb3 hin HWl HI HEr HB2
  go_wp2
  go_loopw [18] (fun iv wr => ∃ j : Nat, iv = .int .i64 (j : Int) ∧ j ≤ al.length ∧ Hid (F9v = match fltGo ps out.length ((ord9 ps).drop j) j with | some f => f | none => main9 ps) ∧ Hid (Below V.heap.size V wr)) (fun iv _ => al.length - (intOf iv).toNat)
  case atStart => exact ⟨0, rfl, by omega, HF3, HB⟩
  case round =>
   obtain ⟨j, rfl, hj, HA, HBr⟩ := hrel
   clear HF3 HB
   obtain ⟨hin, hEr, hokr, hbw⟩ := HZ.out wr HBr.out
   by_cases hlt : (j : Int) < (al.length : Int)
   ·
    have hj2 : j < al.length := by omega
    obtain ⟨bt, ot, rfl, hbt, k0⟩ := hin.2 j hj2
    have hfx := HLt.out _ (getD_mem_n hj2)
    have hst := HStp.out j hj2
    obtain ⟨f, hf⟩ : ∃ f, al.getD j 0 = f := ⟨_, rfl⟩
    rw [hf] at k0 hfx hst
    have HC : Hid (_) := HPw.out wr f (decide (out.length ≤ j)) out.length j rfl hEr hokr hfx
    obtain ⟨o9, ho9⟩ : ∃ o, pk9 ps out.length j (ps.getD f pk0) = o := ⟨_, rfl⟩
    rw [ho9] at HC hst
    have HSj : Hid (_) := hst
    clear hin hEr hokr hbw hf ho9 hst hfx
    go_wp2_with fail
    refine Calls.mono HC.out ?_
    rintro e w4 ⟨v4, rfl, hv, hb4⟩
    have HB4 : Hid (Below V.heap.size V w4) := HBr.out.trans (hb4.mono HBr.out.size)
    clear hb4 HC HBr k0
    rcases hv with ⟨rfl, rfl⟩ | ⟨c, p, g, ck, rfl, hck, rfl⟩
    ·
     have HA2 : Hid (F9v = match fltGo ps out.length ((ord9 ps).drop (j + 1)) (j + 1) with | some f => f | none => main9 ps) := by
      exact (by rw [HA.out, HSj.out] : F9v = match fltGo ps out.length ((ord9 ps).drop (j + 1)) (j + 1) with | some f => f | none => main9 ps)
     clear HA HSj
     go_wp2
     go_roundw
     case rel => exact ⟨j + 1, by go_num, by omega, HA2, HB4⟩
     case measure => simp [intOf]; omega
    ·
     have HR : Hid (F9v = (c, p, g)) := by exact (by rw [HA.out, HSj.out] : F9v = (c, p, g))
     have HK : Hid (KindIs c ck) := hck
     have HBW : Hid (Below w.heap.size w w4) := (HZ.out w4 HB4.out).2.2.2
     clear HA HSj hck
     go_wp2
     go_ret
     exact ⟨_, rfl, Or.inr (Or.inr ⟨c, p, g, ck, HR.out, HK.out, rfl⟩), HBW.out⟩
   ·
    have hlo : (ord9 ps).length = al.length := by rw [← HAl.out]; simp [nmsAt]
    have HMa : Hid (F9v = main9 ps) := by
     exact (by rw [HA.out, List.drop_of_length_le (by omega)]; rfl : F9v = main9 ps)
    have HC : Hid (_) := HMn.out wr hokr
    clear HA hlo hin hEr hokr hbw
    go_wp2_with fail
    refine Calls.mono HC.out ?_
    rintro e w4 ⟨mb, rfl, hmb, hb4⟩
    have HB4 : Hid (Below V.heap.size V w4) := HBr.out.trans (hb4.mono HBr.out.size)
    have HBW : Hid (Below w.heap.size w w4) := (HZ.out w4 HB4.out).2.2.2
    have gm := (HZ.out w4 HB4.out).2.1.main
    unfold sentV at gm
    clear hb4 HC
    rcases hmb with ⟨rfl, hm9⟩ | ⟨rfl, hm9⟩
    ·
     have HR : Hid (F9v = (0, [], [])) := HMa.out.trans hm9
     clear HMa hm9
     go_wp2
     go_ret
     exact ⟨_, rfl, Or.inl ⟨HR.out, rfl⟩, HBW.out⟩
    ·
     have HR : Hid (F9v = (5, mainT, mainT)) := HMa.out.trans hm9
     clear HMa hm9
     go_wp2
     go_ret
     exact ⟨_, rfl, Or.inr (Or.inr ⟨5, mainT, mainT, 7, HR.out, Or.inr (Or.inr (Or.inr (Or.inr ⟨rfl, rfl⟩))), rfl⟩), HBW.out⟩

end Go.Proofs.YtaidhjjpdkkmcaaGreatDoor

/-! The contracts of chapter 9's landed code: the code of an error. -/
namespace Go.Proofs.YtaidhjjpdkkmcaaGreatDoor
open Go.RowKit

set_option maxHeartbeats 4000000 in
set_option maxRecDepth 100000 in
theorem codeOfCallW1 (p g : List UInt8) (er : Nat → Addr) (w : World) (hE : Err8 w er) :
 Calls Tryz.prog 138 #[.iface 134 (.agg #[.string ⟨p.toArray⟩, .string ⟨g.toArray⟩, .iface 258 (.pointer (some (er 1)))])] w fun e w' => e = .returned (.int .i64 1) ∧ Below w.heap.size w w' := by
 have HE : Hid (Err8 w er) := hE
 have HB : Hid (Below w.heap.size w w) := Below.refl _ _
 clear hE
 go_enter Tryz.func138, Tryz.ntmps138
 have g1 := HE.out.four.far
 unfold sentV at g1
 go_wp2_with fail
 refine Calls.mono (is_wrap_same p g (er 1) _) ?_
 rintro e w1 ⟨rfl, hb1⟩
 replace HB : Hid (Below w.heap.size w w1) := HB.out.trans (hb1.mono HB.out.size)
 replace HE : Hid (Err8 w1 er) := HE.out.below hb1
 clear hb1 g1
 go_wp2
 go_ret
 exact ⟨rfl, HB.out⟩
set_option maxHeartbeats 4000000 in
set_option maxRecDepth 100000 in
theorem codeOfCallW2 (p g : List UInt8) (er : Nat → Addr) (w : World) (hE : Err8 w er) :
 Calls Tryz.prog 138 #[.iface 134 (.agg #[.string ⟨p.toArray⟩, .string ⟨g.toArray⟩, .iface 258 (.pointer (some (er 2)))])] w fun e w' => e = .returned (.int .i64 2) ∧ Below w.heap.size w w' := by
 have HE : Hid (Err8 w er) := hE
 have HB : Hid (Below w.heap.size w w) := Below.refl _ _
 clear hE
 go_enter Tryz.func138, Tryz.ntmps138
 have g1 := HE.out.four.far
 unfold sentV at g1
 go_wp2_with fail
 refine Calls.mono (is_wrap_other p g (er 2) (er 1) _ (HE.out.ne 2 1 (by decide) (by decide) (by decide)) (HE.out.at_ 2 (by decide)) (HE.out.at_ 1 (by decide))) ?_
 rintro e w1 ⟨rfl, hb1⟩
 replace HB : Hid (Below w.heap.size w w1) := HB.out.trans (hb1.mono HB.out.size)
 replace HE : Hid (Err8 w1 er) := HE.out.below hb1
 clear hb1 g1
 have g2 := HE.out.four.func
 unfold sentV at g2
 go_wp2_with fail
 refine Calls.mono (is_wrap_same p g (er 2) _) ?_
 rintro e w2 ⟨rfl, hb2⟩
 replace HB : Hid (Below w.heap.size w w2) := HB.out.trans (hb2.mono HB.out.size)
 replace HE : Hid (Err8 w2 er) := HE.out.below hb2
 clear hb2 g2
 go_wp2
 go_ret
 exact ⟨rfl, HB.out⟩
set_option maxHeartbeats 4000000 in
set_option maxRecDepth 100000 in
theorem codeOfCallW3 (p g : List UInt8) (er : Nat → Addr) (w : World) (hE : Err8 w er) :
 Calls Tryz.prog 138 #[.iface 134 (.agg #[.string ⟨p.toArray⟩, .string ⟨g.toArray⟩, .iface 258 (.pointer (some (er 3)))])] w fun e w' => e = .returned (.int .i64 3) ∧ Below w.heap.size w w' := by
 have HE : Hid (Err8 w er) := hE
 have HB : Hid (Below w.heap.size w w) := Below.refl _ _
 clear hE
 go_enter Tryz.func138, Tryz.ntmps138
 have g1 := HE.out.four.far
 unfold sentV at g1
 go_wp2_with fail
 refine Calls.mono (is_wrap_other p g (er 3) (er 1) _ (HE.out.ne 3 1 (by decide) (by decide) (by decide)) (HE.out.at_ 3 (by decide)) (HE.out.at_ 1 (by decide))) ?_
 rintro e w1 ⟨rfl, hb1⟩
 replace HB : Hid (Below w.heap.size w w1) := HB.out.trans (hb1.mono HB.out.size)
 replace HE : Hid (Err8 w1 er) := HE.out.below hb1
 clear hb1 g1
 have g2 := HE.out.four.func
 unfold sentV at g2
 go_wp2_with fail
 refine Calls.mono (is_wrap_other p g (er 3) (er 2) _ (HE.out.ne 3 2 (by decide) (by decide) (by decide)) (HE.out.at_ 3 (by decide)) (HE.out.at_ 2 (by decide))) ?_
 rintro e w2 ⟨rfl, hb2⟩
 replace HB : Hid (Below w.heap.size w w2) := HB.out.trans (hb2.mono HB.out.size)
 replace HE : Hid (Err8 w2 er) := HE.out.below hb2
 clear hb2 g2
 have g3 := HE.out.four.count
 unfold sentV at g3
 go_wp2_with fail
 refine Calls.mono (is_wrap_same p g (er 3) _) ?_
 rintro e w3 ⟨rfl, hb3⟩
 replace HB : Hid (Below w.heap.size w w3) := HB.out.trans (hb3.mono HB.out.size)
 replace HE : Hid (Err8 w3 er) := HE.out.below hb3
 clear hb3 g3
 go_wp2
 go_ret
 exact ⟨rfl, HB.out⟩
set_option maxHeartbeats 4000000 in
set_option maxRecDepth 100000 in
theorem codeOfFaultW4 (p g : List UInt8) (er : Nat → Addr) (w : World) (hE : Err8 w er) :
 Calls Tryz.prog 106 #[.iface 134 (.agg #[.string ⟨p.toArray⟩, .string ⟨g.toArray⟩, .iface 258 (.pointer (some (er 4)))])] w fun e w' => e = .returned (.int .i64 1) ∧ Below w.heap.size w w' := by
 have HE : Hid (Err8 w er) := hE
 have HB : Hid (Below w.heap.size w w) := Below.refl _ _
 clear hE
 go_enter Tryz.func106, Tryz.ntmps106
 have g1 := HE.out.imp
 unfold sentV at g1
 go_wp2_with fail
 refine Calls.mono (is_wrap_same p g (er 4) _) ?_
 rintro e w1 ⟨rfl, hb1⟩
 replace HB : Hid (Below w.heap.size w w1) := HB.out.trans (hb1.mono HB.out.size)
 replace HE : Hid (Err8 w1 er) := HE.out.below hb1
 clear hb1 g1
 go_wp2
 go_ret
 exact ⟨rfl, HB.out⟩
set_option maxHeartbeats 4000000 in
set_option maxRecDepth 100000 in
theorem codeOfFaultW5 (p g : List UInt8) (er : Nat → Addr) (w : World) (hE : Err8 w er) :
 Calls Tryz.prog 106 #[.iface 134 (.agg #[.string ⟨p.toArray⟩, .string ⟨g.toArray⟩, .iface 258 (.pointer (some (er 5)))])] w fun e w' => e = .returned (.int .i64 2) ∧ Below w.heap.size w w' := by
 have HE : Hid (Err8 w er) := hE
 have HB : Hid (Below w.heap.size w w) := Below.refl _ _
 clear hE
 go_enter Tryz.func106, Tryz.ntmps106
 have g1 := HE.out.imp
 unfold sentV at g1
 go_wp2_with fail
 refine Calls.mono (is_wrap_other p g (er 5) (er 4) _ (HE.out.ne 5 4 (by decide) (by decide) (by decide)) (HE.out.at_ 5 (by decide)) (HE.out.at_ 4 (by decide))) ?_
 rintro e w1 ⟨rfl, hb1⟩
 replace HB : Hid (Below w.heap.size w w1) := HB.out.trans (hb1.mono HB.out.size)
 replace HE : Hid (Err8 w1 er) := HE.out.below hb1
 clear hb1 g1
 have g2 := HE.out.ring
 unfold sentV at g2
 go_wp2_with fail
 refine Calls.mono (is_wrap_same p g (er 5) _) ?_
 rintro e w2 ⟨rfl, hb2⟩
 replace HB : Hid (Below w.heap.size w w2) := HB.out.trans (hb2.mono HB.out.size)
 replace HE : Hid (Err8 w2 er) := HE.out.below hb2
 clear hb2 g2
 go_wp2
 go_ret
 exact ⟨rfl, HB.out⟩
set_option maxHeartbeats 4000000 in
set_option maxRecDepth 100000 in
theorem codeOfFaultW6 (p g : List UInt8) (er : Nat → Addr) (w : World) (hE : Err8 w er) :
 Calls Tryz.prog 106 #[.iface 134 (.agg #[.string ⟨p.toArray⟩, .string ⟨g.toArray⟩, .iface 258 (.pointer (some (er 6)))])] w fun e w' => e = .returned (.int .i64 3) ∧ Below w.heap.size w w' := by
 have HE : Hid (Err8 w er) := hE
 have HB : Hid (Below w.heap.size w w) := Below.refl _ _
 clear hE
 go_enter Tryz.func106, Tryz.ntmps106
 have g1 := HE.out.imp
 unfold sentV at g1
 go_wp2_with fail
 refine Calls.mono (is_wrap_other p g (er 6) (er 4) _ (HE.out.ne 6 4 (by decide) (by decide) (by decide)) (HE.out.at_ 6 (by decide)) (HE.out.at_ 4 (by decide))) ?_
 rintro e w1 ⟨rfl, hb1⟩
 replace HB : Hid (Below w.heap.size w w1) := HB.out.trans (hb1.mono HB.out.size)
 replace HE : Hid (Err8 w1 er) := HE.out.below hb1
 clear hb1 g1
 have g2 := HE.out.ring
 unfold sentV at g2
 go_wp2_with fail
 refine Calls.mono (is_wrap_other p g (er 6) (er 5) _ (HE.out.ne 6 5 (by decide) (by decide) (by decide)) (HE.out.at_ 6 (by decide)) (HE.out.at_ 5 (by decide))) ?_
 rintro e w2 ⟨rfl, hb2⟩
 replace HB : Hid (Below w.heap.size w w2) := HB.out.trans (hb2.mono HB.out.size)
 replace HE : Hid (Err8 w2 er) := HE.out.below hb2
 clear hb2 g2
 have g3 := HE.out.arg
 unfold sentV at g3
 go_wp2_with fail
 refine Calls.mono (is_wrap_same p g (er 6) _) ?_
 rintro e w3 ⟨rfl, hb3⟩
 replace HB : Hid (Below w.heap.size w w3) := HB.out.trans (hb3.mono HB.out.size)
 replace HE : Hid (Err8 w3 er) := HE.out.below hb3
 clear hb3 g3
 go_wp2
 go_ret
 exact ⟨rfl, HB.out⟩
set_option maxHeartbeats 4000000 in
set_option maxRecDepth 100000 in
theorem codeOfFaultW7 (p g : List UInt8) (er : Nat → Addr) (w : World) (hE : Err8 w er) :
 Calls Tryz.prog 106 #[.iface 134 (.agg #[.string ⟨p.toArray⟩, .string ⟨g.toArray⟩, .iface 258 (.pointer (some (er 7)))])] w fun e w' => e = .returned (.int .i64 5) ∧ Below w.heap.size w w' := by
 have HE : Hid (Err8 w er) := hE
 have HB : Hid (Below w.heap.size w w) := Below.refl _ _
 clear hE
 go_enter Tryz.func106, Tryz.ntmps106
 have g1 := HE.out.imp
 unfold sentV at g1
 go_wp2_with fail
 refine Calls.mono (is_wrap_other p g (er 7) (er 4) _ (HE.out.ne 7 4 (by decide) (by decide) (by decide)) (HE.out.at_ 7 (by decide)) (HE.out.at_ 4 (by decide))) ?_
 rintro e w1 ⟨rfl, hb1⟩
 replace HB : Hid (Below w.heap.size w w1) := HB.out.trans (hb1.mono HB.out.size)
 replace HE : Hid (Err8 w1 er) := HE.out.below hb1
 clear hb1 g1
 have g2 := HE.out.ring
 unfold sentV at g2
 go_wp2_with fail
 refine Calls.mono (is_wrap_other p g (er 7) (er 5) _ (HE.out.ne 7 5 (by decide) (by decide) (by decide)) (HE.out.at_ 7 (by decide)) (HE.out.at_ 5 (by decide))) ?_
 rintro e w2 ⟨rfl, hb2⟩
 replace HB : Hid (Below w.heap.size w w2) := HB.out.trans (hb2.mono HB.out.size)
 replace HE : Hid (Err8 w2 er) := HE.out.below hb2
 clear hb2 g2
 have g3 := HE.out.arg
 unfold sentV at g3
 go_wp2_with fail
 refine Calls.mono (is_wrap_other p g (er 7) (er 6) _ (HE.out.ne 7 6 (by decide) (by decide) (by decide)) (HE.out.at_ 7 (by decide)) (HE.out.at_ 6 (by decide))) ?_
 rintro e w3 ⟨rfl, hb3⟩
 replace HB : Hid (Below w.heap.size w w3) := HB.out.trans (hb3.mono HB.out.size)
 replace HE : Hid (Err8 w3 er) := HE.out.below hb3
 clear hb3 g3
 have g4 := HE.out.main
 unfold sentV at g4
 go_wp2_with fail
 refine Calls.mono (is_wrap_same p g (er 7) _) ?_
 rintro e w4 ⟨rfl, hb4⟩
 replace HB : Hid (Below w.heap.size w w4) := HB.out.trans (hb4.mono HB.out.size)
 replace HE : Hid (Err8 w4 er) := HE.out.below hb4
 clear hb4 g4
 go_wp2
 go_ret
 exact ⟨rfl, HB.out⟩
set_option maxHeartbeats 4000000 in
set_option maxRecDepth 100000 in
theorem codeOfFaultW1 (p g : List UInt8) (er : Nat → Addr) (w : World) (hE : Err8 w er) :
 Calls Tryz.prog 106 #[.iface 134 (.agg #[.string ⟨p.toArray⟩, .string ⟨g.toArray⟩, .iface 258 (.pointer (some (er 1)))])] w fun e w' => e = .returned (.int .i64 4) ∧ Below w.heap.size w w' := by
 have HE : Hid (Err8 w er) := hE
 have HB : Hid (Below w.heap.size w w) := Below.refl _ _
 clear hE
 go_enter Tryz.func106, Tryz.ntmps106
 have g1 := HE.out.imp
 unfold sentV at g1
 go_wp2_with fail
 refine Calls.mono (is_wrap_other p g (er 1) (er 4) _ (HE.out.ne 1 4 (by decide) (by decide) (by decide)) (HE.out.at_ 1 (by decide)) (HE.out.at_ 4 (by decide))) ?_
 rintro e w1 ⟨rfl, hb1⟩
 replace HB : Hid (Below w.heap.size w w1) := HB.out.trans (hb1.mono HB.out.size)
 replace HE : Hid (Err8 w1 er) := HE.out.below hb1
 clear hb1 g1
 have g2 := HE.out.ring
 unfold sentV at g2
 go_wp2_with fail
 refine Calls.mono (is_wrap_other p g (er 1) (er 5) _ (HE.out.ne 1 5 (by decide) (by decide) (by decide)) (HE.out.at_ 1 (by decide)) (HE.out.at_ 5 (by decide))) ?_
 rintro e w2 ⟨rfl, hb2⟩
 replace HB : Hid (Below w.heap.size w w2) := HB.out.trans (hb2.mono HB.out.size)
 replace HE : Hid (Err8 w2 er) := HE.out.below hb2
 clear hb2 g2
 have g3 := HE.out.arg
 unfold sentV at g3
 go_wp2_with fail
 refine Calls.mono (is_wrap_other p g (er 1) (er 6) _ (HE.out.ne 1 6 (by decide) (by decide) (by decide)) (HE.out.at_ 1 (by decide)) (HE.out.at_ 6 (by decide))) ?_
 rintro e w3 ⟨rfl, hb3⟩
 replace HB : Hid (Below w.heap.size w w3) := HB.out.trans (hb3.mono HB.out.size)
 replace HE : Hid (Err8 w3 er) := HE.out.below hb3
 clear hb3 g3
 have g4 := HE.out.main
 unfold sentV at g4
 go_wp2_with fail
 refine Calls.mono (is_wrap_other p g (er 1) (er 7) _ (HE.out.ne 1 7 (by decide) (by decide) (by decide)) (HE.out.at_ 1 (by decide)) (HE.out.at_ 7 (by decide))) ?_
 rintro e w4 ⟨rfl, hb4⟩
 replace HB : Hid (Below w.heap.size w w4) := HB.out.trans (hb4.mono HB.out.size)
 replace HE : Hid (Err8 w4 er) := HE.out.below hb4
 clear hb4 g4
 go_wp2_with fail
 refine Calls.mono (codeOfCallW1 p g er _ HE.out) ?_
 rintro e w5 ⟨rfl, hb5⟩
 replace HB : Hid (Below w.heap.size w w5) := HB.out.trans (hb5.mono HB.out.size)
 clear hb5
 go_wp2
 go_ret
 exact ⟨rfl, HB.out⟩
set_option maxHeartbeats 4000000 in
set_option maxRecDepth 100000 in
theorem codeOfFaultW2 (p g : List UInt8) (er : Nat → Addr) (w : World) (hE : Err8 w er) :
 Calls Tryz.prog 106 #[.iface 134 (.agg #[.string ⟨p.toArray⟩, .string ⟨g.toArray⟩, .iface 258 (.pointer (some (er 2)))])] w fun e w' => e = .returned (.int .i64 4) ∧ Below w.heap.size w w' := by
 have HE : Hid (Err8 w er) := hE
 have HB : Hid (Below w.heap.size w w) := Below.refl _ _
 clear hE
 go_enter Tryz.func106, Tryz.ntmps106
 have g1 := HE.out.imp
 unfold sentV at g1
 go_wp2_with fail
 refine Calls.mono (is_wrap_other p g (er 2) (er 4) _ (HE.out.ne 2 4 (by decide) (by decide) (by decide)) (HE.out.at_ 2 (by decide)) (HE.out.at_ 4 (by decide))) ?_
 rintro e w1 ⟨rfl, hb1⟩
 replace HB : Hid (Below w.heap.size w w1) := HB.out.trans (hb1.mono HB.out.size)
 replace HE : Hid (Err8 w1 er) := HE.out.below hb1
 clear hb1 g1
 have g2 := HE.out.ring
 unfold sentV at g2
 go_wp2_with fail
 refine Calls.mono (is_wrap_other p g (er 2) (er 5) _ (HE.out.ne 2 5 (by decide) (by decide) (by decide)) (HE.out.at_ 2 (by decide)) (HE.out.at_ 5 (by decide))) ?_
 rintro e w2 ⟨rfl, hb2⟩
 replace HB : Hid (Below w.heap.size w w2) := HB.out.trans (hb2.mono HB.out.size)
 replace HE : Hid (Err8 w2 er) := HE.out.below hb2
 clear hb2 g2
 have g3 := HE.out.arg
 unfold sentV at g3
 go_wp2_with fail
 refine Calls.mono (is_wrap_other p g (er 2) (er 6) _ (HE.out.ne 2 6 (by decide) (by decide) (by decide)) (HE.out.at_ 2 (by decide)) (HE.out.at_ 6 (by decide))) ?_
 rintro e w3 ⟨rfl, hb3⟩
 replace HB : Hid (Below w.heap.size w w3) := HB.out.trans (hb3.mono HB.out.size)
 replace HE : Hid (Err8 w3 er) := HE.out.below hb3
 clear hb3 g3
 have g4 := HE.out.main
 unfold sentV at g4
 go_wp2_with fail
 refine Calls.mono (is_wrap_other p g (er 2) (er 7) _ (HE.out.ne 2 7 (by decide) (by decide) (by decide)) (HE.out.at_ 2 (by decide)) (HE.out.at_ 7 (by decide))) ?_
 rintro e w4 ⟨rfl, hb4⟩
 replace HB : Hid (Below w.heap.size w w4) := HB.out.trans (hb4.mono HB.out.size)
 replace HE : Hid (Err8 w4 er) := HE.out.below hb4
 clear hb4 g4
 go_wp2_with fail
 refine Calls.mono (codeOfCallW2 p g er _ HE.out) ?_
 rintro e w5 ⟨rfl, hb5⟩
 replace HB : Hid (Below w.heap.size w w5) := HB.out.trans (hb5.mono HB.out.size)
 clear hb5
 go_wp2
 go_ret
 exact ⟨rfl, HB.out⟩
set_option maxHeartbeats 4000000 in
set_option maxRecDepth 100000 in
theorem codeOfFaultW3 (p g : List UInt8) (er : Nat → Addr) (w : World) (hE : Err8 w er) :
 Calls Tryz.prog 106 #[.iface 134 (.agg #[.string ⟨p.toArray⟩, .string ⟨g.toArray⟩, .iface 258 (.pointer (some (er 3)))])] w fun e w' => e = .returned (.int .i64 4) ∧ Below w.heap.size w w' := by
 have HE : Hid (Err8 w er) := hE
 have HB : Hid (Below w.heap.size w w) := Below.refl _ _
 clear hE
 go_enter Tryz.func106, Tryz.ntmps106
 have g1 := HE.out.imp
 unfold sentV at g1
 go_wp2_with fail
 refine Calls.mono (is_wrap_other p g (er 3) (er 4) _ (HE.out.ne 3 4 (by decide) (by decide) (by decide)) (HE.out.at_ 3 (by decide)) (HE.out.at_ 4 (by decide))) ?_
 rintro e w1 ⟨rfl, hb1⟩
 replace HB : Hid (Below w.heap.size w w1) := HB.out.trans (hb1.mono HB.out.size)
 replace HE : Hid (Err8 w1 er) := HE.out.below hb1
 clear hb1 g1
 have g2 := HE.out.ring
 unfold sentV at g2
 go_wp2_with fail
 refine Calls.mono (is_wrap_other p g (er 3) (er 5) _ (HE.out.ne 3 5 (by decide) (by decide) (by decide)) (HE.out.at_ 3 (by decide)) (HE.out.at_ 5 (by decide))) ?_
 rintro e w2 ⟨rfl, hb2⟩
 replace HB : Hid (Below w.heap.size w w2) := HB.out.trans (hb2.mono HB.out.size)
 replace HE : Hid (Err8 w2 er) := HE.out.below hb2
 clear hb2 g2
 have g3 := HE.out.arg
 unfold sentV at g3
 go_wp2_with fail
 refine Calls.mono (is_wrap_other p g (er 3) (er 6) _ (HE.out.ne 3 6 (by decide) (by decide) (by decide)) (HE.out.at_ 3 (by decide)) (HE.out.at_ 6 (by decide))) ?_
 rintro e w3 ⟨rfl, hb3⟩
 replace HB : Hid (Below w.heap.size w w3) := HB.out.trans (hb3.mono HB.out.size)
 replace HE : Hid (Err8 w3 er) := HE.out.below hb3
 clear hb3 g3
 have g4 := HE.out.main
 unfold sentV at g4
 go_wp2_with fail
 refine Calls.mono (is_wrap_other p g (er 3) (er 7) _ (HE.out.ne 3 7 (by decide) (by decide) (by decide)) (HE.out.at_ 3 (by decide)) (HE.out.at_ 7 (by decide))) ?_
 rintro e w4 ⟨rfl, hb4⟩
 replace HB : Hid (Below w.heap.size w w4) := HB.out.trans (hb4.mono HB.out.size)
 replace HE : Hid (Err8 w4 er) := HE.out.below hb4
 clear hb4 g4
 go_wp2_with fail
 refine Calls.mono (codeOfCallW3 p g er _ HE.out) ?_
 rintro e w5 ⟨rfl, hb5⟩
 replace HB : Hid (Below w.heap.size w w5) := HB.out.trans (hb5.mono HB.out.size)
 clear hb5
 go_wp2
 go_ret
 exact ⟨rfl, HB.out⟩
set_option maxHeartbeats 4000000 in
set_option maxRecDepth 100000 in
theorem codeOfFaultE (er : Nat → Addr) (w : World) (hE : Err8 w er) :
 Calls Tryz.prog 106 #[.iface 258 (.pointer (some (er 0)))] w fun e w' => e = .returned (.int .i64 6) ∧ Below w.heap.size w w' := by
 have HE : Hid (Err8 w er) := hE
 have hC := implCodeOfCall (-1) er w hE.four ⟨by decide, by decide⟩
 have hv : cwV er (-1) = .iface 258 (.pointer (some (er 0))) := rfl
 rw [hv] at hC
 have HC : Hid (_) := hC
 clear hE hC hv
 go_enter Tryz.func106, Tryz.ntmps106
 have g1 := HE.out.imp
 unfold sentV at g1
 go_wp2_with fail
 refine Calls.mono (is_other (er 0) (er 4) _ (HE.out.ne 0 4 (by decide) (by decide) (by decide)) (HE.out.at_ 0 (by decide)) (HE.out.at_ 4 (by decide))) ?_
 rintro e w1 ⟨rfl, hw1⟩
 obtain rfl := hw1.symm
 clear hw1 g1
 have g2 := HE.out.ring
 unfold sentV at g2
 go_wp2_with fail
 refine Calls.mono (is_other (er 0) (er 5) _ (HE.out.ne 0 5 (by decide) (by decide) (by decide)) (HE.out.at_ 0 (by decide)) (HE.out.at_ 5 (by decide))) ?_
 rintro e w2 ⟨rfl, hw2⟩
 obtain rfl := hw2.symm
 clear hw2 g2
 have g3 := HE.out.arg
 unfold sentV at g3
 go_wp2_with fail
 refine Calls.mono (is_other (er 0) (er 6) _ (HE.out.ne 0 6 (by decide) (by decide) (by decide)) (HE.out.at_ 0 (by decide)) (HE.out.at_ 6 (by decide))) ?_
 rintro e w3 ⟨rfl, hw3⟩
 obtain rfl := hw3.symm
 clear hw3 g3
 have g4 := HE.out.main
 unfold sentV at g4
 go_wp2_with fail
 refine Calls.mono (is_other (er 0) (er 7) _ (HE.out.ne 0 7 (by decide) (by decide) (by decide)) (HE.out.at_ 0 (by decide)) (HE.out.at_ 7 (by decide))) ?_
 rintro e w4 ⟨rfl, hw4⟩
 obtain rfl := hw4.symm
 clear hw4 g4
 go_wp2_with fail
 refine Calls.mono HC.out ?_
 rintro e w5 ⟨rfl, hw5⟩
 obtain rfl := hw5.symm
 go_wp2
 go_ret
 exact ⟨rfl, Below.refl _ _⟩
theorem implCodeOfFault (c : Int) (k : Nat) (hk : KindIs c k) (p g : List UInt8) (er : Nat → Addr) (w : World) (hE : Err8 w er) :
 Calls Tryz.prog 106 #[.iface 134 (.agg #[.string ⟨p.toArray⟩, .string ⟨g.toArray⟩, .iface 258 (.pointer (some (er k)))])] w fun e w' => e = .returned (.int .i64 c) ∧ Below w.heap.size w w' := by
 rcases hk with ⟨rfl, rfl⟩ | ⟨rfl, rfl⟩ | ⟨rfl, rfl⟩ | ⟨rfl, h1, h3⟩ | ⟨rfl, rfl⟩
 ·
  exact codeOfFaultW4 p g er w hE
 ·
  exact codeOfFaultW5 p g er w hE
 ·
  exact codeOfFaultW6 p g er w hE
 ·
  rcases (show k = 1 ∨ k = 2 ∨ k = 3 by omega) with rfl | rfl | rfl
  ·
   exact codeOfFaultW1 p g er w hE
  ·
   exact codeOfFaultW2 p g er w hE
  ·
   exact codeOfFaultW3 p g er w hE
 ·
  exact codeOfFaultW7 p g er w hE

end Go.Proofs.YtaidhjjpdkkmcaaGreatDoor
