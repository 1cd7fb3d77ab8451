/-
  Parts of one proof, one behind the other: FltJ, HeapJ, HeapK, HeapP.
-/
import Derived.Test.YtaidhjjpdkkmcaaGreatDoorP23
import Derived.Test.YtaidhjjpdkkmcaaGreatDoorP18

/-! The contracts of chapter 9's landed code: what is wrong in a package. -/
namespace Go.Proofs.YtaidhjjpdkkmcaaGreatDoor
open Go.RowKit

/-- What is wrong in a package: nothing, or an error that tells where. -/
def PwIs (er : Nat → Addr) (v : Value) (o : Option Flt) : Prop := (o = none ∧ v = .nilIface) ∨ ∃ c p g k, o = some (c, p, g) ∧ KindIs c k ∧ v = .iface 134 (.agg #[.string ⟨p.toArray⟩, .string ⟨g.toArray⟩, .iface 258 (.pointer (some (er k)))])

theorem own_rowS {w : World} {B e size n : Nat} {v : Value} {xs : List Value} (h : w.ownsRow B e size v n xs) : ∃ a c, v = .slice a n c ∧ True := by
 rcases own_forms h with ⟨rfl, rfl, _⟩ | ⟨g, c, rfl⟩
 ·
  exact ⟨none, 0, rfl, trivial⟩
 ·
  exact ⟨_, c, rfl, trivial⟩
set_option maxHeartbeats 8000000 in
set_option maxRecDepth 100000 in
theorem implPackageWrong (a : Option Addr) (len cap : Nat) (ps : List Pk) (f : Nat) (lo : Bool) (dn i : Nat) (hlo : lo = decide (dn ≤ i)) (er : Nat → Addr) (w : World) (hE : Err8 w er) (h : PkgsOk w a len cap ps) (hf : f < len) :
 Calls Tryz.prog 135 #[.slice a len cap, .int .i64 (f : Int), .bool lo] w fun e w' => ∃ v, e = .returned v ∧ PwIs er v (pk9 ps dn i (ps.getD f pk0)) ∧ Below w.heap.size w w' := by
 subst hlo
 obtain rfl : ps.length = len := h.hlen
 have hmiss := miss9_plc (ps := ps) (i := f)
 have HFn : Hid (∀ (Z : World) (j : Nat), PkgsOk Z a ps.length cap ps → Err8 Z er → j < (ps.getD f pk0).2.2.length → Calls Tryz.prog 162 #[.slice a ps.length cap, .int .i64 (f : Int), .int .i64 (j : Int)] Z fun e w' => ∃ v, e = .returned v ∧ FwIs er v (func9 ps (ps.getD f pk0) j) ∧ Below Z.heap.size Z w') := fun Z j h1 h2 h3 => implFuncWrong a ps.length cap ps f j er Z h2 h1 hf h3
 have HPl : Hid (∀ Z, PkgsOk Z a ps.length cap ps → Calls Tryz.prog 143 #[.slice a ps.length cap, .int .i64 (f : Int)] Z fun e w' => ∃ v, e = .returned v ∧ w'.ownsRow Z.heap.size 3 1 v (plc ps (imsAt ps f)).length (natV (plc ps (imsAt ps f))) ∧ Below Z.heap.size Z w') := fun Z h1 => implPlacesOf a ps.length cap ps f Z h1 hf
 obtain ⟨b, off, rfl, hbl, c0, ia, il, ic, fa, fl, fc, c1, c2, hpk⟩ := h.each f hf
 have hil : (imsAt ps f).length = il := hpk.i.1
 have hilb := hpk.il
 have hflb := hpk.fl
 have hfl : (ps.getD f pk0).2.2.length = fl := hpk.f.1
 have hple := plc_le ps (imsAt ps f)
 have hsm := h.small
 have hf2 : (f : Int) < (ps.length : Int) := by omega
 obtain ⟨pl, hpl⟩ : ∃ pl, (plc ps (imsAt ps f)).length = pl := ⟨_, rfl⟩
 rw [hpl, hil] at hmiss hple
 rw [hpl] at HPl
 have hfi := hpk.f
 have hpk9 : pk9 ps dn i (ps.getD f pk0) = if miss9 ps (ps.getD f pk0) then some (1, (ps.getD f pk0).1, []) else if dn ≤ i then some (2, (ps.getD f pk0).1, []) else fnsGo ps (ps.getD f pk0) (ps.getD f pk0).2.2 0 := rfl
 have HDr : Hid (∀ j, j < (ps.getD f pk0).2.2.length → _) := fun j hj => fnsGo_drop (ps := ps) (p := ps.getD f pk0) (k := j) hj
 obtain ⟨p, hp⟩ : ∃ p, ps.getD f pk0 = p := ⟨_, rfl⟩
 rw [hp] at hmiss c0 hfi hfl HFn hpk9 HDr ⊢
 obtain ⟨nm, ims, fs⟩ := p
 simp only at c0 hfi hfl HFn hpk9 HDr
 subst hfl
 clear hp hpl hil hpk
 obtain ⟨bx, hbx⟩ := Box3.new w (.string ⟨nm.toArray⟩) (.slice ia il ic) (.slice fa fs.length fc) 51
 obtain ⟨W, hW⟩ : ∃ W, w.alloc (.cells #[.string ⟨nm.toArray⟩, .slice ia il ic, .slice fa fs.length fc] 51) = W := ⟨_, rfl⟩
 obtain ⟨D, hD⟩ : ∃ D, w.heap.size = D := ⟨_, rfl⟩
 rw [hW] at bx hbx
 rw [hD] at bx
 have HZ : Hid (∀ Z, Below W.heap.size W Z → Box3 Z D (.string ⟨nm.toArray⟩) (.slice ia il ic) (.slice fa fs.length fc) ∧ FuncsIn Z fa fs.length fs ∧ Err8 Z er ∧ PkgsOk Z (some ⟨b, off, none⟩) ps.length cap ps ∧ Below D w Z) := fun Z hz => ⟨bx.below hz, (hfi.below hbx).below hz, (hE.below hbx).below hz, (h.below hbx).below hz, by rw [← hD]; exact hbx.trans (hz.mono hbx.size)⟩
 have d0 := bx.c0
 have d1 := bx.c1
 have d2 := bx.c2
 have HB : Hid (Below W.heap.size W W.drew) := ⟨rfl, rfl, rfl, Nat.le_refl _, fun _ _ => rfl⟩
 have hok := (HZ.out _ HB.out).2.2.2.1
 clear hbx hfi hE h bx
 obtain ⟨O9, hO9⟩ : ∃ o, pk9 ps dn i (nm, ims, fs) = o := ⟨_, rfl⟩
 have HPk : Hid (O9 = _) := hO9.symm.trans hpk9
 rw [hO9]
 have HMs : Hid (miss9 ps (nm, ims, fs) ↔ pl < il) := hmiss
 clear hO9 hpk9 hmiss
 go_enter Tryz.func135, Tryz.ntmps135
 go_upto_region 2 with fail
 go_region_held3 (fun w' => w'.cell? ⟨D, 1, none⟩ = some (.slice ia il ic)) (go_keep) (first | (go_at_call 143; refine Calls.mono (HPl.out _ hok) ?_; rintro e wn ⟨v, rfl, ho, hbn⟩; replace HB : Hid (Below W.heap.size W wn) := HB.out.trans (hbn.mono HB.out.size); clear hok; obtain ⟨pa, pc, rfl, -⟩ := own_rowS ho; clear hbn ho d0 d1 d2; obtain ⟨⟨d0, d1, d2⟩, -, -, -, -⟩ := HZ.out wn HB.out))
 by_cases hm : pl < il
 ·
  have hm2 : (pl : Int) < (il : Int) := by omega
  have HR : Hid (O9 = some (1, nm, [])) := HPk.out.trans (if_pos (HMs.out.2 hm))
  have gi := (HZ.out wn HB.out).2.2.1.imp
  unfold sentV at gi
  have HBW : Hid (Below D w wn) := (HZ.out wn HB.out).2.2.2.2
  clear HPk HMs hm
  go_wp2
  go_ret
  exact ⟨_, rfl, Or.inr ⟨1, nm, [], 4, HR.out, Or.inl ⟨rfl, rfl⟩, rfl⟩, by first | exact HBW.out | (rw [hD]; exact HBW.out)⟩
 ·
  have hm2 : ¬ (pl : Int) < (il : Int) := by omega
  have HPk2 : Hid (O9 = _) := HPk.out.trans (if_neg (fun e => hm (HMs.out.1 e)))
  clear HPk HMs hm
  by_cases hd : dn ≤ i
  ·
   have hdb : decide (dn ≤ i) = true := decide_eq_true hd
   have HR : Hid (O9 = some (2, nm, [])) := HPk2.out.trans (if_pos hd)
   have gi := (HZ.out wn HB.out).2.2.1.ring
   unfold sentV at gi
   have HBW : Hid (Below D w wn) := (HZ.out wn HB.out).2.2.2.2
   clear HPk2
   go_wp2
   go_ret
   exact ⟨_, rfl, Or.inr ⟨2, nm, [], 5, HR.out, Or.inr (Or.inl ⟨rfl, rfl⟩), rfl⟩, by first | exact HBW.out | (rw [hD]; exact HBW.out)⟩
  ·
   have hdb : decide (dn ≤ i) = false := decide_eq_false hd
   have HR : Hid (O9 = fnsGo ps (nm, ims, fs) (fs.drop 0) 0) := HPk2.out.trans (if_neg hd)
   clear HPk2
   go_wp2
   go_loopw [37] (fun iv wr => ∃ j : Nat, iv = .int .i64 (j : Int) ∧ j ≤ fs.length ∧ Hid (O9 = fnsGo ps (nm, ims, fs) (fs.drop j) j) ∧ Hid (Below W.heap.size W wr)) (fun iv _ => fs.length - (intOf iv).toNat)
   case atStart => exact ⟨0, rfl, by omega, HR, HB⟩
   case round =>
    obtain ⟨j, rfl, hj, HA, HBr⟩ := hrel
    clear HR HB d0 d1 d2
    obtain ⟨bx, hin, _, _, hbw⟩ := HZ.out wr HBr.out
    by_cases hlt : (j : Int) < (fs.length : Int)
    ·
     have hj2 : j < fs.length := by omega
     obtain ⟨bt, ot, rfl, hbt, k0, k1, ta, tl, tc, k2, _⟩ := hin.2 j hj2
     have hdr := HDr.out j hj2
     obtain ⟨g, hg⟩ : ∃ g, fs.getD j fn0 = g := ⟨_, rfl⟩
     rw [hg] at k0 k1 hdr
     obtain ⟨gn, gA, gt⟩ := g
     simp only at k0 k1 hdr
     obtain ⟨bg, hbg⟩ := Box3.new wr (.string ⟨gn.toArray⟩) (.int .i64 gA) (.slice ta tl tc) 98
     obtain ⟨X, hX⟩ : ∃ X, wr.alloc (.cells #[.string ⟨gn.toArray⟩, .int .i64 gA, .slice ta tl tc] 98) = X := ⟨_, rfl⟩
     obtain ⟨G, hG⟩ : ∃ G, wr.heap.size = G := ⟨_, rfl⟩
     rw [hX] at bg hbg
     rw [hG] at bg
     have HBX : Hid (Below W.heap.size W X) := HBr.out.trans (hbg.mono HBr.out.size)
     have HC : Hid (_) := HFn.out X j (HZ.out X HBX.out).2.2.2.1 (HZ.out X HBX.out).2.2.1 hj2
     obtain ⟨cv, hcv⟩ : ∃ cv, func9 ps (nm, ims, fs) j = cv := ⟨_, rfl⟩
     rw [hcv] at HC hdr
     have HDj : Hid (_) := HA.out.trans hdr
     have HBG : Hid (Box3 X G (.string ⟨gn.toArray⟩) (.int .i64 gA) (.slice ta tl tc)) := bg
     clear hin hbw hbg hg HBr HA hcv hdr bx bg
     go_wp2_with fail
     refine Calls.mono HC.out ?_
     rintro e w2 ⟨v, rfl, hv, hb2⟩
     have HB2 : Hid (Below W.heap.size W w2) := HBX.out.trans (hb2.mono HBX.out.size)
     have g0 := (HBG.out.below hb2).c0
     have d0 := (HZ.out w2 HB2.out).1.c0
     clear hb2 HC
     rcases hv with ⟨rfl, rfl⟩ | ⟨ck, hck, rfl⟩
     ·
      have HR : Hid (O9 = fnsGo ps (nm, ims, fs) (fs.drop (j + 1)) (j + 1)) := HDj.out.trans (if_neg (fun e => e rfl))
      clear HDj
      go_wp2
      go_roundw
      case rel => exact ⟨j + 1, by go_num, by omega, HR, HB2⟩
      case measure => simp [intOf]; omega
     ·
      have HR : Hid (O9 = some (cv, nm, gn)) := HDj.out.trans (if_pos (fun e => by subst e; rcases hck with h | h | h | h | h <;> omega))
      have HK : Hid (KindIs cv ck) := hck
      have HBW : Hid (Below D w w2) := (HZ.out w2 HB2.out).2.2.2.2
      clear HDj hck
      go_wp2
      go_ret
      exact ⟨_, rfl, Or.inr ⟨cv, nm, gn, ck, HR.out, HK.out, rfl⟩, by first | exact HBW.out | (rw [hD]; exact HBW.out)⟩
    ·
     have HR : Hid (O9 = none) := by exact (by rw [HA.out, List.drop_of_length_le (by omega)]; rfl : O9 = none)
     have HBW : Hid (Below D w wr) := hbw
     clear hin hbw HA bx
     go_wp2
     go_ret
     exact ⟨_, rfl, Or.inl ⟨HR.out, rfl⟩, by first | exact HBW.out | (rw [hD]; exact HBW.out)⟩

end Go.Proofs.YtaidhjjpdkkmcaaGreatDoor

/-! The contracts of container/heap over the landed heap of places. -/
namespace Go.Proofs.YtaidhjjpdkkmcaaGreatDoor
open Go.RowKit

theorem wrapPtr (A : Array TypeId) (T : TypeId) (p : Addr) (a b : ByteArray) : Builtin.ssaWrapNilChk_ A T #[.pointer (some p), .string a, .string b] = pure (.pointer (some p)) := rfl
/-! How a method of the heap behind the interface is found: the row is loaded through the pointer, or the pointer handed on. -/
theorem findLen {w : World} {nb : Nat} {a : Option Addr} {n c : Nat} (hc : w.cell? ⟨nb, 0, none⟩ = some (.slice a n c)) : Sem.run Tryz.prog (method 389 175 (.pointer (some ⟨nb, 0, none⟩)) "Len") w = .ok (145, .slice a n c) w := by
 have hm : (Array.find? (fun x => x.name == "Len") Tryz.t175.methods).map (fun m => (m.path, m.func)) = some (#[], some (145, false)) := by kernel_rfl
 obtain ⟨m, hm, he⟩ := Option.map_eq_some_iff.1 hm
 obtain ⟨h1, h2⟩ := Prod.mk.injEq .. ▸ he
 obtain ⟨k, hk⟩ : ∃ k, 389 = k + 1 := ⟨_, rfl⟩
 rw [hk, method]
 simp [go_sem, hm, h1, h2, follow, receiverAt, wrapPtr, Place.get, strVal, loadVar, hc]
theorem findLess {w : World} {nb : Nat} {a : Option Addr} {n c : Nat} (hc : w.cell? ⟨nb, 0, none⟩ = some (.slice a n c)) : Sem.run Tryz.prog (method 389 175 (.pointer (some ⟨nb, 0, none⟩)) "Less") w = .ok (226, .slice a n c) w := by
 have hm : (Array.find? (fun x => x.name == "Less") Tryz.t175.methods).map (fun m => (m.path, m.func)) = some (#[], some (226, false)) := by kernel_rfl
 obtain ⟨m, hm, he⟩ := Option.map_eq_some_iff.1 hm
 obtain ⟨h1, h2⟩ := Prod.mk.injEq .. ▸ he
 obtain ⟨k, hk⟩ : ∃ k, 389 = k + 1 := ⟨_, rfl⟩
 rw [hk, method]
 simp [go_sem, hm, h1, h2, follow, receiverAt, wrapPtr, Place.get, strVal, loadVar, hc]
theorem findSwap {w : World} {nb : Nat} {a : Option Addr} {n c : Nat} (hc : w.cell? ⟨nb, 0, none⟩ = some (.slice a n c)) : Sem.run Tryz.prog (method 389 175 (.pointer (some ⟨nb, 0, none⟩)) "Swap") w = .ok (229, .slice a n c) w := by
 have hm : (Array.find? (fun x => x.name == "Swap") Tryz.t175.methods).map (fun m => (m.path, m.func)) = some (#[], some (229, false)) := by kernel_rfl
 obtain ⟨m, hm, he⟩ := Option.map_eq_some_iff.1 hm
 obtain ⟨h1, h2⟩ := Prod.mk.injEq .. ▸ he
 obtain ⟨k, hk⟩ : ∃ k, 389 = k + 1 := ⟨_, rfl⟩
 rw [hk, method]
 simp [go_sem, hm, h1, h2, follow, receiverAt, wrapPtr, Place.get, strVal, loadVar, hc]
theorem findPush {w : World} {nb : Nat} : Sem.run Tryz.prog (method 389 175 (.pointer (some ⟨nb, 0, none⟩)) "Push") w = .ok (228, .pointer (some ⟨nb, 0, none⟩)) w := by
 have hm : (Array.find? (fun x => x.name == "Push") Tryz.t175.methods).map (fun m => (m.path, m.func)) = some (#[], some (228, true)) := by kernel_rfl
 obtain ⟨m, hm, he⟩ := Option.map_eq_some_iff.1 hm
 obtain ⟨h1, h2⟩ := Prod.mk.injEq .. ▸ he
 obtain ⟨k, hk⟩ : ∃ k, 389 = k + 1 := ⟨_, rfl⟩
 rw [hk, method]
 simp [go_sem, hm, h1, h2, follow, receiverAt, Place.get, strVal]
theorem findPop {w : World} {nb : Nat} : Sem.run Tryz.prog (method 389 175 (.pointer (some ⟨nb, 0, none⟩)) "Pop") w = .ok (227, .pointer (some ⟨nb, 0, none⟩)) w := by
 have hm : (Array.find? (fun x => x.name == "Pop") Tryz.t175.methods).map (fun m => (m.path, m.func)) = some (#[], some (227, true)) := by kernel_rfl
 obtain ⟨m, hm, he⟩ := Option.map_eq_some_iff.1 hm
 obtain ⟨h1, h2⟩ := Prod.mk.injEq .. ▸ he
 obtain ⟨k, hk⟩ : ∃ k, 389 = k + 1 := ⟨_, rfl⟩
 rw [hk, method]
 simp [go_sem, hm, h1, h2, follow, receiverAt, Place.get, strVal]

theorem HpIn.rown {w : World} {B nb n : Nat} {v : Value} {l : List Nat} (h : HpIn w B nb v l) (hn : l.length = n) : w.ownsRow B 3 1 v n (natV l) := by rw [← hn]; exact h.row

set_option maxHeartbeats 2000000 in
set_option maxRecDepth 100000 in
theorem heapUp (B nb g n cp : Nat) (l : List Nat) (j : Nat) (w : World) (h : HpIn w B nb (.slice (some ⟨g, 0, none⟩) n cp) l) (hn : l.length = n) (hj : j < n) (hup : HpUp l j) (hbig : n ≤ 1000) :
 Calls Tryz.prog 168 #[.iface 175 (.pointer (some ⟨nb, 0, none⟩)), .int .i64 (j : Int)] w fun e w' => e = .returned (.tuple #[]) ∧ ∃ l', HpIn w' B nb (.slice (some ⟨g, 0, none⟩) n cp) l' ∧ l'.length = n ∧ l'.Perm l ∧ HpN l' n ∧ w.grownBy w' (some g) := by
 have HH : Hid (HpIn w B nb (.slice (some ⟨g, 0, none⟩) n cp) l) := h
 have HL : Hid (l.length = n) := hn
 have HU : Hid (HpUp l j) := hup
 clear h hn hup
 go_enter Tryz.func168, Tryz.ntmps168
 go_wp2
 go_loopw [1, 4] (fun jv _ wr => ∃ (k : Nat) (lk : List Nat), jv = .int .i64 (k : Int) ∧ k < n ∧ Hid (HpIn wr B nb (.slice (some ⟨g, 0, none⟩) n cp) lk) ∧ Hid (lk.length = n) ∧ Hid (HpUp lk k) ∧ Hid (lk.Perm l) ∧ Hid (w.grownBy wr (some g))) (fun jv _ _ => (intOf jv).toNat)
 case atStart => exact ⟨j, l, rfl, hj, HH, HL, HU, List.Perm.refl _, World.grownBy.refl _ _⟩
 case round =>
  obtain ⟨k, lk, rfl, hk, HHk, HLk, HUk, HPk, HGk⟩ := hrel
  have c0 := HHk.out.cell
  rcases Nat.eq_zero_or_pos k with h0 | h0
  ·
   subst h0
   go_wp2
   go_end0
   exact ⟨rfl, lk, HHk.out, HLk.out, HPk.out, by rw [← HLk.out]; exact up_end HUk.out (Or.inl rfl), HGk.out⟩
  ·
   obtain ⟨m, rfl⟩ : ∃ m, k = m + 1 := ⟨k - 1, by omega⟩
   have hne : ¬ m / 2 = m + 1 := by omega
   have mL := findLess c0
   have HL1 : Hid (Calls Tryz.prog 226 #[.slice (some ⟨g, 0, none⟩) n cp, .int .i64 ((m : Int) + 1), .int .i64 ((m : Int) / 2)] wr fun e w' => e = .returned (.bool (decide (lk.getD (m + 1) 0 < lk.getD (m / 2) 0))) ∧ Below wr.heap.size wr w') := by
    have hL := upLess B g cp n lk (m + 1) (m / 2) wr (HHk.out.rown HLk.out) HLk.out hk (by omega)
    rw [show ((m + 1 : Nat) : Int) = (m : Int) + 1 by omega, show ((m / 2 : Nat) : Int) = (m : Int) / 2 by omega] at hL
    exact hL
   by_cases hlt : lk.getD (m + 1) 0 < lk.getD (m / 2) 0
   ·
    rw [decide_eq_true hlt] at HL1
    have HSt : Hid (HpUp (sw lk (m / 2) (m + 1)) (m / 2)) := up_step HUk.out (by rw [HLk.out]; exact hk) h0 hlt
    clear hlt
    go_wp2_with (go_at_call 226; refine HL1.out.mono ?_; rintro e w2 ⟨rfl, hb2⟩; have HH2 : Hid (HpIn w2 B nb (.slice (some ⟨g, 0, none⟩) n cp) lk) := HHk.out.below hb2; have mS := findSwap HH2.out.cell; have HG2 : Hid (w.grownBy w2 (some g)) := HGk.out.trans ⟨hb2.os, hb2.tape, hb2.output, hb2.size, fun k hk _ => hb2.block k hk⟩; clear hb2 mL)
    have HS1 : Hid (Calls Tryz.prog 229 #[.slice (some ⟨g, 0, none⟩) n cp, .int .i64 ((m : Int) / 2), .int .i64 ((m : Int) + 1)] w2 fun e w' => e = .returned (.tuple #[]) ∧ w'.ownsRow B 3 1 (.slice (some ⟨g, 0, none⟩) n cp) n (natV (sw lk (m / 2) (m + 1))) ∧ w2.grownBy w' (some g)) := by
     have hS := upSwap B g cp n lk (m / 2) (m + 1) w2 (HH2.out.rown HLk.out) HLk.out (by omega) hk
     rw [show ((m + 1 : Nat) : Int) = (m : Int) + 1 by omega, show ((m / 2 : Nat) : Int) = (m : Int) / 2 by omega] at hS
     exact hS
    refine HS1.out.mono ?_
    rintro e w3 ⟨rfl, ho3, hg3⟩
    have HH3 : Hid (HpIn w3 B nb (.slice (some ⟨g, 0, none⟩) n cp) (sw lk (m / 2) (m + 1))) := HH2.out.swapped ho3 (by rw [sw_len]; exact HLk.out) hg3
    have HG3 : Hid (w.grownBy w3 (some g)) := HG2.out.trans hg3
    clear ho3 hg3 HS1 HL1
    go_wp2
    go_roundw
    case rel => exact ⟨m / 2, sw lk (m / 2) (m + 1), by simp, by omega, HH3, by exact (by rw [sw_len]; exact HLk.out : (sw lk (m / 2) (m + 1)).length = n), HSt, (sw_perm lk (by rw [HLk.out]; omega) (by rw [HLk.out]; omega)).trans HPk.out, HG3⟩
    case measure => simp [intOf]; omega
   ·
    rw [decide_eq_false hlt] at HL1
    have HSt : Hid (HpN lk n) := by exact (by rw [← HLk.out]; exact up_end HUk.out (Or.inr (by simpa using hlt)) : HpN lk n)
    clear hlt
    go_wp2_with (go_at_call 226; refine HL1.out.mono ?_; rintro e w2 ⟨rfl, hb2⟩; have HH2 : Hid (HpIn w2 B nb (.slice (some ⟨g, 0, none⟩) n cp) lk) := HHk.out.below hb2; have HG2 : Hid (w.grownBy w2 (some g)) := HGk.out.trans ⟨hb2.os, hb2.tape, hb2.output, hb2.size, fun k hk _ => hb2.block k hk⟩; clear hb2 mL)
    go_end0
    exact ⟨rfl, lk, HH2.out, HLk.out, HPk.out, HSt.out, HG2.out⟩

end Go.Proofs.YtaidhjjpdkkmcaaGreatDoor

/-! The contracts of container/heap over the landed heap of places: down, Push, Pop; the first is taken. -/
namespace Go.Proofs.YtaidhjjpdkkmcaaGreatDoor
open Go.RowKit

set_option maxHeartbeats 4000000 in
set_option maxRecDepth 100000 in
theorem heapDown (B nb g N n cp : Nat) (l : List Nat) (w : World) (h : HpIn w B nb (.slice (some ⟨g, 0, none⟩) N cp) l) (hN : l.length = N) (hn : n + 1 = N) (hdn : HpDn l 0 n) (hbig : N ≤ 1000) :
 Calls Tryz.prog 182 #[.iface 175 (.pointer (some ⟨nb, 0, none⟩)), .int .i64 0, .int .i64 (n : Int)] w fun e w' => ∃ bb : Bool, e = .returned (.bool bb) ∧ ∃ l', HpIn w' B nb (.slice (some ⟨g, 0, none⟩) N cp) l' ∧ l'.length = N ∧ l'.Perm l ∧ HpN l' n ∧ (∀ q, n ≤ q → l'.getD q 0 = l.getD q 0) ∧ w.grownBy w' (some g) := by
 have HH : Hid (HpIn w B nb (.slice (some ⟨g, 0, none⟩) N cp) l) := h
 have HL : Hid (l.length = N) := hN
 have HD : Hid (HpDn l 0 n) := hdn
 clear h hN hdn
 go_enter Tryz.func182, Tryz.ntmps182
 go_wp2
 go_loopw [7, 8, 9, 10] (fun iv _ _ _ wr => ∃ (i : Nat) (lk : List Nat), iv = .int .i64 (i : Int) ∧ i < N ∧ Hid (HpIn wr B nb (.slice (some ⟨g, 0, none⟩) N cp) lk) ∧ Hid (lk.length = N) ∧ Hid (HpDn lk i n) ∧ Hid (lk.Perm l) ∧ Hid (∀ q, n ≤ q → lk.getD q 0 = l.getD q 0) ∧ Hid (w.grownBy wr (some g))) (fun iv _ _ _ _ => N - (intOf iv).toNat)
 case atStart => exact ⟨0, l, rfl, by omega, HH, HL, HD, List.Perm.refl _, (fun _ _ => rfl), World.grownBy.refl _ _⟩
 case round =>
  obtain ⟨i, lk, rfl, hi, HHk, HLk, HDk, HPk, HKk, HGk⟩ := hrel
  by_cases h1 : n ≤ 2 * i + 1
  ·
   have h1z : (n : Int) ≤ 2 * (i : Int) + 1 := by omega
   have HSt : Hid (HpN lk n) := dn_end HDk.out (fun q h1 h2 h3 => by omega)
   clear h1
   go_wp2
   go_ret
   exact ⟨_, rfl, lk, HHk.out, HLk.out, HPk.out, HSt.out, HKk.out, HGk.out⟩
  ·
   have h1z : ¬ (n : Int) ≤ 2 * (i : Int) + 1 := by omega
   have h0z : ¬ 2 * (i : Int) + 1 < 0 := by omega
   by_cases h2 : 2 * i + 2 < n
   ·
    have h2z : 2 * (i : Int) + 1 + 1 < (n : Int) := by omega
    have mL := findLess HHk.out.cell
    have HL0 : Hid (Calls Tryz.prog 226 #[.slice (some ⟨g, 0, none⟩) N cp, .int .i64 (2 * (i : Int) + 1 + 1), .int .i64 (2 * (i : Int) + 1)] wr fun e w' => e = .returned (.bool (decide (lk.getD (2 * i + 2) 0 < lk.getD (2 * i + 1) 0))) ∧ Below wr.heap.size wr w') := by
     have hL := upLess B g cp N lk (2 * i + 2) (2 * i + 1) wr (HHk.out.rown HLk.out) HLk.out (by omega) (by omega)
     rw [show ((2 * i + 2 : Nat) : Int) = 2 * (i : Int) + 1 + 1 by omega, show ((2 * i + 1 : Nat) : Int) = 2 * (i : Int) + 1 by omega] at hL
     exact hL
    by_cases h3 : lk.getD (2 * i + 2) 0 < lk.getD (2 * i + 1) 0
    ·
     rw [decide_eq_true h3] at HL0
     have HMin : Hid (∀ q, 0 < q → q < n → (q - 1) / 2 = i → lk.getD (2 * i + 2) 0 ≤ lk.getD q 0) := fun q q0 qn qp => by
      rcases (show q = 2 * i + 1 ∨ q = 2 * i + 2 by omega) with e | e <;> rw [e] <;> omega
     clear h3
     go_wp2_with fail
     refine HL0.out.mono ?_
     rintro e w1 ⟨rfl, hb1⟩
     have HH1 : Hid (HpIn w1 B nb (.slice (some ⟨g, 0, none⟩) N cp) lk) := HHk.out.below hb1
     have HG1 : Hid (w.grownBy w1 (some g)) := HGk.out.trans ⟨hb1.os, hb1.tape, hb1.output, hb1.size, fun k hk _ => hb1.block k hk⟩
     clear hb1 mL HL0
     have mL2 := findLess HH1.out.cell
     have HL2 : Hid (Calls Tryz.prog 226 #[.slice (some ⟨g, 0, none⟩) N cp, .int .i64 (2 * (i : Int) + 1 + 1), .int .i64 (i : Int)] w1 fun e w' => e = .returned (.bool (decide (lk.getD (2 * i + 2) 0 < lk.getD i 0))) ∧ Below w1.heap.size w1 w') := by
      have hL := upLess B g cp N lk (2 * i + 2) i w1 (HH1.out.rown HLk.out) HLk.out (by omega) (by omega)
      rw [show ((2 * i + 2 : Nat) : Int) = 2 * (i : Int) + 1 + 1 by omega] at hL
      exact hL
     by_cases hlt : lk.getD (2 * i + 2) 0 < lk.getD i 0
     ·
      rw [decide_eq_true hlt] at HL2
      have HSt : Hid (HpDn (sw lk i (2 * i + 2)) (2 * i + 2) n) := dn_step HDk.out (by rw [HLk.out]; omega) (by omega) (by omega) (by omega) HMin.out hlt
      clear hlt HMin
      go_wp2_with fail
      refine HL2.out.mono ?_
      rintro e w2 ⟨rfl, hb2⟩
      have HH2 : Hid (HpIn w2 B nb (.slice (some ⟨g, 0, none⟩) N cp) lk) := HH1.out.below hb2
      have mS := findSwap HH2.out.cell
      have HG2 : Hid (w.grownBy w2 (some g)) := HG1.out.trans ⟨hb2.os, hb2.tape, hb2.output, hb2.size, fun k hk _ => hb2.block k hk⟩
      clear hb2 mL2 HL2
      go_wp2_with fail
      have HS1 : Hid (Calls Tryz.prog 229 #[.slice (some ⟨g, 0, none⟩) N cp, .int .i64 (i : Int), .int .i64 (2 * (i : Int) + 1 + 1)] w2 fun e w' => e = .returned (.tuple #[]) ∧ w'.ownsRow B 3 1 (.slice (some ⟨g, 0, none⟩) N cp) N (natV (sw lk i (2 * i + 2))) ∧ w2.grownBy w' (some g)) := by
       have hS := upSwap B g cp N lk i (2 * i + 2) w2 (HH2.out.rown HLk.out) HLk.out (by omega) (by omega)
       rw [show ((2 * i + 2 : Nat) : Int) = 2 * (i : Int) + 1 + 1 by omega] at hS
       exact hS
      refine HS1.out.mono ?_
      rintro e w3 ⟨rfl, ho3, hg3⟩
      have HH3 : Hid (HpIn w3 B nb (.slice (some ⟨g, 0, none⟩) N cp) (sw lk i (2 * i + 2))) := HH2.out.swapped ho3 (by rw [sw_len]; exact HLk.out) hg3
      have HG3 : Hid (w.grownBy w3 (some g)) := HG2.out.trans hg3
      have HK3 : Hid (∀ q, n ≤ q → (sw lk i (2 * i + 2)).getD q 0 = l.getD q 0) := fun q hq => by rw [sw_at lk (by rw [HLk.out]; omega) (by rw [HLk.out]; omega), if_neg (by omega), if_neg (by omega)]; exact HKk.out q hq
      clear ho3 hg3 HS1 mS
      go_wp2
      go_roundw
      case rel => exact ⟨2 * i + 2, sw lk i (2 * i + 2), by go_num, by omega, HH3, by exact (by rw [sw_len]; exact HLk.out : (sw lk i (2 * i + 2)).length = N), HSt, (sw_perm lk (by rw [HLk.out]; omega) (by rw [HLk.out]; omega)).trans HPk.out, HK3, HG3⟩
      case measure => simp [intOf]; omega
     ·
      rw [decide_eq_false hlt] at HL2
      have HSt : Hid (HpN lk n) := dn_end HDk.out (fun q h1 h2 h3 => by have := HMin.out q h1 h2 h3; omega)
      clear hlt HMin
      go_wp2_with fail
      refine HL2.out.mono ?_
      rintro e w2 ⟨rfl, hb2⟩
      have HH2 : Hid (HpIn w2 B nb (.slice (some ⟨g, 0, none⟩) N cp) lk) := HH1.out.below hb2
      have HG2 : Hid (w.grownBy w2 (some g)) := HG1.out.trans ⟨hb2.os, hb2.tape, hb2.output, hb2.size, fun k hk _ => hb2.block k hk⟩
      clear hb2 mL2 HL2
      go_wp2
      go_ret
      exact ⟨_, rfl, lk, HH2.out, HLk.out, HPk.out, HSt.out, HKk.out, HG2.out⟩
    ·
     rw [decide_eq_false h3] at HL0
     have HMin : Hid (∀ q, 0 < q → q < n → (q - 1) / 2 = i → lk.getD (2 * i + 1) 0 ≤ lk.getD q 0) := fun q q0 qn qp => by
      rcases (show q = 2 * i + 1 ∨ q = 2 * i + 2 by omega) with e | e <;> rw [e] <;> omega
     clear h3
     go_wp2_with fail
     refine HL0.out.mono ?_
     rintro e w1 ⟨rfl, hb1⟩
     have HH1 : Hid (HpIn w1 B nb (.slice (some ⟨g, 0, none⟩) N cp) lk) := HHk.out.below hb1
     have HG1 : Hid (w.grownBy w1 (some g)) := HGk.out.trans ⟨hb1.os, hb1.tape, hb1.output, hb1.size, fun k hk _ => hb1.block k hk⟩
     clear hb1 mL HL0
     have mL2 := findLess HH1.out.cell
     have HL2 : Hid (Calls Tryz.prog 226 #[.slice (some ⟨g, 0, none⟩) N cp, .int .i64 (2 * (i : Int) + 1), .int .i64 (i : Int)] w1 fun e w' => e = .returned (.bool (decide (lk.getD (2 * i + 1) 0 < lk.getD i 0))) ∧ Below w1.heap.size w1 w') := by
      have hL := upLess B g cp N lk (2 * i + 1) i w1 (HH1.out.rown HLk.out) HLk.out (by omega) (by omega)
      rw [show ((2 * i + 1 : Nat) : Int) = 2 * (i : Int) + 1 by omega] at hL
      exact hL
     by_cases hlt : lk.getD (2 * i + 1) 0 < lk.getD i 0
     ·
      rw [decide_eq_true hlt] at HL2
      have HSt : Hid (HpDn (sw lk i (2 * i + 1)) (2 * i + 1) n) := dn_step HDk.out (by rw [HLk.out]; omega) (by omega) (by omega) (by omega) HMin.out hlt
      clear hlt HMin
      go_wp2_with fail
      refine HL2.out.mono ?_
      rintro e w2 ⟨rfl, hb2⟩
      have HH2 : Hid (HpIn w2 B nb (.slice (some ⟨g, 0, none⟩) N cp) lk) := HH1.out.below hb2
      have mS := findSwap HH2.out.cell
      have HG2 : Hid (w.grownBy w2 (some g)) := HG1.out.trans ⟨hb2.os, hb2.tape, hb2.output, hb2.size, fun k hk _ => hb2.block k hk⟩
      clear hb2 mL2 HL2
      go_wp2_with fail
      have HS1 : Hid (Calls Tryz.prog 229 #[.slice (some ⟨g, 0, none⟩) N cp, .int .i64 (i : Int), .int .i64 (2 * (i : Int) + 1)] w2 fun e w' => e = .returned (.tuple #[]) ∧ w'.ownsRow B 3 1 (.slice (some ⟨g, 0, none⟩) N cp) N (natV (sw lk i (2 * i + 1))) ∧ w2.grownBy w' (some g)) := by
       have hS := upSwap B g cp N lk i (2 * i + 1) w2 (HH2.out.rown HLk.out) HLk.out (by omega) (by omega)
       rw [show ((2 * i + 1 : Nat) : Int) = 2 * (i : Int) + 1 by omega] at hS
       exact hS
      refine HS1.out.mono ?_
      rintro e w3 ⟨rfl, ho3, hg3⟩
      have HH3 : Hid (HpIn w3 B nb (.slice (some ⟨g, 0, none⟩) N cp) (sw lk i (2 * i + 1))) := HH2.out.swapped ho3 (by rw [sw_len]; exact HLk.out) hg3
      have HG3 : Hid (w.grownBy w3 (some g)) := HG2.out.trans hg3
      have HK3 : Hid (∀ q, n ≤ q → (sw lk i (2 * i + 1)).getD q 0 = l.getD q 0) := fun q hq => by rw [sw_at lk (by rw [HLk.out]; omega) (by rw [HLk.out]; omega), if_neg (by omega), if_neg (by omega)]; exact HKk.out q hq
      clear ho3 hg3 HS1 mS
      go_wp2
      go_roundw
      case rel => exact ⟨2 * i + 1, sw lk i (2 * i + 1), by go_num, by omega, HH3, by exact (by rw [sw_len]; exact HLk.out : (sw lk i (2 * i + 1)).length = N), HSt, (sw_perm lk (by rw [HLk.out]; omega) (by rw [HLk.out]; omega)).trans HPk.out, HK3, HG3⟩
      case measure => simp [intOf]; omega
     ·
      rw [decide_eq_false hlt] at HL2
      have HSt : Hid (HpN lk n) := dn_end HDk.out (fun q h1 h2 h3 => by have := HMin.out q h1 h2 h3; omega)
      clear hlt HMin
      go_wp2_with fail
      refine HL2.out.mono ?_
      rintro e w2 ⟨rfl, hb2⟩
      have HH2 : Hid (HpIn w2 B nb (.slice (some ⟨g, 0, none⟩) N cp) lk) := HH1.out.below hb2
      have HG2 : Hid (w.grownBy w2 (some g)) := HG1.out.trans ⟨hb2.os, hb2.tape, hb2.output, hb2.size, fun k hk _ => hb2.block k hk⟩
      clear hb2 mL2 HL2
      go_wp2
      go_ret
      exact ⟨_, rfl, lk, HH2.out, HLk.out, HPk.out, HSt.out, HKk.out, HG2.out⟩
   ·
    have h2z : ¬ 2 * (i : Int) + 1 + 1 < (n : Int) := by omega
    have HMin : Hid (∀ q, 0 < q → q < n → (q - 1) / 2 = i → lk.getD (2 * i + 1) 0 ≤ lk.getD q 0) := fun q q0 qn qp => by
     have e : q = 2 * i + 1 := by omega
     rw [e]; omega
    have mL2 := findLess HHk.out.cell
    have HL2 : Hid (Calls Tryz.prog 226 #[.slice (some ⟨g, 0, none⟩) N cp, .int .i64 (2 * (i : Int) + 1), .int .i64 (i : Int)] wr fun e w' => e = .returned (.bool (decide (lk.getD (2 * i + 1) 0 < lk.getD i 0))) ∧ Below wr.heap.size wr w') := by
     have hL := upLess B g cp N lk (2 * i + 1) i wr (HHk.out.rown HLk.out) HLk.out (by omega) (by omega)
     rw [show ((2 * i + 1 : Nat) : Int) = 2 * (i : Int) + 1 by omega] at hL
     exact hL
    by_cases hlt : lk.getD (2 * i + 1) 0 < lk.getD i 0
    ·
     rw [decide_eq_true hlt] at HL2
     have HSt : Hid (HpDn (sw lk i (2 * i + 1)) (2 * i + 1) n) := dn_step HDk.out (by rw [HLk.out]; omega) (by omega) (by omega) (by omega) HMin.out hlt
     clear hlt HMin
     go_wp2_with fail
     refine HL2.out.mono ?_
     rintro e w2 ⟨rfl, hb2⟩
     have HH2 : Hid (HpIn w2 B nb (.slice (some ⟨g, 0, none⟩) N cp) lk) := HHk.out.below hb2
     have mS := findSwap HH2.out.cell
     have HG2 : Hid (w.grownBy w2 (some g)) := HGk.out.trans ⟨hb2.os, hb2.tape, hb2.output, hb2.size, fun k hk _ => hb2.block k hk⟩
     clear hb2 mL2 HL2
     go_wp2_with fail
     have HS1 : Hid (Calls Tryz.prog 229 #[.slice (some ⟨g, 0, none⟩) N cp, .int .i64 (i : Int), .int .i64 (2 * (i : Int) + 1)] w2 fun e w' => e = .returned (.tuple #[]) ∧ w'.ownsRow B 3 1 (.slice (some ⟨g, 0, none⟩) N cp) N (natV (sw lk i (2 * i + 1))) ∧ w2.grownBy w' (some g)) := by
      have hS := upSwap B g cp N lk i (2 * i + 1) w2 (HH2.out.rown HLk.out) HLk.out (by omega) (by omega)
      rw [show ((2 * i + 1 : Nat) : Int) = 2 * (i : Int) + 1 by omega] at hS
      exact hS
     refine HS1.out.mono ?_
     rintro e w3 ⟨rfl, ho3, hg3⟩
     have HH3 : Hid (HpIn w3 B nb (.slice (some ⟨g, 0, none⟩) N cp) (sw lk i (2 * i + 1))) := HH2.out.swapped ho3 (by rw [sw_len]; exact HLk.out) hg3
     have HG3 : Hid (w.grownBy w3 (some g)) := HG2.out.trans hg3
     have HK3 : Hid (∀ q, n ≤ q → (sw lk i (2 * i + 1)).getD q 0 = l.getD q 0) := fun q hq => by rw [sw_at lk (by rw [HLk.out]; omega) (by rw [HLk.out]; omega), if_neg (by omega), if_neg (by omega)]; exact HKk.out q hq
     clear ho3 hg3 HS1 mS
     go_wp2
     go_roundw
     case rel => exact ⟨2 * i + 1, sw lk i (2 * i + 1), by go_num, by omega, HH3, by exact (by rw [sw_len]; exact HLk.out : (sw lk i (2 * i + 1)).length = N), HSt, (sw_perm lk (by rw [HLk.out]; omega) (by rw [HLk.out]; omega)).trans HPk.out, HK3, HG3⟩
     case measure => simp [intOf]; omega
    ·
     rw [decide_eq_false hlt] at HL2
     have HSt : Hid (HpN lk n) := dn_end HDk.out (fun q h1 h2 h3 => by have := HMin.out q h1 h2 h3; omega)
     clear hlt HMin
     go_wp2_with fail
     refine HL2.out.mono ?_
     rintro e w2 ⟨rfl, hb2⟩
     have HH2 : Hid (HpIn w2 B nb (.slice (some ⟨g, 0, none⟩) N cp) lk) := HHk.out.below hb2
     have HG2 : Hid (w.grownBy w2 (some g)) := HGk.out.trans ⟨hb2.os, hb2.tape, hb2.output, hb2.size, fun k hk _ => hb2.block k hk⟩
     clear hb2 mL2 HL2
     go_wp2
     go_ret
     exact ⟨_, rfl, lk, HH2.out, HLk.out, HPk.out, HSt.out, HKk.out, HG2.out⟩

end Go.Proofs.YtaidhjjpdkkmcaaGreatDoor

/-! The contracts of container/heap over the landed heap of places: Push, Pop; the first is taken. -/
namespace Go.Proofs.YtaidhjjpdkkmcaaGreatDoor
open Go.RowKit

theorem Wrote.next {a b c : World} {S : Nat → Prop} {g : Nat} (h : Wrote a b S) (k : b.grownBy c (some g)) (hg : S g ∨ a.heap.size ≤ g) : Wrote a c S :=
 ⟨k.os.trans h.os, k.tape.trans h.tape, k.output.trans h.output, Nat.le_trans h.size k.size, fun i hi hs => (k.block i (Nat.lt_of_lt_of_le hi h.size) (fun e => by
  injection e with e
  subst e
  rcases hg with hg | hg
  ·
   exact hs hg
  ·
   omega)).trans (h.block i hi hs)⟩

set_option maxHeartbeats 2000000 in
set_option maxRecDepth 100000 in
theorem upPop (B nb g n cp : Nat) (l : List Nat) (w : World) (h : HpIn w B nb (.slice (some ⟨g, 0, none⟩) (n + 1) cp) l) (hn : l.length = n + 1) (hbig : n ≤ 1000) :
 Calls Tryz.prog 227 #[.pointer (some ⟨nb, 0, none⟩)] w fun e w' => e = .returned (.iface 3 (.int .i64 ((l.getD n 0 : Nat) : Int))) ∧ HpIn w' B nb (.slice (some ⟨g, 0, none⟩) n cp) (l.take n) ∧ w.grownBy w' (some nb) := by
 have c0 := h.cell
 have f0 := h.box.frozenAt 0
 have hrow := h.rown hn
 have c1 := nat_cell hrow hn n (by omega)
 have hcap := own_cap hrow
 have hcp : (n : Int) ≤ (cp : Int) := by omega
 obtain ⟨hst, hgs⟩ := h.box.stored 0 (.slice (some ⟨g, 0, none⟩) n cp)
 have hrow2 := own_take hrow n (by omega)
 rw [natV_take] at hrow2
 have HE : Hid (HpIn (w.setCell ⟨nb, 0, none⟩ (.slice (some ⟨g, 0, none⟩) n cp)) B nb (.slice (some ⟨g, 0, none⟩) n cp) (l.take n)) := ⟨hst, by
  have := hrow2.kept hgs (Or.inr (fun e => h.ne e))
  rw [List.length_take, hn, show min n (n + 1) = n by omega]
  exact this⟩
 have HG : Hid (w.grownBy (w.setCell ⟨nb, 0, none⟩ (.slice (some ⟨g, 0, none⟩) n cp)) (some nb)) := hgs
 obtain ⟨x, hx⟩ : ∃ x, l.getD n 0 = x := ⟨_, rfl⟩
 rw [hx] at c1 ⊢
 clear h hrow hst hgs hrow2 hx hn hcap
 go_enter Tryz.func227, Tryz.ntmps227
 go_wp2
 go_ret
 exact ⟨rfl, HE.out, HG.out⟩

set_option maxHeartbeats 2000000 in
set_option maxRecDepth 100000 in
theorem heapPush (B nb : Nat) (v : Value) (l : List Nat) (x : Nat) (w : World) (h : HpIn w B nb v l) (hp : HpN l l.length) (hl : l.length ≤ 100) :
 Calls Tryz.prog 144 #[.iface 175 (.pointer (some ⟨nb, 0, none⟩)), .iface 3 (.int .i64 (x : Int))] w fun e w' => e = .returned (.tuple #[]) ∧ ∃ v' l', HpIn w' B nb v' l' ∧ HpN l' l'.length ∧ l'.Perm (x :: l) ∧ Wrote w w' (fun k => k = nb ∨ v.ownBlock = some k) ∧ NewAt w v v' := by
 have HH : Hid (HpIn w B nb v l) := h
 have HP : Hid (HpN l l.length) := hp
 have mP := findPush (w := w) (nb := nb)
 clear h hp
 go_enter Tryz.func144, Tryz.ntmps144
 go_wp2_with fail
 refine (upPush B nb v l x w HH.out (by omega)).mono ?_
 rintro e w1 ⟨rfl, v1, h1, hw1, hn1⟩
 have hlen : (l ++ [x]).length = l.length + 1 := by simp
 obtain ⟨g, c, rfl⟩ := own_some (h1.rown hlen) (by omega)
 have HH1 : Hid (HpIn w1 B nb (.slice (some ⟨g, 0, none⟩) (l.length + 1) c) (l ++ [x])) := h1
 have HW1 : Hid (Wrote w w1 (fun k => k = nb ∨ v.ownBlock = some k)) := hw1
 have HN1 : Hid (NewAt w v (.slice (some ⟨g, 0, none⟩) (l.length + 1) c)) := hn1
 have HL1 : Hid ((l ++ [x]).length = l.length + 1) := hlen
 have mN := findLen h1.cell
 clear h1 hw1 hn1 hlen mP
 go_wp2_with (go_at_call 145; refine (upLen _ _ _ _).mono ?_; rintro e w2 ⟨rfl, hw2⟩; obtain rfl := hw2.symm)
 refine (heapUp B nb g (l.length + 1) c (l ++ [x]) l.length w1 HH1.out HL1.out (by omega) (up_start HP.out x) (by omega)).mono ?_
 rintro e w3 ⟨rfl, l3, h3, hl3, hp3, hn3, hg3⟩
 have HE : Hid (HpIn w3 B nb (.slice (some ⟨g, 0, none⟩) (l.length + 1) c) l3 ∧ HpN l3 l3.length ∧ l3.Perm (x :: l) ∧ Wrote w w3 (fun k => k = nb ∨ v.ownBlock = some k)) := ⟨h3, by rw [hl3]; exact hn3, hp3.trans (by simp), HW1.out.next hg3 (by
  rcases HN1.out g rfl with e | e
  ·
   exact Or.inl (Or.inr e)
  ·
   exact Or.inr e)⟩
 clear h3 hl3 hp3 hn3 hg3 mN
 go_wp2
 go_end0
 exact ⟨rfl, _, l3, HE.out.1, HE.out.2.1, HE.out.2.2.1, HE.out.2.2.2, HN1.out⟩

set_option maxHeartbeats 2000000 in
set_option maxRecDepth 100000 in
theorem heapPop (B nb g n cp : Nat) (l : List Nat) (w : World) (h : HpIn w B nb (.slice (some ⟨g, 0, none⟩) (n + 1) cp) l) (hn : l.length = n + 1) (hp : HpN l l.length) (hbig : n ≤ 900) :
 Calls Tryz.prog 169 #[.iface 175 (.pointer (some ⟨nb, 0, none⟩))] w fun e w' => e = .returned (.iface 3 (.int .i64 ((l.getD 0 0 : Nat) : Int))) ∧ ∃ l', HpIn w' B nb (.slice (some ⟨g, 0, none⟩) n cp) l' ∧ HpN l' l'.length ∧ l'.length = n ∧ (l.getD 0 0 :: l').Perm l ∧ (∀ y ∈ l, l.getD 0 0 ≤ y) ∧ Wrote w w' (fun k => k = nb ∨ k = g) := by
 have HH : Hid (HpIn w B nb (.slice (some ⟨g, 0, none⟩) (n + 1) cp) l) := h
 have HP : Hid (HpN l l.length) := hp
 have HL : Hid (l.length = n + 1) := hn
 have mN := findLen h.cell
 have mS := findSwap h.cell
 clear h hp hn
 go_enter Tryz.func169, Tryz.ntmps169
 go_wp2_with (go_at_call 145; refine (upLen _ _ _ _).mono ?_; rintro e w2 ⟨rfl, hw2⟩; obtain rfl := hw2.symm)
 have hS := upSwap B g cp (n + 1) l 0 n w (HH.out.rown HL.out) HL.out (by omega) (by omega)
 refine hS.mono ?_
 rintro e w1 ⟨rfl, ho1, hg1⟩
 have HH1 : Hid (HpIn w1 B nb (.slice (some ⟨g, 0, none⟩) (n + 1) cp) (sw l 0 n)) := HH.out.swapped ho1 (by rw [sw_len]; exact HL.out) hg1
 have HG1 : Hid (w.grownBy w1 (some g)) := hg1
 have HL1 : Hid ((sw l 0 n).length = n + 1) := by exact (by rw [sw_len]; exact HL.out : (sw l 0 n).length = n + 1)
 clear ho1 hg1 hS mS mN
 go_wp2_with fail
 refine (heapDown B nb g (n + 1) n cp (sw l 0 n) w1 HH1.out HL1.out rfl (dn_start HP.out HL.out) (by omega)).mono ?_
 rintro e w2 ⟨bb, rfl, l2, h2, hl2, hp2, hn2, hk2, hg2⟩
 have HH2 : Hid (HpIn w2 B nb (.slice (some ⟨g, 0, none⟩) (n + 1) cp) l2) := h2
 have HL2 : Hid (l2.length = n + 1) := hl2
 have HG2 : Hid (w.grownBy w2 (some g)) := HG1.out.trans hg2
 have hla : l2.getD n 0 = l.getD 0 0 := by rw [hk2 n (Nat.le_refl _), sw_at l (by rw [HL.out]; omega) (by rw [HL.out]; omega), if_pos rfl]
 have hpp := hp_pop HL.out HP.out (hp2.trans (sw_perm l (by rw [HL.out]; omega) (by rw [HL.out]; omega))) hla
 have HE : Hid (HpN (l2.take n) (l2.take n).length ∧ (l2.take n).length = n ∧ (l.getD 0 0 :: l2.take n).Perm l ∧ (∀ y ∈ l, l.getD 0 0 ≤ y)) := ⟨hp_take hn2 (by omega), by rw [List.length_take]; omega, hpp.1, hpp.2⟩
 have HLa : Hid (l2.getD n 0 = l.getD 0 0) := hla
 have mP := findPop (w := w2) (nb := nb)
 clear h2 hl2 hp2 hn2 hk2 hg2 hla hpp
 go_wp2_with fail
 refine (upPop B nb g n cp l2 w2 HH2.out HL2.out (by omega)).mono ?_
 rintro e w3 ⟨rfl, h3, hg3⟩
 rw [HLa.out]
 have HF : Hid (HpIn w3 B nb (.slice (some ⟨g, 0, none⟩) n cp) (l2.take n) ∧ Wrote w w3 (fun k => k = nb ∨ k = g)) := ⟨h3, (Wrote.of_grown HG2.out (fun k e => by injection e with e; exact Or.inr e.symm)).next hg3 (Or.inl (Or.inl rfl))⟩
 clear h3 hg3 mP
 go_wp2
 go_ret
 exact ⟨rfl, l2.take n, HF.out.1, HE.out.1, HE.out.2.1, HE.out.2.2.1, HE.out.2.2.2, HF.out.2⟩

set_option maxHeartbeats 2000000 in
set_option maxRecDepth 100000 in
theorem implTakeFirst (B nb g n cp : Nat) (l : List Nat) (w : World) (h : HpIn w B nb (.slice (some ⟨g, 0, none⟩) (n + 1) cp) l) (hn : l.length = n + 1) (hp : HpN l l.length) (hbig : n ≤ 900) :
 Calls Tryz.prog 146 #[.pointer (some ⟨nb, 0, none⟩)] w fun e w' => e = .returned (.int .i64 ((l.getD 0 0 : Nat) : Int)) ∧ ∃ l', HpIn w' B nb (.slice (some ⟨g, 0, none⟩) n cp) l' ∧ HpN l' l'.length ∧ l'.length = n ∧ (l.getD 0 0 :: l').Perm l ∧ (∀ y ∈ l, l.getD 0 0 ≤ y) ∧ Wrote w w' (fun k => k = nb ∨ k = g) := by
 have hP := heapPop B nb g n cp l w h hn hp hbig
 obtain ⟨x, hx⟩ : ∃ x, l.getD 0 0 = x := ⟨_, rfl⟩
 rw [hx] at hP ⊢
 have hta : ∀ W : World, (Instr.typeAssert (.iface 3 (.int .i64 (x : Int))) 20 3 false).run Tryz.prog W = .ok (.int .i64 (x : Int)) W := asInt x
 clear h hn hp hx
 go_enter Tryz.func146, Tryz.ntmps146
 go_wp2_with fail
 refine hP.mono ?_
 rintro e w1 ⟨rfl, hE⟩
 have HE : Hid (_) := hE
 clear hE hP
 go_wp2
 go_ret
 exact ⟨rfl, HE.out⟩

end Go.Proofs.YtaidhjjpdkkmcaaGreatDoor
