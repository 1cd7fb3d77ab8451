/-
  Parts of one proof, one behind the other: ErrK, ErrL, CheckS4, FltI.
-/
import Derived.Test.YtaidhjjpdkkmcaaGreatDoorP22
import Derived.Laws.Rows
import Derived.Test.YtaidhjjpdkkmcaaGreatDoorP13
import Derived.Test.YtaidhjjpdkkmcaaGreatDoorP3
import Derived.Test.YtaidhjjpdkkmcaaGreatDoorP4
import Derived.Deep.RegionHeld3

/-! errors.As at the program's own error type (Go's own text walked): of an error that tells where, and of one that does not. -/
namespace Go.Proofs.YtaidhjjpdkkmcaaGreatDoor
open Go.RowKit Go.Extern.Stop Go.Stop Go.Extern

/-! ### What the model does at reflectlite's entries. -/
noncomputable def valE : Array Value → Sem Value := (Go.Extern.find Tryz.f139).getD (fun _ => pure (.bool false))
noncomputable def typE : Array Value → Sem Value := (Go.Extern.find Tryz.f140).getD (fun _ => pure (.bool false))
noncomputable def nilE : Array Value → Sem Value := (Go.Extern.find Tryz.f141).getD (fun _ => pure (.bool false))
noncomputable def kinE : Array Value → Sem Value := (Go.Extern.find Tryz.f216).getD (fun _ => pure (.bool false))
noncomputable def eltE : Array Value → Sem Value := (Go.Extern.find Tryz.f233).getD (fun _ => pure (.bool false))
noncomputable def impE : Array Value → Sem Value := (Go.Extern.find Tryz.f234).getD (fun _ => pure (.bool false))
noncomputable def asgE : Array Value → Sem Value := (Go.Extern.find Tryz.f231).getD (fun _ => pure (.bool false))
noncomputable def elvE : Array Value → Sem Value := (Go.Extern.find Tryz.f166).getD (fun _ => pure (.bool false))
noncomputable def setE : Array Value → Sem Value := (Go.Extern.find Tryz.f167).getD (fun _ => pure (.bool false))

/-- A type's handle, as a Type; a Value of it. -/
abbrev rtV (t : TypeId) : Value := .iface 199 (.agg #[.pointer (some ⟨13, t, none⟩)])
abbrev vlV (t : TypeId) (a : Addr) (f : Int) : Value := .agg #[.pointer (some ⟨13, t, none⟩), .pointer (some a), .int .u64 f]

theorem asVal (t : Addr) (w : World) : (valE #[.iface 136 (.pointer (some t))]).run Tryz.prog w = .ok (vlV 136 ⟨w.heap.size, 0, none⟩ 150) (w.alloc (.cells #[.pointer (some t)] 136)) := by kernel_rfl
theorem asTyp (a : Addr) (w : World) : (typE #[vlV 136 a 150]).run Tryz.prog w = .ok (rtV 136) w := by kernel_rfl
theorem asMKind (h : Value) (w : World) : (Go.method 389 199 (.agg #[h]) "Kind").run Tryz.prog w = .ok (216, h) w := by kernel_rfl
theorem asKindP (w : World) : (kinE #[.pointer (some ⟨13, 136, none⟩)]).run Tryz.prog w = .ok (.int .u8 22) w := by kernel_rfl
theorem asKindS (w : World) : (kinE #[.pointer (some ⟨13, 134, none⟩)]).run Tryz.prog w = .ok (.int .u8 25) w := by kernel_rfl
theorem asMElem (h : Value) (w : World) : (Go.method 389 199 (.agg #[h]) "Elem").run Tryz.prog w = .ok (233, .agg #[h]) w := by kernel_rfl
theorem asElem (w : World) : (eltE #[.agg #[.pointer (some ⟨13, 136, none⟩)]]).run Tryz.prog w = .ok (rtV 134) w := by kernel_rfl
theorem asMImpl (h : Value) (w : World) : (Go.method 389 199 (.agg #[h]) "Implements").run Tryz.prog w = .ok (234, .agg #[h]) w := by kernel_rfl
theorem asImpl (w : World) : (impE #[.agg #[.pointer (some ⟨13, 134, none⟩)], rtV 130]).run Tryz.prog w = .ok (.bool true) w := by kernel_rfl
theorem asMAsg (h : Value) (w : World) : (Go.method 389 199 (.agg #[h]) "AssignableTo").run Tryz.prog w = .ok (231, .agg #[h]) w := by kernel_rfl
theorem asAsgW (w : World) : (asgE #[.agg #[.pointer (some ⟨13, 134, none⟩)], rtV 134]).run Tryz.prog w = .ok (.bool true) w := by kernel_rfl
theorem asAsgE (w : World) : (asgE #[.agg #[.pointer (some ⟨13, 258, none⟩)], rtV 134]).run Tryz.prog w = .ok (.bool false) w := by kernel_rfl
theorem asTypeOfW (v : Value) (w : World) : (Extern.ReflectliteType.typeOf #[.iface 134 v]).run Tryz.prog w = .ok (rtV 134) w := by kernel_rfl
theorem asValW (a b c : Value) (w : World) : (valE #[.iface 134 (.agg #[a, b, c])]).run Tryz.prog w = .ok (vlV 134 ⟨w.heap.size, 0, none⟩ 153) (w.alloc (.cells #[a, b, c] 134)) := by kernel_rfl
theorem noAsE (v : Value) (xT : TypeId) (w : World) : (Instr.typeAssert (.iface 258 v) xT 203 true).run Tryz.prog w = .ok (.tuple #[.nilIface, .bool false]) w := run_typeAssert_lacksB Tryz.underlying203 (by kernel_rfl) (by kernel_rfl) v xT w

/-! ### The entries that read or write memory. -/
theorem asPartsP (a : Addr) (w : World) : (ReflectliteValue.parts (vlV 136 a 150)).run Tryz.prog w = .ok (some (136, a, 150)) w := by kernel_rfl
theorem asPartsT (a : Addr) (w : World) : (ReflectliteValue.parts (vlV 134 a 409)).run Tryz.prog w = .ok (some (134, a, 409)) w := by kernel_rfl
theorem asPartsS (a : Addr) (w : World) : (ReflectliteValue.parts (vlV 134 a 153)).run Tryz.prog w = .ok (some (134, a, 153)) w := by kernel_rfl
theorem asElemOf (w : World) : (Rtype.elem? 136).run Tryz.prog w = .ok (some 134) w := by kernel_rfl
theorem asMk (p : Addr) (w : World) : (ReflectliteValue.mk 134 p ReflectliteValue.flagAddr).run Tryz.prog w = .ok (vlV 134 p 409) w := by kernel_rfl
theorem asDirect (w : World) : (Rtype.directlyAssignable 134 134).run Tryz.prog w = .ok true w := by kernel_rfl
theorem asInfo : (Tryz.prog.info? 134).map (·.size) = some 3 := by kernel_rfl
theorem asNil (a p : Addr) (W : World) (ha : W.cell? a = some (.pointer (some p))) : (nilE #[vlV 136 a 150]).run Tryz.prog W = .ok (.bool false) W := by
 have e : nilE = ReflectliteValue.method (ReflectliteValue.valueError "reflectlite.Value.IsNil" 0) ReflectliteValue.isNil := by kernel_rfl
 rw [e, show ReflectliteValue.method (ReflectliteValue.valueError "reflectlite.Value.IsNil" 0) ReflectliteValue.isNil #[vlV 136 a 150] = (ReflectliteValue.parts (vlV 136 a 150) >>= _) from rfl]
 simp only [Sem.run_bind, asPartsP, Result.andThen]
 simp [ReflectliteValue.isNil, loadVar, isAgg, underlying, Tryz.underlying136, ha, Result.andThen]
theorem asElv (a p : Addr) (W : World) (ha : W.cell? a = some (.pointer (some p))) : (elvE #[vlV 136 a 150]).run Tryz.prog W = .ok (vlV 134 p 409) W := by
 have e : elvE = ReflectliteValue.method (ReflectliteValue.valueError "reflectlite.Value.Elem" 0) ReflectliteValue.elem := by kernel_rfl
 rw [e, show ReflectliteValue.method (ReflectliteValue.valueError "reflectlite.Value.Elem" 0) ReflectliteValue.elem #[vlV 136 a 150] = (ReflectliteValue.parts (vlV 136 a 150) >>= _) from rfl]
 simp only [Sem.run_bind, asPartsP, Result.andThen]
 simp [ReflectliteValue.elem, loadVar, isAgg, underlying, Tryz.underlying136, ha, Result.andThen, asElemOf, asMk]
theorem asSet (T b : Nat) (t0 t1 : TypeId) (old : Array Value) (x y z : Value) (W : World) (ho : W.heap[T]? = some (.cells old t0 (0, 0))) (hs : old.size = 3) (hb : W.heap[b]? = some (.cells #[x, y, z] t1 (0, 0))) (h1 : (#[x, y, z].all (·.oneCell')) = true) :
 (setE #[vlV 134 ⟨T, 0, none⟩ 409, vlV 134 ⟨b, 0, none⟩ 153]).run Tryz.prog W = .ok (.tuple #[]) (W.setRow T #[x, y, z]) := by
 have e : setE = ReflectliteValue.set := by kernel_rfl
 have hl : (loadVar 134 ⟨b, 0, none⟩).run Tryz.prog W = .ok (.agg #[x, y, z]) W := run_loadVar_row W b t1 134 #[x, y, z] (0, 0) _ hb Tryz.underlying134 rfl (by rw [asInfo]; rfl)
 have hst : (storeVar 134 ⟨T, 0, none⟩ (.agg #[x, y, z])).run Tryz.prog W = .ok () (W.setRow T #[x, y, z]) := run_storeVar_row W T t0 134 old #[x, y, z] ho (by rw [asInfo]; rfl) (by rw [hs]; rfl) h1
 rw [e, show ReflectliteValue.set #[vlV 134 ⟨T, 0, none⟩ 409, vlV 134 ⟨b, 0, none⟩ 153] = (ReflectliteValue.parts (vlV 134 ⟨T, 0, none⟩ 409) >>= fun p => ReflectliteValue.parts (vlV 134 ⟨b, 0, none⟩ 153) >>= _) from rfl]
 simp only [Sem.run_bind, asPartsT, asPartsS, Result.andThen]
 simp [ReflectliteValue.flagAddr, hl, hst, asDirect, Result.andThen]

end Go.Proofs.YtaidhjjpdkkmcaaGreatDoor

/-! errors.As at the program's own error type: its two contracts. -/
namespace Go.Proofs.YtaidhjjpdkkmcaaGreatDoor
open Go.RowKit Go.Extern.Stop Go.Stop Go.Extern

/-- The Value of the target, in a block. -/
abbrev tgO (w : World) : Obj := .cells #[.pointer (some ⟨13, 136, none⟩), .pointer (some ⟨w.heap.size, 0, none⟩), .int .u64 150] 165
abbrev tg1 (w : World) (t : Addr) : World := w.alloc (.cells #[.pointer (some t)] 136)
abbrev tg2 (w : World) (t : Addr) : World := (tg1 w t).alloc (tgO w)
abbrev tg3 (w : World) (t : Addr) : World := (tg2 w t).alloc (tgO w)
theorem tg_cell (w : World) (t : Addr) : (tg2 w t).cell? ⟨w.heap.size, 0, none⟩ = some (.pointer (some t)) ∧ (tg3 w t).cell? ⟨w.heap.size, 0, none⟩ = some (.pointer (some t)) := by
 have h1 : (tg1 w t).cell? ⟨w.heap.size, 0, none⟩ = some (.pointer (some t)) := by rw [World.cell?_alloc_at _ _ _ _ (by simp)]; rfl
 have h2 : (tg2 w t).cell? ⟨w.heap.size, 0, none⟩ = some (.pointer (some t)) := by rw [World.cell?_alloc_lt _ _ ⟨w.heap.size, 0, none⟩ (by simp)]; exact h1
 exact ⟨h2, by rw [World.cell?_alloc_lt _ _ ⟨w.heap.size, 0, none⟩ (by simp; omega)]; exact h2⟩
theorem tg_below (w : World) (t : Addr) : Below w.heap.size w (tg2 w t) ∧ Below w.heap.size w (tg3 w t) := by
 have h1 : Below w.heap.size w (tg1 w t) := (Below.refl _ _).alloc (Nat.le_refl _) _
 have h2 : Below w.heap.size w (tg2 w t) := h1.alloc (by simp) _
 exact ⟨h2, h2.alloc (by simp; omega) _⟩

set_option maxHeartbeats 8000000 in
set_option maxRecDepth 100000 in
theorem as_miss (a t : Addr) (w : World) (hg : w.cell? ⟨5, 0, none⟩ = some (.iface 199 (.agg #[.pointer (some ⟨13, 130, none⟩)]))) :
 Calls Tryz.prog 107 #[.iface 258 (.pointer (some a)), .iface 136 (.pointer (some t))] w fun e w' => e = .returned (.bool false) ∧ Below w.heap.size w w' := by
 have h6 := @run_callFunc_extern Tryz.prog 139 _ valE Tryz.func139 (by kernel_rfl) (by kernel_rfl) (by kernel_rfl) (by kernel_rfl)
 have h7 := @run_callFunc_extern Tryz.prog 140 _ typE Tryz.func140 (by kernel_rfl) (by kernel_rfl) (by kernel_rfl) (by kernel_rfl)
 have h8 := @run_callFunc_extern Tryz.prog 141 _ nilE Tryz.func141 (by kernel_rfl) (by kernel_rfl) (by kernel_rfl) (by kernel_rfl)
 have h27 := @run_callFunc_extern Tryz.prog 216 _ kinE Tryz.func216 (by kernel_rfl) (by kernel_rfl) (by kernel_rfl) (by kernel_rfl)
 have h37 := @run_callFunc_extern Tryz.prog 233 _ eltE Tryz.func233 (by kernel_rfl) (by kernel_rfl) (by kernel_rfl) (by kernel_rfl)
 have h38 := @run_callFunc_extern Tryz.prog 234 _ impE Tryz.func234 (by kernel_rfl) (by kernel_rfl) (by kernel_rfl) (by kernel_rfl)
 have h10 := @run_callFunc_extern Tryz.prog 164 _ Extern.ReflectliteType.typeOf Tryz.func164 (by kernel_rfl) (by kernel_rfl) (by kernel_rfl) (by kernel_rfl)
 have h35 := @run_callFunc_extern Tryz.prog 231 _ asgE Tryz.func231 (by kernel_rfl) (by kernel_rfl) (by kernel_rfl) (by kernel_rfl)
 have tO := isTypeOf
 have mA := asMAsg
 have aE := asAsgE
 have f6 := asVal
 have f7 := asTyp
 have mK := asMKind
 have mE := asMElem
 have mI := asMImpl
 have kP := asKindP
 have kS := asKindS
 have e27 := asElem
 have i25 := asImpl
 have nA := noAsE
 have uE := noUnwrapE
 have vE := noUnwrapsE
 have n8 := asNil ⟨w.heap.size, 0, none⟩ t (tg2 w t) (tg_cell w t).1
 have hlt : 5 < w.heap.size := World.block_lt_of_cell? w ⟨5, 0, none⟩ hg
 have hg2 : (tg2 w t).cell? ⟨5, 0, none⟩ = some (.iface 199 (.agg #[.pointer (some ⟨13, 130, none⟩)])) := ((tg_below w t).1.cell (p := ⟨5, 0, none⟩) hlt).trans hg
 have hbt := (tg_below w t).2
 go_enter Tryz.func107, Tryz.ntmps107
 go_wp2
 refine wp_loop_rounds 1 ?_
 rw [rounds_succ]
 go_wp2
 go_ret
 exact ⟨rfl, hbt⟩

set_option maxHeartbeats 8000000 in
set_option maxRecDepth 100000 in
theorem as_hit (p f : List UInt8) (a : Addr) (T : Nat) (t0 : TypeId) (old : Array Value) (w : World) (ho : w.heap[T]? = some (.cells old t0 (0, 0))) (hs : old.size = 3) (hg : w.cell? ⟨5, 0, none⟩ = some (.iface 199 (.agg #[.pointer (some ⟨13, 130, none⟩)]))) :
 Calls Tryz.prog 107 #[.iface 134 (.agg #[.string ⟨p.toArray⟩, .string ⟨f.toArray⟩, .iface 258 (.pointer (some a))]), .iface 136 (.pointer (some ⟨T, 0, none⟩))] w fun e w' => e = .returned (.bool true) ∧ ∃ w0, Below w.heap.size w w0 ∧ w0.heap[T]? = some (.cells old t0 (0, 0)) ∧ w' = w0.setRow T #[.string ⟨p.toArray⟩, .string ⟨f.toArray⟩, .iface 258 (.pointer (some a))] := by
 have hTl : T < w.heap.size := by
  rcases Nat.lt_or_ge T w.heap.size with h | h
  ·
   exact h
  ·
   rw [Array.getElem?_eq_none h] at ho; cases ho
 have hb4 : Below w.heap.size w ((tg3 w ⟨T, 0, none⟩).alloc (.cells #[.string ⟨p.toArray⟩, .string ⟨f.toArray⟩, .iface 258 (.pointer (some a))] 134)) := (tg_below w _).2.alloc (tg_below w ⟨T, 0, none⟩).2.size _
 have ho4 := (hb4.block T hTl).trans ho
 have h6 := @run_callFunc_extern Tryz.prog 139 _ valE Tryz.func139 (by kernel_rfl) (by kernel_rfl) (by kernel_rfl) (by kernel_rfl)
 have h7 := @run_callFunc_extern Tryz.prog 140 _ typE Tryz.func140 (by kernel_rfl) (by kernel_rfl) (by kernel_rfl) (by kernel_rfl)
 have h8 := @run_callFunc_extern Tryz.prog 141 _ nilE Tryz.func141 (by kernel_rfl) (by kernel_rfl) (by kernel_rfl) (by kernel_rfl)
 have h27 := @run_callFunc_extern Tryz.prog 216 _ kinE Tryz.func216 (by kernel_rfl) (by kernel_rfl) (by kernel_rfl) (by kernel_rfl)
 have h37 := @run_callFunc_extern Tryz.prog 233 _ eltE Tryz.func233 (by kernel_rfl) (by kernel_rfl) (by kernel_rfl) (by kernel_rfl)
 have h38 := @run_callFunc_extern Tryz.prog 234 _ impE Tryz.func234 (by kernel_rfl) (by kernel_rfl) (by kernel_rfl) (by kernel_rfl)
 have h10 := @run_callFunc_extern Tryz.prog 164 _ Extern.ReflectliteType.typeOf Tryz.func164 (by kernel_rfl) (by kernel_rfl) (by kernel_rfl) (by kernel_rfl)
 have h35 := @run_callFunc_extern Tryz.prog 231 _ asgE Tryz.func231 (by kernel_rfl) (by kernel_rfl) (by kernel_rfl) (by kernel_rfl)
 have h11 := @run_callFunc_extern Tryz.prog 166 _ elvE Tryz.func166 (by kernel_rfl) (by kernel_rfl) (by kernel_rfl) (by kernel_rfl)
 have h12 := @run_callFunc_extern Tryz.prog 167 _ setE Tryz.func167 (by kernel_rfl) (by kernel_rfl) (by kernel_rfl) (by kernel_rfl)
 have tO := asTypeOfW
 have mA := asMAsg
 have aW := asAsgW
 have vW := asValW
 have f6 := asVal
 have f7 := asTyp
 have mK := asMKind
 have mE := asMElem
 have mI := asMImpl
 have kP := asKindP
 have kS := asKindS
 have e27 := asElem
 have i25 := asImpl
 have n8 := asNil ⟨w.heap.size, 0, none⟩ ⟨T, 0, none⟩ (tg2 w ⟨T, 0, none⟩) (tg_cell w _).1
 have el := asElv ⟨w.heap.size, 0, none⟩ ⟨T, 0, none⟩ (tg3 w ⟨T, 0, none⟩) (tg_cell w _).2
 have st := asSet T (w.heap.size + 1 + 1 + 1) t0 134 old (.string ⟨p.toArray⟩) (.string ⟨f.toArray⟩) (.iface 258 (.pointer (some a))) _ ho4 hs (by rw [show w.heap.size + 1 + 1 + 1 = (tg3 w ⟨T, 0, none⟩).heap.size by simp]; exact heap_alloc_new _ _) (by simp [Value.oneCell'])
 have hlt : 5 < w.heap.size := World.block_lt_of_cell? w ⟨5, 0, none⟩ hg
 have hg2 : (tg2 w ⟨T, 0, none⟩).cell? ⟨5, 0, none⟩ = some (.iface 199 (.agg #[.pointer (some ⟨13, 130, none⟩)])) := ((tg_below w _).1.cell (p := ⟨5, 0, none⟩) hlt).trans hg
 clear ho
 go_enter Tryz.func107, Tryz.ntmps107
 go_wp2
 refine wp_loop_rounds 1 ?_
 rw [rounds_succ]
 go_wp2
 go_ret
 exact ⟨rfl, _, hb4, ho4, rfl⟩

end Go.Proofs.YtaidhjjpdkkmcaaGreatDoor

/-! The contracts of chapter 9's specification: FaultOf, Exports. -/
namespace Go.Proofs.YtaidhjjpdkkmcaaGreatDoor
open Go.RowKit

set_option maxHeartbeats 2000000 in
set_option maxRecDepth 100000 in
theorem specFaultOf (a : Option Addr) (len cap : Nat) (ps : List Pk) (w : World) (hl : PkgsIn w a len ps) (hlen : len ≤ 1048576) (hsh : ShortPs ps) :
 Calls Tryz.prog 72 #[.slice a len cap] w fun e w' => e = .returned (fltVal (faultV ps)) ∧ Below w.heap.size w w' := by
 obtain ⟨fb, hb0⟩ := FBox.new w 106
 obtain ⟨W0, hW0⟩ : ∃ W0, w.alloc (.cells #[.int .i64 0, .string ⟨#[]⟩, .string ⟨#[]⟩] 106) = W0 := ⟨_, rfl⟩
 rw [hW0] at fb hb0
 have HP0 : Hid (PkgsIn W0 a len ps) := hl.below hb0
 have HF0 : Hid (FBox W0 w.heap.size) := fb
 have HB0 : Hid (Below w.heap.size w W0) := hb0
 have HSH : Hid (ShortPs ps) := hsh
 have HPr : Hid (_) := specProjectOk a len cap ps W0 HP0.out hlen hsh
 clear fb hb0 hl hsh
 rcases hp : projB ps with _ | _
 ·
  have HR : Hid (faultV ps = (6, [], [])) := by exact (by unfold faultV; rw [if_neg (by rw [hp]; simp)] : faultV ps = (6, [], []))
  rw [hp] at HPr
  clear hp
  go_enter Tryz.func72, Tryz.ntmps72
  go_wp2_with fail
  refine Calls.mono HPr.out ?_
  rintro e w1 ⟨rfl, hb1⟩
  have hfb := HF0.out.below hb1
  have hbw := HB0.out.trans (hb1.mono HB0.out.size)
  have f0 := hfb.1.c0
  have f1 := hfb.1.c1
  have f2 := hfb.1.c2
  have z0 := hfb.2 0
  have z1 := hfb.2 1
  have z2 := hfb.2 2
  obtain ⟨Y, hY, y0, y1, y2, hbY⟩ := hfb.put hbw (Nat.le_refl _) (6, [], [])
  simp only at hY y0 y1 y2
  have HE : Hid (Below w.heap.size w Y) := hbY
  clear hfb hbw hbY hb1
  go_wp2
  refine bodyPost_ret (v := fltVal (6, [], [])) (by unfold fltVal; simp [results, Tryz.results72, go_sem, y0, y1, y2]) rfl ?_
  exact ⟨by rw [HR.out], HE.out⟩
 ·
  have HR : Hid (faultV ps = fault9 ps) := by exact (by unfold faultV; rw [if_pos hp] : faultV ps = fault9 ps)
  rw [hp] at HPr
  go_enter Tryz.func72, Tryz.ntmps72
  go_wp2_with fail
  refine Calls.mono HPr.out ?_
  rintro e w1 ⟨rfl, hb1⟩
  have HP1 : Hid (PkgsIn w1 a len ps) := HP0.out.below hb1
  have HF1 : Hid (FBox w1 w.heap.size) := HF0.out.below hb1
  have HB1 : Hid (Below w.heap.size w w1) := HB0.out.trans (hb1.mono HB0.out.size)
  have HFl : Hid (_) := specFault9 a len cap ps w1 HP1.out HSH.out hp
  obtain ⟨f, hf⟩ : ∃ f, fault9 ps = f := ⟨_, rfl⟩
  rw [hf] at HR HFl
  clear hp hb1 hf
  go_wp2_with fail
  refine Calls.mono HFl.out ?_
  rintro e w2 ⟨rfl, hb2⟩
  have hfb := HF1.out.below hb2
  have hbw := HB1.out.trans (hb2.mono HB1.out.size)
  have f0 := hfb.1.c0
  have f1 := hfb.1.c1
  have f2 := hfb.1.c2
  have z0 := hfb.2 0
  have z1 := hfb.2 1
  have z2 := hfb.2 2
  obtain ⟨Y, hY, y0, y1, y2, hbY⟩ := hfb.put hbw (Nat.le_refl _) f
  have HE : Hid (Below w.heap.size w Y) := hbY
  unfold fltVal
  clear hfb hbw hbY hb2 HFl
  go_wp2
  refine bodyPost_ret (v := fltVal f) (by unfold fltVal; simp [results, Tryz.results72, go_sem, y0, y1, y2]) rfl ?_
  exact ⟨by rw [HR.out], HE.out⟩

end Go.Proofs.YtaidhjjpdkkmcaaGreatDoor

/-! The contracts of chapter 9's landed code: what is wrong in a function, in a package. -/
namespace Go.Proofs.YtaidhjjpdkkmcaaGreatDoor
open Go.RowKit

/-- The error that a fault's code is told by. -/
def KindIs (c : Int) (k : Nat) : Prop := (c = 1 ∧ k = 4) ∨ (c = 2 ∧ k = 5) ∨ (c = 3 ∧ k = 6) ∨ (c = 4 ∧ 1 ≤ k ∧ k ≤ 3) ∨ (c = 5 ∧ k = 7)
/-- What is wrong in a function: nothing, or an error of that kind. -/
def FwIs (er : Nat → Addr) (v : Value) (c : Int) : Prop := (c = 0 ∧ v = .nilIface) ∨ ∃ k, KindIs c k ∧ v = .iface 258 (.pointer (some (er k)))
def ArgsIs (er : Nat → Addr) (v : Value) (f : Fn) : Prop := ((∃ n ∈ f.2.2, arg9 f n) ∧ v = .iface 258 (.pointer (some (er 6)))) ∨ ((∀ n ∈ f.2.2, ¬ arg9 f n) ∧ v = .nilIface)
theorem mem_nd {t : List Nd} {j : Nat} (hj : j < t.length) : t.getD j nd0 ∈ t := by simp [List.getD, hj]
theorem all_nd {t : List Nd} {P : Nd → Prop} (h : ∀ m, m < t.length → P (t.getD m nd0)) : ∀ n ∈ t, P n := fun n hn => by
 obtain ⟨i, hi, e⟩ := List.mem_iff_getElem.1 hn
 have := h i hi
 simp only [List.getD, hi, List.getElem?_eq_getElem, Option.getD_some] at this
 rw [e] at this
 exact this

set_option maxHeartbeats 4000000 in
set_option maxRecDepth 100000 in
theorem implArgsWrong (f : Fn) (ta : Option Addr) (tl tc : Nat) (er : Nat → Addr) (w : World) (hE : Err8 w er) (hin : NodesIn w ta tl f.2.2) (hlen : tl ≤ 1048576) :
 Calls Tryz.prog 180 #[.agg #[.string ⟨f.1.toArray⟩, .int .i64 f.2.1, .slice ta tl tc]] w fun e w' => ∃ v, e = .returned v ∧ ArgsIs er v f ∧ Below w.heap.size w w' := by
 obtain ⟨nm, A, t⟩ := f
 simp only at hin ⊢
 obtain rfl : t.length = tl := hin.1
 obtain ⟨bx, hbx⟩ := Box3.new w (.string ⟨nm.toArray⟩) (.int .i64 A) (.slice ta t.length tc) 98
 obtain ⟨W, hW⟩ : ∃ W, w.alloc (.cells #[.string ⟨nm.toArray⟩, .int .i64 A, .slice ta t.length tc] 98) = W := ⟨_, rfl⟩
 obtain ⟨D, hD⟩ : ∃ D, w.heap.size = D := ⟨_, rfl⟩
 rw [hW] at bx hbx
 rw [hD] at bx
 have HZ : Hid (∀ Z, Below W.heap.size W Z → Box3 Z D (.string ⟨nm.toArray⟩) (.int .i64 A) (.slice ta t.length tc) ∧ NodesIn Z ta t.length t ∧ Err8 Z er ∧ Below w.heap.size w Z) := fun Z hz => ⟨bx.below hz, (hin.below hbx).below hz, (hE.below hbx).below hz, hbx.trans (hz.mono hbx.size)⟩
 have d2 := bx.c2
 have HB0 : Hid (Below W.heap.size W W) := Below.refl _ _
 clear bx hbx hin hE
 go_enter Tryz.func180, Tryz.ntmps180
 go_wp2
 go_loopw [8] (fun iv wr => ∃ j : Nat, iv = .int .i64 (j : Int) ∧ j ≤ t.length ∧ Hid (∀ m, m < j → ¬ arg9 (nm, A, t) (t.getD m nd0)) ∧ Hid (Below W.heap.size W wr)) (fun iv _ => t.length - (intOf iv).toNat)
 case atStart => exact ⟨0, rfl, by omega, (fun m hm => absurd hm (Nat.not_lt_zero _)), HB0⟩
 case round =>
  obtain ⟨j, rfl, hj, HA, HB⟩ := hrel
  clear HB0 d2
  obtain ⟨bx, hin, hE, hbw⟩ := HZ.out wr HB.out
  by_cases hlt : (j : Int) < (t.length : Int)
  ·
   have hj2 : j < t.length := by omega
   obtain ⟨b, off, rfl, hbl, c0, c1, c2, c3⟩ := hin.2 j hj2
   have hmem := mem_nd hj2
   obtain ⟨n, hn⟩ : ∃ n, t.getD j nd0 = n := ⟨_, rfl⟩
   have HN : Hid (t.getD j nd0 = n) := hn
   rw [hn] at c0 c1 c2 c3 hmem
   obtain ⟨k, nA, np, nf⟩ := n
   simp only at c0 c1 c2 c3
   obtain ⟨⟨n0, n1, n2, n3⟩, hbg⟩ := node_new wr (.int .i64 k) (.int .i64 nA) (.string ⟨np.toArray⟩) (.string ⟨nf.toArray⟩) 125
   obtain ⟨X, hX⟩ : ∃ X, wr.alloc (.cells #[.int .i64 k, .int .i64 nA, .string ⟨np.toArray⟩, .string ⟨nf.toArray⟩] 125) = X := ⟨_, rfl⟩
   obtain ⟨G, hG⟩ : ∃ G, wr.heap.size = G := ⟨_, rfl⟩
   rw [hX] at n0 n1 n2 n3 hbg
   rw [hG] at n0 n1 n2 n3
   have HBX : Hid (Below W.heap.size W X) := HB.out.trans (hbg.mono HB.out.size)
   have d1 := (HZ.out X HBX.out).1.c1
   have ga := (HZ.out X HBX.out).2.2.1.arg
   unfold sentV at ga
   have HBW : Hid (Below w.heap.size w X) := (HZ.out X HBX.out).2.2.2
   clear bx hin hE hbw hbg hn HB
   by_cases hk : k = 2
   ·
    subst hk
    have hkb : ((2 : Int) == 2) = true := rfl
    by_cases hA : A ≤ nA
    ·
     have HR : Hid (∃ n ∈ t, arg9 (nm, A, t) n) := ⟨_, hmem, rfl, hA⟩
     clear HA hmem
     go_wp2
     go_ret
     exact ⟨_, rfl, Or.inl ⟨HR.out, rfl⟩, HBW.out⟩
    ·
     have HR : Hid (∀ m, m < j + 1 → ¬ arg9 (nm, A, t) (t.getD m nd0)) := fun m hm => by
      rcases Nat.lt_or_ge m j with h | h
      ·
       exact HA.out m h
      ·
       obtain rfl : m = j := by omega
       rw [HN.out]
       exact fun h => hA h.2
     clear HA hmem
     go_wp2
     go_roundw
     case rel => exact ⟨j + 1, by go_num, by omega, HR, HBX⟩
     case measure => simp [intOf]; omega
   ·
    have hkb : (k == 2) = false := beq_eq_false_iff_ne.2 hk
    have HR : Hid (∀ m, m < j + 1 → ¬ arg9 (nm, A, t) (t.getD m nd0)) := fun m hm => by
     rcases Nat.lt_or_ge m j with h | h
     ·
      exact HA.out m h
     ·
      obtain rfl : m = j := by omega
      rw [HN.out]
      exact fun h => hk h.1
    clear HA hmem
    go_wp2
    go_roundw
    case rel => exact ⟨j + 1, by go_num, by omega, HR, HBX⟩
    case measure => simp [intOf]; omega
  ·
   have HR : Hid (∀ n ∈ t, ¬ arg9 (nm, A, t) n) := all_nd (fun m hm => HA.out m (by omega))
   have HBW : Hid (Below w.heap.size w wr) := hbw
   clear bx hin hE hbw HA
   go_wp2
   go_ret
   exact ⟨_, rfl, Or.inr ⟨HR.out, rfl⟩, by first | exact HBW.out | (rw [← hD]; exact HBW.out)⟩

set_option maxHeartbeats 8000000 in
set_option maxRecDepth 100000 in
theorem implFuncWrong (a : Option Addr) (len cap : Nat) (ps : List Pk) (f i : Nat) (er : Nat → Addr) (w : World) (hE : Err8 w er) (h : PkgsOk w a len cap ps) (hf : f < len) (hi : i < (ps.getD f pk0).2.2.length) :
 Calls Tryz.prog 162 #[.slice a len cap, .int .i64 (f : Int), .int .i64 (i : Int)] w fun e w' => ∃ v, e = .returned v ∧ FwIs er v (func9 ps (ps.getD f pk0) i) ∧ Below w.heap.size w w' := by
 obtain rfl : ps.length = len := h.hlen
 have hways := func9_ways ps (ps.getD f pk0) i
 have HCW : Hid (∀ (Z : World) (n : Nd), PkgsOk Z a ps.length cap ps → Err4 Z er → Calls Tryz.prog 181 #[.slice a ps.length cap, .int .i64 (f : Int), .int .i64 (i : Int), nodeVal n] Z fun e w' => e = .returned (cwV er (call9 ps (ps.getD f pk0) (i : Int) n)) ∧ Below Z.heap.size Z w') := fun Z n h1 h2 => implCallWrong a ps.length cap ps f i n er Z h1 h2 hf (Nat.le_of_lt hi)
 have HBad : Hid (∀ n : Nd, bad9 ps (ps.getD f pk0) i n ↔ n.1 = 8 ∧ call9 ps (ps.getD f pk0) (i : Int) n ≠ 0) := fun n => Iff.rfl
 have HBd : Hid (∀ n : Nd, 0 ≤ call9 ps (ps.getD f pk0) (i : Int) n ∧ call9 ps (ps.getD f pk0) (i : Int) n ≤ 3) := fun n => call9_bd ps (ps.getD f pk0) (i : Int) n
 obtain ⟨b, off, rfl, hbl, c0, ia, il, ic, fa, fl, fc, c1, c2, hpk⟩ := h.each f hf
 have hfl : (ps.getD f pk0).2.2.length = fl := hpk.f.1
 obtain ⟨b2, o2, rfl, hb2, r0, r1, ta, tl, tc, r2, _, hnd⟩ := hpk.f.2 i (by omega)
 have hflb := hpk.fl
 have htl : tl ≤ 1048576 := by have := (hpk.fs i).2.1; have := hnd.1; omega
 have hsm := h.small
 have hf2 : (f : Int) < (ps.length : Int) := by omega
 have hi2 : (i : Int) < (fl : Int) := by omega
 obtain ⟨F9v, hF9⟩ : ∃ c, func9 ps (ps.getD f pk0) i = c := ⟨_, rfl⟩
 rw [hF9] at hways ⊢
 generalize hB9 : bad9 ps (ps.getD f pk0) i = Bad at hways HBad
 obtain ⟨g, hg⟩ : ∃ g, (ps.getD f pk0).2.2.getD i fn0 = g := ⟨_, rfl⟩
 rw [hg] at r0 r1 hnd hways
 clear hg hF9 hfl hpk c0 c1 hi hB9
 obtain ⟨gn, gA, t⟩ := g
 simp only at r0 r1 hnd hways
 obtain rfl : t.length = tl := hnd.1
 obtain ⟨bx, hbx⟩ := Box3.new w (.string ⟨gn.toArray⟩) (.int .i64 gA) (.slice ta t.length tc) 98
 obtain ⟨W, hW⟩ : ∃ W, w.alloc (.cells #[.string ⟨gn.toArray⟩, .int .i64 gA, .slice ta t.length tc] 98) = W := ⟨_, rfl⟩
 obtain ⟨D, hD⟩ : ∃ D, w.heap.size = D := ⟨_, rfl⟩
 rw [hW] at bx hbx
 rw [hD] at bx
 have HZ : Hid (∀ Z, Below W.heap.size W Z → Box3 Z D (.string ⟨gn.toArray⟩) (.int .i64 gA) (.slice ta t.length tc) ∧ NodesIn Z ta t.length t ∧ Err8 Z er ∧ PkgsOk Z (some ⟨b, off, none⟩) ps.length cap ps ∧ Below D w Z) := fun Z hz => ⟨bx.below hz, (hnd.below hbx).below hz, (hE.below hbx).below hz, (h.below hbx).below hz, by rw [← hD]; exact hbx.trans (hz.mono hbx.size)⟩
 have HAr : Hid (_) := implArgsWrong (gn, gA, t) ta t.length tc er W (HZ.out W (Below.refl _ _)).2.2.1 (HZ.out W (Below.refl _ _)).2.1 htl
 simp only at HAr
 have d0 := bx.c0
 have d1 := bx.c1
 have d2 := bx.c2
 have HWy : Hid (_) := hways
 clear hbx hnd hE h hways
 go_enter Tryz.func162, Tryz.ntmps162
 go_wp2_with fail
 refine Calls.mono HAr.out ?_
 rintro e w1 ⟨v, rfl, ha, hb1⟩
 clear HAr d0 d1 d2
 rcases ha with ⟨ha, rfl⟩ | ⟨ha, rfl⟩
 ·
  have HR : Hid (F9v = 3) := by
   rcases HWy.out with ⟨_, e⟩ | ⟨h1, _⟩
   ·
    exact e
   ·
    obtain ⟨n, hn, h2⟩ := ha; exact absurd h2 (h1 n hn)
  have HBW : Hid (Below D w w1) := (HZ.out w1 hb1).2.2.2.2
  clear ha hb1 HWy
  go_wp2
  go_ret
  exact ⟨_, rfl, Or.inr ⟨6, Or.inr (Or.inr (Or.inl ⟨HR.out, rfl⟩)), rfl⟩, by first | exact HBW.out | (rw [hD]; exact HBW.out)⟩
 ·
  have HWz : Hid (((∃ n ∈ t, Bad n) ∧ F9v = 4) ∨ ((∀ n ∈ t, ¬ Bad n) ∧ F9v = 0)) := by
   rcases HWy.out with ⟨⟨n, hn, h2⟩, _⟩ | ⟨_, h1⟩
   ·
    exact absurd h2 (ha n hn)
   ·
    exact h1
  have d2 := (HZ.out w1 hb1).1.c2
  have HB0 : Hid (Below W.heap.size W w1) := hb1
  clear ha hb1 HWy
  go_wp2
  go_loopw [28] (fun iv wr => ∃ j : Nat, iv = .int .i64 (j : Int) ∧ j ≤ t.length ∧ Hid (∀ m, m < j → ¬ Bad (t.getD m nd0)) ∧ Hid (Below W.heap.size W wr)) (fun iv _ => t.length - (intOf iv).toNat)
  case atStart => exact ⟨0, rfl, by omega, (fun m hm => absurd hm (Nat.not_lt_zero _)), HB0⟩
  case round =>
   obtain ⟨j, rfl, hj, HA, HB⟩ := hrel
   clear HB0 d2
   obtain ⟨_, hin, _, _, hbw⟩ := HZ.out wr HB.out
   by_cases hlt : (j : Int) < (t.length : Int)
   ·
    have hj2 : j < t.length := by omega
    obtain ⟨bt, ot, rfl, hbt, k0, k1, k2, k3⟩ := hin.2 j hj2
    have hmem := mem_nd hj2
    obtain ⟨n, hn⟩ : ∃ n, t.getD j nd0 = n := ⟨_, rfl⟩
    have HN : Hid (t.getD j nd0 = n) := hn
    rw [hn] at k0 k1 k2 k3 hmem
    obtain ⟨k, nA, np, nf⟩ := n
    simp only at k0 k1 k2 k3
    obtain ⟨⟨n0, n1, n2, n3⟩, hbg⟩ := node_new wr (.int .i64 k) (.int .i64 nA) (.string ⟨np.toArray⟩) (.string ⟨nf.toArray⟩) 125
    obtain ⟨X, hX⟩ : ∃ X, wr.alloc (.cells #[.int .i64 k, .int .i64 nA, .string ⟨np.toArray⟩, .string ⟨nf.toArray⟩] 125) = X := ⟨_, rfl⟩
    obtain ⟨G, hG⟩ : ∃ G, wr.heap.size = G := ⟨_, rfl⟩
    rw [hX] at n0 n1 n2 n3 hbg
    rw [hG] at n0 n1 n2 n3
    have HBX : Hid (Below W.heap.size W X) := HB.out.trans (hbg.mono HB.out.size)
    have HNx : Hid (¬ Bad (k, nA, np, nf) → ∀ m, m < j + 1 → ¬ Bad (t.getD m nd0)) := fun hq m hm => by
     rcases Nat.lt_or_ge m j with h | h
     ·
      exact HA.out m h
     ·
      obtain rfl : m = j := by omega
      rw [HN.out]
      exact hq
    have hbad := HBad.out (k, nA, np, nf)
    have hbd := HBd.out (k, nA, np, nf)
    have HC : Hid (_) := HCW.out X (k, nA, np, nf) (HZ.out X HBX.out).2.2.2.1 (HZ.out X HBX.out).2.2.1.four
    unfold nodeVal at HC
    simp only at HC hbad
    obtain ⟨cv, hcv⟩ : ∃ cv, call9 ps (ps.getD f pk0) (i : Int) (k, nA, np, nf) = cv := ⟨_, rfl⟩
    rw [hcv] at HC hbad hbd
    clear hin hbw hbg hn HB HA hcv
    by_cases hk : k = 8
    ·
     subst hk
     have hkb : ((8 : Int) != 8) = false := rfl
     by_cases hc0 : cv = 0
     ·
      subst hc0
      have HR := HNx.out (fun hq => (hbad.1 hq).2 rfl)
      have hv : cwV er 0 = .nilIface := rfl
      rw [hv] at HC
      have HR2 : Hid (_) := HR
      clear hbad hbd HNx HR hmem
      go_wp2_with fail
      refine Calls.mono HC.out ?_
      rintro e w2 ⟨rfl, hb2⟩
      have HB2 : Hid (Below W.heap.size W w2) := HBX.out.trans (hb2.mono HBX.out.size)
      clear hb2
      go_wp2
      go_roundw
      case rel => exact ⟨j + 1, by go_num, by omega, HR2, HB2⟩
      case measure => simp [intOf]; omega
     ·
      have HR : Hid (F9v = 4) := by
       rcases HWz.out with ⟨_, e⟩ | ⟨h1, _⟩
       ·
        exact e
       ·
        exact absurd (hbad.2 ⟨rfl, hc0⟩) (h1 _ hmem)
      have hv : cwV er cv = .iface 258 (.pointer (some (er cv.toNat))) := by unfold cwV; rw [if_neg hc0]; rfl
      rw [hv] at HC
      have HK : Hid (1 ≤ cv.toNat ∧ cv.toNat ≤ 3) := by exact (by omega : 1 ≤ cv.toNat ∧ cv.toNat ≤ 3)
      generalize cv.toNat = ck at HC HK
      clear hbad hbd HNx hmem hv
      go_wp2_with fail
      refine Calls.mono HC.out ?_
      rintro e w2 ⟨rfl, hb2⟩
      have HBW : Hid (Below D w w2) := (HZ.out w2 (HBX.out.trans (hb2.mono HBX.out.size))).2.2.2.2
      clear hb2
      go_wp2
      go_ret
      exact ⟨_, rfl, Or.inr ⟨ck, Or.inr (Or.inr (Or.inr (Or.inl ⟨HR.out, HK.out⟩))), rfl⟩, by first | exact HBW.out | (rw [hD]; exact HBW.out)⟩
    ·
     have hkb : (k != 8) = true := by rw [bne_iff_ne]; exact hk
     have HR2 : Hid (_) := HNx.out (fun hq => hk (hbad.1 hq).1)
     clear hbad hbd HNx hmem HC
     go_wp2
     go_roundw
     case rel => exact ⟨j + 1, by go_num, by omega, HR2, HBX⟩
     case measure => simp [intOf]; omega
   ·
    have HR : Hid (F9v = 0) := by
     rcases HWz.out with ⟨⟨n, hn, h2⟩, _⟩ | ⟨_, e⟩
     ·
      exact absurd h2 (all_nd (P := fun n => ¬ Bad n) (fun m hm => HA.out m (by omega)) n hn)
     ·
      exact e
    have HBW : Hid (Below D w wr) := hbw
    clear hin hbw HA
    go_wp2
    go_ret
    exact ⟨_, rfl, Or.inl ⟨HR.out, rfl⟩, by first | exact HBW.out | (rw [hD]; exact HBW.out)⟩

end Go.Proofs.YtaidhjjpdkkmcaaGreatDoor
