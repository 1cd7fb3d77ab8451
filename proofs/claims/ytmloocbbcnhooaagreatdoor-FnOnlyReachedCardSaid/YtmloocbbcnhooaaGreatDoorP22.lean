/-
  Parts of one proof, one behind the other: ErrK, ErrL, CheckS2.
-/
import Derived.Test.YtmloocbbcnhooaaGreatDoorP21
import Derived.Laws.Rows
import Derived.Test.YtmloocbbcnhooaaGreatDoorP11

/-! errors.As at the program's own error type (Go's own text walked): of an error that tells where, and of one that does not. -/
namespace Go.Proofs.YtmloocbbcnhooaaGreatDoor
open Go.RowKit Go.Extern.Stop Go.Stop Go.Extern

/-! ### What the model does at reflectlite's entries. -/
noncomputable def valE : Array Value → Sem Value := (Go.Extern.find Tryz.f105).getD (fun _ => pure (.bool false))
noncomputable def typE : Array Value → Sem Value := (Go.Extern.find Tryz.f106).getD (fun _ => pure (.bool false))
noncomputable def nilE : Array Value → Sem Value := (Go.Extern.find Tryz.f107).getD (fun _ => pure (.bool false))
noncomputable def kinE : Array Value → Sem Value := (Go.Extern.find Tryz.f163).getD (fun _ => pure (.bool false))
noncomputable def eltE : Array Value → Sem Value := (Go.Extern.find Tryz.f180).getD (fun _ => pure (.bool false))
noncomputable def impE : Array Value → Sem Value := (Go.Extern.find Tryz.f181).getD (fun _ => pure (.bool false))
noncomputable def asgE : Array Value → Sem Value := (Go.Extern.find Tryz.f178).getD (fun _ => pure (.bool false))
noncomputable def elvE : Array Value → Sem Value := (Go.Extern.find Tryz.f128).getD (fun _ => pure (.bool false))
noncomputable def setE : Array Value → Sem Value := (Go.Extern.find Tryz.f129).getD (fun _ => pure (.bool false))

/-- A type's handle, as a Type; a Value of it. -/
abbrev rtV (t : TypeId) : Value := .iface 180 (.agg #[.pointer (some ⟨9, t, none⟩)])
abbrev vlV (t : TypeId) (a : Addr) (f : Int) : Value := .agg #[.pointer (some ⟨9, t, none⟩), .pointer (some a), .int .u64 f]

theorem asVal (t : Addr) (w : World) : (valE #[.iface 133 (.pointer (some t))]).run Tryz.prog w = .ok (vlV 133 ⟨w.heap.size, 0, none⟩ 150) (w.alloc (.cells #[.pointer (some t)] 133)) := by kernel_rfl
theorem asTyp (a : Addr) (w : World) : (typE #[vlV 133 a 150]).run Tryz.prog w = .ok (rtV 133) w := by kernel_rfl
theorem asMKind (h : Value) (w : World) : (Go.method 359 180 (.agg #[h]) "Kind").run Tryz.prog w = .ok (163, h) w := by kernel_rfl
theorem asKindP (w : World) : (kinE #[.pointer (some ⟨9, 133, none⟩)]).run Tryz.prog w = .ok (.int .u8 22) w := by kernel_rfl
theorem asKindS (w : World) : (kinE #[.pointer (some ⟨9, 131, none⟩)]).run Tryz.prog w = .ok (.int .u8 25) w := by kernel_rfl
theorem asMElem (h : Value) (w : World) : (Go.method 359 180 (.agg #[h]) "Elem").run Tryz.prog w = .ok (180, .agg #[h]) w := by kernel_rfl
theorem asElem (w : World) : (eltE #[.agg #[.pointer (some ⟨9, 133, none⟩)]]).run Tryz.prog w = .ok (rtV 131) w := by kernel_rfl
theorem asMImpl (h : Value) (w : World) : (Go.method 359 180 (.agg #[h]) "Implements").run Tryz.prog w = .ok (181, .agg #[h]) w := by kernel_rfl
theorem asImpl (w : World) : (impE #[.agg #[.pointer (some ⟨9, 131, none⟩)], rtV 127]).run Tryz.prog w = .ok (.bool true) w := by kernel_rfl
theorem asMAsg (h : Value) (w : World) : (Go.method 359 180 (.agg #[h]) "AssignableTo").run Tryz.prog w = .ok (178, .agg #[h]) w := by kernel_rfl
theorem asAsgW (w : World) : (asgE #[.agg #[.pointer (some ⟨9, 131, none⟩)], rtV 131]).run Tryz.prog w = .ok (.bool true) w := by kernel_rfl
theorem asAsgE (w : World) : (asgE #[.agg #[.pointer (some ⟨9, 227, none⟩)], rtV 131]).run Tryz.prog w = .ok (.bool false) w := by kernel_rfl
theorem asTypeOfW (v : Value) (w : World) : (Extern.ReflectliteType.typeOf #[.iface 131 v]).run Tryz.prog w = .ok (rtV 131) w := by kernel_rfl
theorem asValW (a b c : Value) (w : World) : (valE #[.iface 131 (.agg #[a, b, c])]).run Tryz.prog w = .ok (vlV 131 ⟨w.heap.size, 0, none⟩ 153) (w.alloc (.cells #[a, b, c] 131)) := by kernel_rfl
theorem noAsE (v : Value) (xT : TypeId) (w : World) : (Instr.typeAssert (.iface 227 v) xT 184 true).run Tryz.prog w = .ok (.tuple #[.nilIface, .bool false]) w := run_typeAssert_lacksB Tryz.underlying184 (by kernel_rfl) (by kernel_rfl) v xT w

/-! ### The entries that read or write memory. -/
theorem asPartsP (a : Addr) (w : World) : (ReflectliteValue.parts (vlV 133 a 150)).run Tryz.prog w = .ok (some (133, a, 150)) w := by kernel_rfl
theorem asPartsT (a : Addr) (w : World) : (ReflectliteValue.parts (vlV 131 a 409)).run Tryz.prog w = .ok (some (131, a, 409)) w := by kernel_rfl
theorem asPartsS (a : Addr) (w : World) : (ReflectliteValue.parts (vlV 131 a 153)).run Tryz.prog w = .ok (some (131, a, 153)) w := by kernel_rfl
theorem asElemOf (w : World) : (Rtype.elem? 133).run Tryz.prog w = .ok (some 131) w := by kernel_rfl
theorem asMk (p : Addr) (w : World) : (ReflectliteValue.mk 131 p ReflectliteValue.flagAddr).run Tryz.prog w = .ok (vlV 131 p 409) w := by kernel_rfl
theorem asDirect (w : World) : (Rtype.directlyAssignable 131 131).run Tryz.prog w = .ok true w := by kernel_rfl
theorem asInfo : (Tryz.prog.info? 131).map (·.size) = some 3 := by kernel_rfl
theorem asNil (a p : Addr) (W : World) (ha : W.cell? a = some (.pointer (some p))) : (nilE #[vlV 133 a 150]).run Tryz.prog W = .ok (.bool false) W := by
  have e : nilE = ReflectliteValue.method (ReflectliteValue.valueError "reflectlite.Value.IsNil" 0) ReflectliteValue.isNil := by kernel_rfl
  rw [e, show ReflectliteValue.method (ReflectliteValue.valueError "reflectlite.Value.IsNil" 0) ReflectliteValue.isNil #[vlV 133 a 150] = (ReflectliteValue.parts (vlV 133 a 150) >>= _) from rfl]
  simp only [Sem.run_bind, asPartsP, Result.andThen]
  simp [ReflectliteValue.isNil, loadVar, isAgg, underlying, Tryz.underlying133, ha, Result.andThen]
theorem asElv (a p : Addr) (W : World) (ha : W.cell? a = some (.pointer (some p))) : (elvE #[vlV 133 a 150]).run Tryz.prog W = .ok (vlV 131 p 409) W := by
  have e : elvE = ReflectliteValue.method (ReflectliteValue.valueError "reflectlite.Value.Elem" 0) ReflectliteValue.elem := by kernel_rfl
  rw [e, show ReflectliteValue.method (ReflectliteValue.valueError "reflectlite.Value.Elem" 0) ReflectliteValue.elem #[vlV 133 a 150] = (ReflectliteValue.parts (vlV 133 a 150) >>= _) from rfl]
  simp only [Sem.run_bind, asPartsP, Result.andThen]
  simp [ReflectliteValue.elem, loadVar, isAgg, underlying, Tryz.underlying133, ha, Result.andThen, asElemOf, asMk]
theorem asSet (T b : Nat) (t0 t1 : TypeId) (old : Array Value) (x y z : Value) (W : World) (ho : W.heap[T]? = some (.cells old t0 (0, 0))) (hs : old.size = 3) (hb : W.heap[b]? = some (.cells #[x, y, z] t1 (0, 0))) (h1 : (#[x, y, z].all (·.oneCell')) = true) :
    (setE #[vlV 131 ⟨T, 0, none⟩ 409, vlV 131 ⟨b, 0, none⟩ 153]).run Tryz.prog W = .ok (.tuple #[]) (W.setRow T #[x, y, z]) := by
  have e : setE = ReflectliteValue.set := by kernel_rfl
  have hl : (loadVar 131 ⟨b, 0, none⟩).run Tryz.prog W = .ok (.agg #[x, y, z]) W := run_loadVar_row W b t1 131 #[x, y, z] (0, 0) _ hb Tryz.underlying131 rfl (by rw [asInfo]; rfl)
  have hst : (storeVar 131 ⟨T, 0, none⟩ (.agg #[x, y, z])).run Tryz.prog W = .ok () (W.setRow T #[x, y, z]) := run_storeVar_row W T t0 131 old #[x, y, z] ho (by rw [asInfo]; rfl) (by rw [hs]; rfl) h1
  rw [e, show ReflectliteValue.set #[vlV 131 ⟨T, 0, none⟩ 409, vlV 131 ⟨b, 0, none⟩ 153] = (ReflectliteValue.parts (vlV 131 ⟨T, 0, none⟩ 409) >>= fun p => ReflectliteValue.parts (vlV 131 ⟨b, 0, none⟩ 153) >>= _) from rfl]
  simp only [Sem.run_bind, asPartsT, asPartsS, Result.andThen]
  simp [ReflectliteValue.flagAddr, hl, hst, asDirect, Result.andThen]

end Go.Proofs.YtmloocbbcnhooaaGreatDoor

/-! errors.As at the program's own error type: its two contracts. -/
namespace Go.Proofs.YtmloocbbcnhooaaGreatDoor
open Go.RowKit Go.Extern.Stop Go.Stop Go.Extern

/-- The Value of the target, in a block. -/
abbrev tgO (w : World) : Obj := .cells #[.pointer (some ⟨9, 133, none⟩), .pointer (some ⟨w.heap.size, 0, none⟩), .int .u64 150] 152
abbrev tg1 (w : World) (t : Addr) : World := w.alloc (.cells #[.pointer (some t)] 133)
abbrev tg2 (w : World) (t : Addr) : World := (tg1 w t).alloc (tgO w)
abbrev tg3 (w : World) (t : Addr) : World := (tg2 w t).alloc (tgO w)
theorem tg_cell (w : World) (t : Addr) : (tg2 w t).cell? ⟨w.heap.size, 0, none⟩ = some (.pointer (some t)) ∧ (tg3 w t).cell? ⟨w.heap.size, 0, none⟩ = some (.pointer (some t)) := by
  have h1 : (tg1 w t).cell? ⟨w.heap.size, 0, none⟩ = some (.pointer (some t)) := by rw [World.cell?_alloc_at _ _ _ _ (by simp)]; rfl
  have h2 : (tg2 w t).cell? ⟨w.heap.size, 0, none⟩ = some (.pointer (some t)) := by rw [World.cell?_alloc_lt _ _ ⟨w.heap.size, 0, none⟩ (by simp)]; exact h1
  exact ⟨h2, by rw [World.cell?_alloc_lt _ _ ⟨w.heap.size, 0, none⟩ (by simp; omega)]; exact h2⟩
theorem tg_below (w : World) (t : Addr) : Below w.heap.size w (tg2 w t) ∧ Below w.heap.size w (tg3 w t) := by
  have h1 : Below w.heap.size w (tg1 w t) := (Below.refl _ _).alloc (Nat.le_refl _) _
  have h2 : Below w.heap.size w (tg2 w t) := h1.alloc (by simp) _
  exact ⟨h2, h2.alloc (by simp; omega) _⟩

set_option maxHeartbeats 8000000 in
set_option maxRecDepth 100000 in
theorem as_miss (a t : Addr) (w : World) (hg : w.cell? ⟨5, 0, none⟩ = some (.iface 180 (.agg #[.pointer (some ⟨9, 127, none⟩)]))) :
    Calls Tryz.prog 82 #[.iface 227 (.pointer (some a)), .iface 133 (.pointer (some t))] w fun e w' => e = .returned (.bool false) ∧ Below w.heap.size w w' := by
  have h6 := @run_callFunc_extern Tryz.prog 105 _ valE Tryz.func105 (by kernel_rfl) (by kernel_rfl) (by kernel_rfl) (by kernel_rfl)
  have h7 := @run_callFunc_extern Tryz.prog 106 _ typE Tryz.func106 (by kernel_rfl) (by kernel_rfl) (by kernel_rfl) (by kernel_rfl)
  have h8 := @run_callFunc_extern Tryz.prog 107 _ nilE Tryz.func107 (by kernel_rfl) (by kernel_rfl) (by kernel_rfl) (by kernel_rfl)
  have h27 := @run_callFunc_extern Tryz.prog 163 _ kinE Tryz.func163 (by kernel_rfl) (by kernel_rfl) (by kernel_rfl) (by kernel_rfl)
  have h37 := @run_callFunc_extern Tryz.prog 180 _ eltE Tryz.func180 (by kernel_rfl) (by kernel_rfl) (by kernel_rfl) (by kernel_rfl)
  have h38 := @run_callFunc_extern Tryz.prog 181 _ impE Tryz.func181 (by kernel_rfl) (by kernel_rfl) (by kernel_rfl) (by kernel_rfl)
  have h10 := @run_callFunc_extern Tryz.prog 126 _ Extern.ReflectliteType.typeOf Tryz.func126 (by kernel_rfl) (by kernel_rfl) (by kernel_rfl) (by kernel_rfl)
  have h35 := @run_callFunc_extern Tryz.prog 178 _ asgE Tryz.func178 (by kernel_rfl) (by kernel_rfl) (by kernel_rfl) (by kernel_rfl)
  have tO := isTypeOf
  have mA := asMAsg
  have aE := asAsgE
  have f6 := asVal
  have f7 := asTyp
  have mK := asMKind
  have mE := asMElem
  have mI := asMImpl
  have kP := asKindP
  have kS := asKindS
  have e27 := asElem
  have i25 := asImpl
  have nA := noAsE
  have uE := noUnwrapE
  have vE := noUnwrapsE
  have n8 := asNil ⟨w.heap.size, 0, none⟩ t (tg2 w t) (tg_cell w t).1
  have hlt : 5 < w.heap.size := World.block_lt_of_cell? w ⟨5, 0, none⟩ hg
  have hg2 : (tg2 w t).cell? ⟨5, 0, none⟩ = some (.iface 180 (.agg #[.pointer (some ⟨9, 127, none⟩)])) := ((tg_below w t).1.cell (p := ⟨5, 0, none⟩) hlt).trans hg
  have hbt := (tg_below w t).2
  go_enter Tryz.func82, Tryz.ntmps82
  go_wp2
  refine wp_loop_rounds 1 ?_
  rw [rounds_succ]
  go_wp2
  go_ret
  exact ⟨rfl, hbt⟩

set_option maxHeartbeats 8000000 in
set_option maxRecDepth 100000 in
theorem as_hit (p f : List UInt8) (a : Addr) (T : Nat) (t0 : TypeId) (old : Array Value) (w : World) (ho : w.heap[T]? = some (.cells old t0 (0, 0))) (hs : old.size = 3) (hg : w.cell? ⟨5, 0, none⟩ = some (.iface 180 (.agg #[.pointer (some ⟨9, 127, none⟩)]))) :
    Calls Tryz.prog 82 #[.iface 131 (.agg #[.string ⟨p.toArray⟩, .string ⟨f.toArray⟩, .iface 227 (.pointer (some a))]), .iface 133 (.pointer (some ⟨T, 0, none⟩))] w fun e w' => e = .returned (.bool true) ∧ ∃ w0, Below w.heap.size w w0 ∧ w0.heap[T]? = some (.cells old t0 (0, 0)) ∧ w' = w0.setRow T #[.string ⟨p.toArray⟩, .string ⟨f.toArray⟩, .iface 227 (.pointer (some a))] := by
  have hTl : T < w.heap.size := by
    rcases Nat.lt_or_ge T w.heap.size with h | h
    · exact h
    · rw [Array.getElem?_eq_none h] at ho; cases ho
  have hb4 : Below w.heap.size w ((tg3 w ⟨T, 0, none⟩).alloc (.cells #[.string ⟨p.toArray⟩, .string ⟨f.toArray⟩, .iface 227 (.pointer (some a))] 131)) := (tg_below w _).2.alloc (tg_below w ⟨T, 0, none⟩).2.size _
  have ho4 := (hb4.block T hTl).trans ho
  have h6 := @run_callFunc_extern Tryz.prog 105 _ valE Tryz.func105 (by kernel_rfl) (by kernel_rfl) (by kernel_rfl) (by kernel_rfl)
  have h7 := @run_callFunc_extern Tryz.prog 106 _ typE Tryz.func106 (by kernel_rfl) (by kernel_rfl) (by kernel_rfl) (by kernel_rfl)
  have h8 := @run_callFunc_extern Tryz.prog 107 _ nilE Tryz.func107 (by kernel_rfl) (by kernel_rfl) (by kernel_rfl) (by kernel_rfl)
  have h27 := @run_callFunc_extern Tryz.prog 163 _ kinE Tryz.func163 (by kernel_rfl) (by kernel_rfl) (by kernel_rfl) (by kernel_rfl)
  have h37 := @run_callFunc_extern Tryz.prog 180 _ eltE Tryz.func180 (by kernel_rfl) (by kernel_rfl) (by kernel_rfl) (by kernel_rfl)
  have h38 := @run_callFunc_extern Tryz.prog 181 _ impE Tryz.func181 (by kernel_rfl) (by kernel_rfl) (by kernel_rfl) (by kernel_rfl)
  have h10 := @run_callFunc_extern Tryz.prog 126 _ Extern.ReflectliteType.typeOf Tryz.func126 (by kernel_rfl) (by kernel_rfl) (by kernel_rfl) (by kernel_rfl)
  have h35 := @run_callFunc_extern Tryz.prog 178 _ asgE Tryz.func178 (by kernel_rfl) (by kernel_rfl) (by kernel_rfl) (by kernel_rfl)
  have h11 := @run_callFunc_extern Tryz.prog 128 _ elvE Tryz.func128 (by kernel_rfl) (by kernel_rfl) (by kernel_rfl) (by kernel_rfl)
  have h12 := @run_callFunc_extern Tryz.prog 129 _ setE Tryz.func129 (by kernel_rfl) (by kernel_rfl) (by kernel_rfl) (by kernel_rfl)
  have tO := asTypeOfW
  have mA := asMAsg
  have aW := asAsgW
  have vW := asValW
  have f6 := asVal
  have f7 := asTyp
  have mK := asMKind
  have mE := asMElem
  have mI := asMImpl
  have kP := asKindP
  have kS := asKindS
  have e27 := asElem
  have i25 := asImpl
  have n8 := asNil ⟨w.heap.size, 0, none⟩ ⟨T, 0, none⟩ (tg2 w ⟨T, 0, none⟩) (tg_cell w _).1
  have el := asElv ⟨w.heap.size, 0, none⟩ ⟨T, 0, none⟩ (tg3 w ⟨T, 0, none⟩) (tg_cell w _).2
  have st := asSet T (w.heap.size + 1 + 1 + 1) t0 131 old (.string ⟨p.toArray⟩) (.string ⟨f.toArray⟩) (.iface 227 (.pointer (some a))) _ ho4 hs (by rw [show w.heap.size + 1 + 1 + 1 = (tg3 w ⟨T, 0, none⟩).heap.size by simp]; exact heap_alloc_new _ _) (by simp [Value.oneCell'])
  have hlt : 5 < w.heap.size := World.block_lt_of_cell? w ⟨5, 0, none⟩ hg
  have hg2 : (tg2 w ⟨T, 0, none⟩).cell? ⟨5, 0, none⟩ = some (.iface 180 (.agg #[.pointer (some ⟨9, 127, none⟩)])) := ((tg_below w _).1.cell (p := ⟨5, 0, none⟩) hlt).trans hg
  clear ho
  go_enter Tryz.func82, Tryz.ntmps82
  go_wp2
  refine wp_loop_rounds 1 ?_
  rw [rounds_succ]
  go_wp2
  go_ret
  exact ⟨rfl, _, hb4, ho4, rfl⟩

end Go.Proofs.YtmloocbbcnhooaaGreatDoor

/-! The contracts of chapter 9's specification: CallCode, what is wrong in a function. -/
namespace Go.Proofs.YtmloocbbcnhooaaGreatDoor
open Go.RowKit


set_option maxHeartbeats 4000000 in
set_option maxRecDepth 100000 in
theorem specFunc9 (a : Option Addr) (len cap : Nat) (ps : List Pk) (nm : List UInt8) (ia : Option Addr) (il ic : Nat) (fa : Option Addr) (fl fc : Nat) (ims : List (List UInt8)) (fs : List Fn) (i : Nat) (w : World)
    (hl : PkgsIn w a len ps) (hi : TextsIn w ia il ims) (hf : FuncsIn w fa fl fs) (hlen : len ≤ 1048576) (hil : il ≤ 1048576) (hfl : fl ≤ 1048576) (hsh : ShortPs ps) (hil2 : i < fl) (htl : ∀ j, (fs.getD j fn0).2.2.length ≤ 1048576) :
    Calls Tryz.prog 88 #[.slice a len cap, .agg #[.string ⟨nm.toArray⟩, .slice ia il ic, .slice fa fl fc], .int .i64 (i : Int)] w fun e w' => e = .returned (.int .i64 (func9 ps (nm, ims, fs) i)) ∧ Below w.heap.size w w' := by
  have HC9 : Hid (∀ W n, PkgsIn W a len ps → TextsIn W ia il ims → FuncsIn W fa fl fs → Calls Tryz.prog 110 #[.slice a len cap, .agg #[.string ⟨nm.toArray⟩, .slice ia il ic, .slice fa fl fc], .int .i64 (i : Int), nodeVal n] W fun e w' => e = .returned (.int .i64 (call9 ps (nm, ims, fs) (i : Int) n)) ∧ Below W.heap.size W w') := fun W n h1 h2 h3 => specCall9 a len cap ps nm ia il ic fa fl fc ims fs (i : Int) n W h1 h2 h3 hlen hil hfl hsh
  obtain ⟨bx, hbx⟩ := Box3.new w (.string ⟨nm.toArray⟩) (.slice ia il ic) (.slice fa fl fc) 36
  obtain ⟨W1, hW1⟩ : ∃ W1, w.alloc (.cells #[.string ⟨nm.toArray⟩, .slice ia il ic, .slice fa fl fc] 36) = W1 := ⟨_, rfl⟩
  have hs1 : W1.heap.size = w.heap.size + 1 := by rw [← hW1]; simp
  rw [hW1] at bx hbx
  obtain ⟨b, off, rfl, hbl, r0, r1, ta, tl, tc, r2, _, hnd⟩ := (hf.below hbx).2 i hil2
  obtain ⟨f, hfe⟩ : ∃ f, fs.getD i fn0 = f := ⟨_, rfl⟩
  have htl2 := htl i
  have HV : Hid (func9 ps (nm, ims, fs) i = fnGo ps (nm, ims, fs) i f f.2.2 0) := by exact (by unfold func9; simp only; rw [hfe] : func9 ps (nm, ims, fs) i = fnGo ps (nm, ims, fs) i f f.2.2 0)
  rw [hfe] at r0 r1 hnd htl2
  obtain ⟨fnm, fA, t⟩ := f
  simp only at r0 r1 hnd htl2
  obtain rfl : t.length = tl := hnd.1
  obtain ⟨fx, hfx⟩ := Box3.new W1 (.string ⟨fnm.toArray⟩) (.int .i64 fA) (.slice ta t.length tc) 42
  obtain ⟨W2, hW2⟩ : ∃ W2, W1.alloc (.cells #[.string ⟨fnm.toArray⟩, .int .i64 fA, .slice ta t.length tc] 42) = W2 := ⟨_, rfl⟩
  rw [hW2] at fx hfx
  rw [hs1] at fx
  have p2 := bx.c2
  have p0 := bx.c0
  have p1 := bx.c1
  have hbw : Below w.heap.size w W2 := hbx.trans (hfx.mono (by omega))
  have hs2 : W2.heap.size = w.heap.size + 1 + 1 := by rw [← hW2]; simp [hs1]
  have HZ : Hid (∀ Z, Below W2.heap.size W2 Z → Box3 Z w.heap.size (.string ⟨nm.toArray⟩) (.slice ia il ic) (.slice (some ⟨b, off, none⟩) fl fc) ∧ Box3 Z (w.heap.size + 1) (.string ⟨fnm.toArray⟩) (.int .i64 fA) (.slice ta t.length tc) ∧ NodesIn Z ta t.length t ∧ PkgsIn Z a len ps ∧ TextsIn Z ia il ims ∧ FuncsIn Z (some ⟨b, off, none⟩) fl fs ∧ Below w.heap.size w Z) := fun Z hz => ⟨(bx.below hfx).below hz, fx.below hz, (hnd.below hfx).below hz, (hl.below hbw).below hz, (hi.below hbw).below hz, (hf.below hbw).below hz, hbw.trans (hz.mono hbw.size)⟩
  have g1 := fx.c1
  have hiz : (i : Int) < (fl : Int) := by omega
  clear bx hbx fx hfx hnd hl hi hf hbw hsh htl hfe
  go_enter Tryz.func88, Tryz.ntmps88
  go_wp2
  clear p0 p1 p2 r0 r1 r2
  go_loopw [8, 9] (fun cv jv wr => ∃ (j : Nat) (c : Int), cv = .int .i64 c ∧ jv = .int .i64 (j : Int) ∧ j ≤ t.length ∧ Hid (func9 ps (nm, ims, fs) i = fnGo ps (nm, ims, fs) i (fnm, fA, t) (t.drop j) c) ∧ Hid (Below W2.heap.size W2 wr)) (fun _ jv _ => t.length - (intOf jv).toNat)
  case atStart => exact ⟨0, 0, rfl, rfl, by omega, (by exact (by rw [HV.out, List.drop_zero] : func9 ps (nm, ims, fs) i = fnGo ps (nm, ims, fs) i (fnm, fA, t) (t.drop 0) 0)), Below.refl _ _⟩
  case round =>
    obtain ⟨j, c, rfl, rfl, hj, HG, HB⟩ := hrel
    obtain ⟨bp, bf, hnd, hpk, hti, hfi, hbw⟩ := HZ.out wr HB.out
    have q0 := bp.c0
    have q1 := bp.c1
    have q2 := bp.c2
    have g0 := bf.c0
    have g1 := bf.c1
    have g2 := bf.c2
    by_cases hlt : (j : Int) < (t.length : Int)
    · have hj2 : j < t.length := by omega
      obtain ⟨bn, on, rfl, _, m0, m1, m2, m3⟩ := hnd.2 j hj2
      have hdr := fnGo_drop (ps := ps) (p := (nm, ims, fs)) (i := i) (f := (fnm, fA, t)) hj2 c
      rw [← HG.out] at hdr
      obtain ⟨n, hn⟩ : ∃ n, t.getD j nd0 = n := ⟨_, rfl⟩
      rw [hn] at m0 m1 m2 m3 hdr
      obtain ⟨k, A, x, fn⟩ := n
      simp only at m0 m1 m2 m3
      obtain ⟨⟨n0, n1, n2, n3⟩, hb1⟩ := node_new wr (.int .i64 k) (.int .i64 A) (.string ⟨x.toArray⟩) (.string ⟨fn.toArray⟩) 39
      obtain ⟨X, hX⟩ : ∃ X, wr.alloc (.cells #[.int .i64 k, .int .i64 A, .string ⟨x.toArray⟩, .string ⟨fn.toArray⟩] 39) = X := ⟨_, rfl⟩
      rw [hX] at n0 n1 n2 n3 hb1
      have HBX : Hid (Below W2.heap.size W2 X) := HB.out.trans (hb1.mono HB.out.size)
      have HCl : Hid (_) := HC9.out X (k, A, x, fn) (hpk.below hb1) (hti.below hb1) (hfi.below hb1)
      have x0 := (bp.below hb1).c0
      have x1 := (bp.below hb1).c1
      have x2 := (bp.below hb1).c2
      have y1 := (bf.below hb1).c1
      clear bp bf hnd hpk hti hfi hb1 hn HG
      by_cases ha : arg9 (fnm, fA, t) (k, A, x, fn)
      · rw [if_pos ha] at hdr
        have HR : Hid (func9 ps (nm, ims, fs) i = 3) := hdr
        obtain ⟨hk2, hA2⟩ := ha
        simp only at hk2 hA2
        subst hk2
        have hE : Hid (Below w.heap.size w X) := (HZ.out X HBX.out).2.2.2.2.2.2
        clear hdr HCl
        go_wp2
        go_ret
        exact ⟨by rw [HR.out]; rfl, hE.out⟩
      · rw [if_neg ha] at hdr
        have hkA : k = 2 → ¬ fA ≤ A := fun e h => ha ⟨e, h⟩
        by_cases hk8 : k = 8
        · subst hk8
          unfold nodeVal at HCl
          simp only at HCl
          obtain ⟨cc, hcc⟩ : ∃ cc, call9 ps (nm, ims, fs) (i : Int) (8, A, x, fn) = cc := ⟨_, rfl⟩
          rw [hcc] at HCl
          by_cases hc0 : cc = 0
          · subst hc0
            rw [if_neg (fun h => h.2 hcc)] at hdr
            have HG2 : Hid (func9 ps (nm, ims, fs) i = fnGo ps (nm, ims, fs) i (fnm, fA, t) (t.drop (j + 1)) c) := hdr
            clear hdr ha hkA hcc
            go_wp2_with (go_at_call 110; refine Calls.mono HCl.out ?_; rintro e w7 ⟨rfl, hb7⟩; have HB7 : Hid (Below W2.heap.size W2 w7) := HBX.out.trans (hb7.mono HBX.out.size); clear hb7)
            go_roundw
            case rel => exact ⟨j + 1, c, rfl, by go_num, by omega, HG2, HB7⟩
            case measure => simp [intOf]; omega
          · rw [if_pos ⟨rfl, by rw [hcc]; exact hc0⟩] at hdr
            have HG2 : Hid (func9 ps (nm, ims, fs) i = fnGo ps (nm, ims, fs) i (fnm, fA, t) (t.drop (j + 1)) 4) := hdr
            have hcb : (cc != 0) = true := by rw [bne_iff_ne]; exact hc0
            have hcb2 : (cc == 0) = false := beq_eq_false_iff_ne.2 hc0
            clear hdr ha hkA hcc
            go_wp2_with (go_at_call 110; refine Calls.mono HCl.out ?_; rintro e w7 ⟨rfl, hb7⟩; have HB7 : Hid (Below W2.heap.size W2 w7) := HBX.out.trans (hb7.mono HBX.out.size); clear hb7)
            go_roundw
            case rel => exact ⟨j + 1, 4, rfl, by go_num, by omega, HG2, HB7⟩
            case measure => simp [intOf]; omega
        · rw [if_neg (fun h => hk8 h.1)] at hdr
          have HG2 : Hid (func9 ps (nm, ims, fs) i = fnGo ps (nm, ims, fs) i (fnm, fA, t) (t.drop (j + 1)) c) := hdr
          have hkb2 : (k == 8) = false := beq_eq_false_iff_ne.2 hk8
          clear hdr ha HCl
          by_cases hk2 : k = 2
          · have hAA := hkA hk2
            subst hk2
            clear hkA hkb2
            go_wp2
            go_roundw
            case rel => exact ⟨j + 1, c, rfl, by go_num, by omega, HG2, HBX⟩
            case measure => simp [intOf]; omega
          · have hkb3 : (k == 2) = false := beq_eq_false_iff_ne.2 hk2
            clear hkA
            go_wp2
            go_roundw
            case rel => exact ⟨j + 1, c, rfl, by go_num, by omega, HG2, HBX⟩
            case measure => simp [intOf]; omega
    · have HR : Hid (func9 ps (nm, ims, fs) i = c) := by exact (by rw [HG.out, List.drop_of_length_le (by omega)]; rfl : func9 ps (nm, ims, fs) i = c)
      have HE : Hid (Below w.heap.size w wr) := hbw
      clear bp bf hnd hpk hti hfi hbw HG
      go_wp2
      go_ret
      exact ⟨by rw [HR.out]; rfl, HE.out⟩

end Go.Proofs.YtmloocbbcnhooaaGreatDoor
