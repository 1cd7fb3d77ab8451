/-
  Parts of one proof, one behind the other: LaidE8.
-/
import Derived.Test.YtdbljnddkbpanaaGreatDoorP49
import Derived.Test.YtdbljnddkbpanaaGreatDoorP40
import Derived.LaidHandle
namespace Go.Proofs.YtdbljnddkbpanaaGreatDoor
open Go.RowKit
theorem etyAt : Tryz.prog.globalNamed "errors.errorType" = some 5 := by kernel_rfl
theorem etyRt : (Tryz.prog.cutTypes.find? (·.1 == "internal/reflectlite.rtype")).map (·.2) = some 190 := by kernel_rfl
theorem etyRow:((List.range 279).filter fun t=>Tryz.prog.rowNamed t [101,114,114,111,114])=[127]:=by kernel_rfl
theorem etySize:Tryz.prog.types.size=279:=by kernel_rfl
theorem zpi {W : World} (h : handlesMet Tryz.prog [("errors.errorType", .iface "internal/reflectlite.rtype" (.agg [.ptr (.lit (.string [101, 114, 114, 111, 114]))]))] W) : W.cell? ⟨5, 0, none⟩ = some (.iface 190 (.agg #[.pointer (some ⟨13, 127, none⟩)])) := by
 obtain ⟨name,u,ty,e1,e2,e3,e4,e5⟩:=h _ (List.mem_singleton.2 rfl)
 have en:name=[101,114,114,111,114]:=(Option.some.inj e1).symm
 subst en
 obtain rfl:=Option.some.inj (etyRt.symm.trans e2)
 have hm:ty∈(List.range 279).filter fun t=>Tryz.prog.rowNamed t [101,114,114,111,114]:=List.mem_filter.2 ⟨List.mem_range.2 (by rw [←etySize];exact e3),e4⟩
 rw [etyRow] at hm
 obtain rfl:=List.mem_singleton.1 hm
 have hh:typeHandle Tryz.prog 127=.pointer (some ⟨13,127,none⟩):=by kernel_rfl
 rw [hh] at e5
 simpa using World.var?_cell etyAt e5 0
theorem err8_of {W : World} {t0 t1 t2 t3 t4 t5 t6 t7 : List UInt8} (h : laidMet Tryz.prog ([("loop.example/g00346/impl.errNotTold", t0), ("loop.example/g00346/impl.errFar", t1), ("loop.example/g00346/impl.errFunc", t2), ("loop.example/g00346/impl.errCount", t3), ("loop.example/g00346/impl.errImport", t4), ("loop.example/g00346/impl.errRing", t5), ("loop.example/g00346/impl.errArg", t6), ("loop.example/g00346/impl.errMain", t7)].map fun x => (x.1, sentD x.2)) W)
 (hg:W.cell? ⟨5,0,none⟩=some (.iface 190 (.agg #[.pointer (some ⟨13,127,none⟩)]))):∃ er,Err8 W er:=by
 have ht4 : zhb "loop.example/g00346/impl.errImport" = true ∧ zhb "loop.example/g00346/impl.errRing" = true ∧ zhb "loop.example/g00346/impl.errArg" = true ∧ zhb "loop.example/g00346/impl.errMain" = true := ⟨by kernel_rfl, by kernel_rfl, by kernel_rfl, by kernel_rfl⟩
 obtain ⟨al, hl, hnd, hE, hr⟩ := err4_of (l := [("loop.example/g00346/impl.errImport", t4), ("loop.example/g00346/impl.errRing", t5), ("loop.example/g00346/impl.errArg", t6), ("loop.example/g00346/impl.errMain", t7)]) h (by simp only [List.all_cons, List.all_nil, ht4, Bool.and_true])
 have hl8:al.length=8:=hl
 have c : ∀ i g n, i < 4 → ([("loop.example/g00346/impl.errImport", t4), ("loop.example/g00346/impl.errRing", t5), ("loop.example/g00346/impl.errArg", t6), ("loop.example/g00346/impl.errMain", t7)].getD i ("", [])).1 = n → Tryz.prog.globalNamed n = some g → W.cell? ⟨g, 0, none⟩ = some (zb2 (al.getD (i + 4) ⟨0, 0, none⟩)) := fun i g n hi hn hg => by
  have h1:=(hr i hi).1
  rw [hn] at h1
  simpa using World.var?_cell hg h1 0
 refine ⟨_,hE,c 0 2 _ (by decide) rfl (by kernel_rfl),c 1 3 _ (by decide) rfl (by kernel_rfl),c 2 4 _ (by decide) rfl (by kernel_rfl),c 3 1 _ (by decide) rfl (by kernel_rfl),fun i hi=>?_,fun i j hi hj hne=>zmq hnd (by omega) (by omega) hne,hg⟩
 rcases (show i=0∨i=1∨i=2∨i=3∨4≤i by omega) with rfl | rfl | rfl | rfl | h4
 ·
  exact hE.at0
 ·
  exact hE.at1
 ·
  exact hE.at2
 ·
  exact hE.at3
 ·
  obtain ⟨q,rfl⟩:∃ q,i=q+4:=⟨i-4,by omega⟩
  exact (hr q (by simp;omega)).2
end Go.Proofs.YtdbljnddkbpanaaGreatDoor
