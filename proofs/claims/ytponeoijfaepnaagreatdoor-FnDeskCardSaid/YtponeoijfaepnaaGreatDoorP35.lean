/-
  Parts of one proof, one behind the other: ErrK, ErrL, FltI, FltJ, HeapJ.
-/
import Derived.Test.YtponeoijfaepnaaGreatDoorP34
namespace Go.Proofs.YtponeoijfaepnaaGreatDoor
open Go.RowKit
set_option maxHeartbeats 8000000
set_option maxRecDepth 100000
section
open Go.RowKit Go.Extern.Stop Go.Stop Go.Extern
noncomputable def valE:Array Value→Sem Value:=(Go.Extern.find Tryz.f166).getD (fun _=>pure (.bool false))
noncomputable def typE:Array Value→Sem Value:=(Go.Extern.find Tryz.f167).getD (fun _=>pure (.bool false))
noncomputable def nilE:Array Value→Sem Value:=(Go.Extern.find Tryz.f168).getD (fun _=>pure (.bool false))
noncomputable def kinE:Array Value→Sem Value:=(Go.Extern.find Tryz.f225).getD (fun _=>pure (.bool false))
noncomputable def eltE:Array Value→Sem Value:=(Go.Extern.find Tryz.f242).getD (fun _=>pure (.bool false))
noncomputable def impE:Array Value→Sem Value:=(Go.Extern.find Tryz.f243).getD (fun _=>pure (.bool false))
noncomputable def asgE:Array Value→Sem Value:=(Go.Extern.find Tryz.f240).getD (fun _=>pure (.bool false))
noncomputable def elvE:Array Value→Sem Value:=(Go.Extern.find Tryz.f187).getD (fun _=>pure (.bool false))
noncomputable def setE:Array Value→Sem Value:=(Go.Extern.find Tryz.f188).getD (fun _=>pure (.bool false))
abbrev rtV (t:TypeId):Value:=.iface 210 (.agg #[.pointer (some ⟨13,t,none⟩)])
abbrev vlV (t:TypeId) (a:Addr) (f:Int):Value:=.agg #[.pointer (some ⟨13,t,none⟩),.pointer (some a),.int .u64 f]
theorem asVal (t:Addr) (w:World):(valE #[.iface 162 (.pointer (some t))]).run Tryz.prog w=.ok (vlV 162 ⟨w.heap.size,0,none⟩ 150) (w.alloc (.cells #[.pointer (some t)] 162)):=by kernel_rfl
theorem asTyp (a:Addr) (w:World):(typE #[vlV 162 a 150]).run Tryz.prog w=.ok (rtV 162) w:=by kernel_rfl
theorem zpi (h : Value) (w : World) : (Go.method 389 210 (.agg #[h]) "Kind").run Tryz.prog w = .ok (225, h) w := by kernel_rfl
theorem zpm (w:World):(kinE #[.pointer (some ⟨13,162,none⟩)]).run Tryz.prog w=.ok (.int .u8 22) w:=by kernel_rfl
theorem zpl (w:World):(kinE #[.pointer (some ⟨13,160,none⟩)]).run Tryz.prog w=.ok (.int .u8 25) w:=by kernel_rfl
theorem zpk (h : Value) (w : World) : (Go.method 389 210 (.agg #[h]) "Elem").run Tryz.prog w = .ok (242, .agg #[h]) w := by kernel_rfl
theorem asElem (w:World):(eltE #[.agg #[.pointer (some ⟨13,162,none⟩)]]).run Tryz.prog w=.ok (rtV 160) w:=by kernel_rfl
theorem zpj (h : Value) (w : World) : (Go.method 389 210 (.agg #[h]) "Implements").run Tryz.prog w = .ok (243, .agg #[h]) w := by kernel_rfl
theorem asImpl (w:World):(impE #[.agg #[.pointer (some ⟨13,160,none⟩)],rtV 156]).run Tryz.prog w=.ok (.bool true) w:=by kernel_rfl
theorem asMAsg (h : Value) (w : World) : (Go.method 389 210 (.agg #[h]) "AssignableTo").run Tryz.prog w = .ok (240, .agg #[h]) w := by kernel_rfl
theorem asAsgW (w:World):(asgE #[.agg #[.pointer (some ⟨13,160,none⟩)],rtV 160]).run Tryz.prog w=.ok (.bool true) w:=by kernel_rfl
theorem asAsgE (w:World):(asgE #[.agg #[.pointer (some ⟨13,258,none⟩)],rtV 160]).run Tryz.prog w=.ok (.bool false) w:=by kernel_rfl
theorem zph (v:Value) (w:World):(Extern.ReflectliteType.typeOf #[.iface 160 v]).run Tryz.prog w=.ok (rtV 160) w:=by kernel_rfl
theorem asValW (a b c:Value) (w:World):(valE #[.iface 160 (.agg #[a,b,c])]).run Tryz.prog w=.ok (vlV 160 ⟨w.heap.size,0,none⟩ 153) (w.alloc (.cells #[a,b,c] 160)):=by kernel_rfl
theorem noAsE (v:Value) (xT:TypeId) (w:World):(Instr.typeAssert (.iface 258 v) xT 214 true).run Tryz.prog w=.ok (.tuple #[.nilIface,.bool false]) w:=run_typeAssert_lacksB Tryz.underlying214 (by kernel_rfl) (by kernel_rfl) v xT w
theorem zmj (a:Addr) (w:World):(ReflectliteValue.parts (vlV 162 a 150)).run Tryz.prog w=.ok (some (162,a,150)) w:=by kernel_rfl
theorem asPartsT (a:Addr) (w:World):(ReflectliteValue.parts (vlV 160 a 409)).run Tryz.prog w=.ok (some (160,a,409)) w:=by kernel_rfl
theorem asPartsS (a:Addr) (w:World):(ReflectliteValue.parts (vlV 160 a 153)).run Tryz.prog w=.ok (some (160,a,153)) w:=by kernel_rfl
theorem asElemOf (w:World):(Rtype.elem? 162).run Tryz.prog w=.ok (some 160) w:=by kernel_rfl
theorem asMk (p:Addr) (w:World):(ReflectliteValue.mk 160 p ReflectliteValue.flagAddr).run Tryz.prog w=.ok (vlV 160 p 409) w:=by kernel_rfl
theorem asDirect (w:World):(Rtype.directlyAssignable 160 160).run Tryz.prog w=.ok true w:=by kernel_rfl
theorem asInfo:(Tryz.prog.info? 160).map (·.size)=some 3:=by kernel_rfl
theorem asNil (a p:Addr) (W:World) (ha:W.cell? a=some (.pointer (some p))):(nilE #[vlV 162 a 150]).run Tryz.prog W=.ok (.bool false) W:=by
 have e : nilE = ReflectliteValue.method (ReflectliteValue.valueError "reflectlite.Value.IsNil" 0) ReflectliteValue.isNil := by kernel_rfl
 rw [e, show ReflectliteValue.method (ReflectliteValue.valueError "reflectlite.Value.IsNil" 0) ReflectliteValue.isNil #[vlV 162 a 150] = (ReflectliteValue.parts (vlV 162 a 150) >>= _) from rfl];simp only [Sem.run_bind,zmj,Result.andThen];simp [ReflectliteValue.isNil,loadVar,isAgg,underlying,Tryz.underlying162,ha,Result.andThen]
theorem asElv (a p:Addr) (W:World) (ha:W.cell? a=some (.pointer (some p))):(elvE #[vlV 162 a 150]).run Tryz.prog W=.ok (vlV 160 p 409) W:=by
 have e : elvE = ReflectliteValue.method (ReflectliteValue.valueError "reflectlite.Value.Elem" 0) ReflectliteValue.elem := by kernel_rfl
 rw [e, show ReflectliteValue.method (ReflectliteValue.valueError "reflectlite.Value.Elem" 0) ReflectliteValue.elem #[vlV 162 a 150] = (ReflectliteValue.parts (vlV 162 a 150) >>= _) from rfl];simp only [Sem.run_bind,zmj,Result.andThen];simp [ReflectliteValue.elem,loadVar,isAgg,underlying,Tryz.underlying162,ha,Result.andThen,asElemOf,asMk]
theorem asSet (T b:Nat) (t0 t1:TypeId) (old:Array Value) (x y z:Value) (W:World) (ho:W.heap[T]?=some (.cells old t0 (0,0))) (hs:old.size=3) (hb:W.heap[b]?=some (.cells #[x,y,z] t1 (0,0))) (h1:(#[x,y,z].all (·.oneCell'))=true) :
 (setE #[vlV 160 ⟨T,0,none⟩ 409,vlV 160 ⟨b,0,none⟩ 153]).run Tryz.prog W=.ok (.tuple #[]) (W.setRow T #[x,y,z]):=by
 have e:setE=ReflectliteValue.set:=by kernel_rfl
 have hl:(loadVar 160 ⟨b,0,none⟩).run Tryz.prog W=.ok (.agg #[x,y,z]) W:=run_loadVar_row W b t1 160 #[x,y,z] (0,0) _ hb Tryz.underlying160 rfl (by rw [asInfo];rfl);have hst:(storeVar 160 ⟨T,0,none⟩ (.agg #[x,y,z])).run Tryz.prog W=.ok () (W.setRow T #[x,y,z]):=run_storeVar_row W T t0 160 old #[x,y,z] ho (by rw [asInfo];rfl) (by rw [hs];rfl) h1;rw [e,show ReflectliteValue.set #[vlV 160 ⟨T,0,none⟩ 409,vlV 160 ⟨b,0,none⟩ 153]=(ReflectliteValue.parts (vlV 160 ⟨T,0,none⟩ 409) >>= fun p=>ReflectliteValue.parts (vlV 160 ⟨b,0,none⟩ 153) >>= _) from rfl];simp only [Sem.run_bind,asPartsT,asPartsS,Result.andThen];simp [ReflectliteValue.flagAddr,hl,hst,asDirect,Result.andThen]
end
section
open Go.RowKit Go.Extern.Stop Go.Stop Go.Extern
abbrev tgO (w:World):Obj:=.cells #[.pointer (some ⟨13,162,none⟩),.pointer (some ⟨w.heap.size,0,none⟩),.int .u64 150] 187
abbrev tg1 (w:World) (t:Addr):World:=w.alloc (.cells #[.pointer (some t)] 162)
abbrev tg2 (w:World) (t:Addr):World:=(tg1 w t).alloc (tgO w)
abbrev tg3 (w:World) (t:Addr):World:=(tg2 w t).alloc (tgO w)
theorem zkj (w:World) (t:Addr):(tg2 w t).cell? ⟨w.heap.size,0,none⟩=some (.pointer (some t))∧(tg3 w t).cell? ⟨w.heap.size,0,none⟩=some (.pointer (some t)):=by
 have h1:(tg1 w t).cell? ⟨w.heap.size,0,none⟩=some (.pointer (some t)):=by rw [World.cell?_alloc_at _ _ _ _ (by simp)];rfl
 have h2:(tg2 w t).cell? ⟨w.heap.size,0,none⟩=some (.pointer (some t)):=by rw [World.cell?_alloc_lt _ _ ⟨w.heap.size,0,none⟩ (by simp)];exact h1
 exact ⟨h2,by rw [World.cell?_alloc_lt _ _ ⟨w.heap.size,0,none⟩ (by simp;omega)];exact h2⟩
theorem zeE (w:World) (t:Addr):Below w.heap.size w (tg2 w t)∧Below w.heap.size w (tg3 w t):=by
 have h1:Below w.heap.size w (tg1 w t):=(Below.refl _ _).alloc (Nat.le_refl _) _;have h2:Below w.heap.size w (tg2 w t):=h1.alloc (by simp) _;exact ⟨h2,h2.alloc (by simp;omega) _⟩
theorem as_miss (a t:Addr) (w:World) (hg:w.cell? ⟨6,0,none⟩=some (.iface 210 (.agg #[.pointer (some ⟨13,156,none⟩)]))) :
 Calls Tryz.prog 138 #[.iface 258 (.pointer (some a)),.iface 162 (.pointer (some t))] w fun e w'=>e=.returned (.bool false)∧Below w.heap.size w w':=by
 have h6:=@run_callFunc_extern Tryz.prog 166 _ valE Tryz.func166 (by kernel_rfl) (by kernel_rfl) (by kernel_rfl) (by kernel_rfl);have h7:=@run_callFunc_extern Tryz.prog 167 _ typE Tryz.func167 (by kernel_rfl) (by kernel_rfl) (by kernel_rfl) (by kernel_rfl);have h8:=@run_callFunc_extern Tryz.prog 168 _ nilE Tryz.func168 (by kernel_rfl) (by kernel_rfl) (by kernel_rfl) (by kernel_rfl);have h27:=@run_callFunc_extern Tryz.prog 225 _ kinE Tryz.func225 (by kernel_rfl) (by kernel_rfl) (by kernel_rfl) (by kernel_rfl);have h37:=@run_callFunc_extern Tryz.prog 242 _ eltE Tryz.func242 (by kernel_rfl) (by kernel_rfl) (by kernel_rfl) (by kernel_rfl);have h38:=@run_callFunc_extern Tryz.prog 243 _ impE Tryz.func243 (by kernel_rfl) (by kernel_rfl) (by kernel_rfl) (by kernel_rfl);have h10:=@run_callFunc_extern Tryz.prog 185 _ Extern.ReflectliteType.typeOf Tryz.func185 (by kernel_rfl) (by kernel_rfl) (by kernel_rfl) (by kernel_rfl);have h35:=@run_callFunc_extern Tryz.prog 240 _ asgE Tryz.func240 (by kernel_rfl) (by kernel_rfl) (by kernel_rfl) (by kernel_rfl);have tO:=zeY;have mA:=asMAsg;have aE:=asAsgE;have f6:=asVal;have f7:=asTyp;have mK:=zpi;have mE:=zpk;have mI:=zpj;have kP:=zpm;have kS:=zpl;have e27:=asElem;have i25:=asImpl;have nA:=noAsE;have uE:=zgB;have vE:=zfq;have n8:=asNil ⟨w.heap.size,0,none⟩ t (tg2 w t) (zkj w t).1;have hlt:6<w.heap.size:=World.block_lt_of_cell? w ⟨6,0,none⟩ hg;have hg2:(tg2 w t).cell? ⟨6,0,none⟩=some (.iface 210 (.agg #[.pointer (some ⟨13,156,none⟩)])):=((zeE w t).1.cell (p:=⟨6,0,none⟩) hlt).trans hg;have hbt:=(zeE w t).2
 go_enter Tryz.func138,Tryz.ntmps138
 go_wp2;refine wp_loop_rounds 1 ?_;rw [rounds_succ];go_wp2;go_ret;exact ⟨rfl,hbt⟩
theorem as_hit (p f:List UInt8) (a:Addr) (T:Nat) (t0:TypeId) (old:Array Value) (w:World) (ho:w.heap[T]?=some (.cells old t0 (0,0))) (hs:old.size=3) (hg:w.cell? ⟨6,0,none⟩=some (.iface 210 (.agg #[.pointer (some ⟨13,156,none⟩)]))) :
 Calls Tryz.prog 138 #[.iface 160 (.agg #[.string ⟨p.toArray⟩,.string ⟨f.toArray⟩,.iface 258 (.pointer (some a))]),.iface 162 (.pointer (some ⟨T,0,none⟩))] w fun e w'=>e=.returned (.bool true)∧∃ w0,Below w.heap.size w w0∧w0.heap[T]?=some (.cells old t0 (0,0))∧w'=w0.setRow T #[.string ⟨p.toArray⟩,.string ⟨f.toArray⟩,.iface 258 (.pointer (some a))]:=by
 have hTl:T<w.heap.size:=by
  rcases Nat.lt_or_ge T w.heap.size with h | h
  ·exact h
  ·rw [Array.getElem?_eq_none h] at ho;cases ho
 have hb4:Below w.heap.size w ((tg3 w ⟨T,0,none⟩).alloc (.cells #[.string ⟨p.toArray⟩,.string ⟨f.toArray⟩,.iface 258 (.pointer (some a))] 160)):=(zeE w _).2.alloc (zeE w ⟨T,0,none⟩).2.size _;have ho4:=(hb4.block T hTl).trans ho;have h6:=@run_callFunc_extern Tryz.prog 166 _ valE Tryz.func166 (by kernel_rfl) (by kernel_rfl) (by kernel_rfl) (by kernel_rfl);have h7:=@run_callFunc_extern Tryz.prog 167 _ typE Tryz.func167 (by kernel_rfl) (by kernel_rfl) (by kernel_rfl) (by kernel_rfl);have h8:=@run_callFunc_extern Tryz.prog 168 _ nilE Tryz.func168 (by kernel_rfl) (by kernel_rfl) (by kernel_rfl) (by kernel_rfl);have h27:=@run_callFunc_extern Tryz.prog 225 _ kinE Tryz.func225 (by kernel_rfl) (by kernel_rfl) (by kernel_rfl) (by kernel_rfl);have h37:=@run_callFunc_extern Tryz.prog 242 _ eltE Tryz.func242 (by kernel_rfl) (by kernel_rfl) (by kernel_rfl) (by kernel_rfl);have h38:=@run_callFunc_extern Tryz.prog 243 _ impE Tryz.func243 (by kernel_rfl) (by kernel_rfl) (by kernel_rfl) (by kernel_rfl);have h10:=@run_callFunc_extern Tryz.prog 185 _ Extern.ReflectliteType.typeOf Tryz.func185 (by kernel_rfl) (by kernel_rfl) (by kernel_rfl) (by kernel_rfl);have h35:=@run_callFunc_extern Tryz.prog 240 _ asgE Tryz.func240 (by kernel_rfl) (by kernel_rfl) (by kernel_rfl) (by kernel_rfl);have h11:=@run_callFunc_extern Tryz.prog 187 _ elvE Tryz.func187 (by kernel_rfl) (by kernel_rfl) (by kernel_rfl) (by kernel_rfl);have h12:=@run_callFunc_extern Tryz.prog 188 _ setE Tryz.func188 (by kernel_rfl) (by kernel_rfl) (by kernel_rfl) (by kernel_rfl);have tO:=zph;have mA:=asMAsg;have aW:=asAsgW;have vW:=asValW;have f6:=asVal;have f7:=asTyp;have mK:=zpi;have mE:=zpk;have mI:=zpj;have kP:=zpm;have kS:=zpl;have e27:=asElem;have i25:=asImpl;have n8:=asNil ⟨w.heap.size,0,none⟩ ⟨T,0,none⟩ (tg2 w ⟨T,0,none⟩) (zkj w _).1;have el:=asElv ⟨w.heap.size,0,none⟩ ⟨T,0,none⟩ (tg3 w ⟨T,0,none⟩) (zkj w _).2
 have st:=asSet T (w.heap.size+1+1+1) t0 160 old (.string ⟨p.toArray⟩) (.string ⟨f.toArray⟩) (.iface 258 (.pointer (some a))) _ ho4 hs (by rw [show w.heap.size+1+1+1=(tg3 w ⟨T,0,none⟩).heap.size by simp];exact heap_alloc_new _ _) (by simp [Value.oneCell']);have hlt:6<w.heap.size:=World.block_lt_of_cell? w ⟨6,0,none⟩ hg;have hg2:(tg2 w ⟨T,0,none⟩).cell? ⟨6,0,none⟩=some (.iface 210 (.agg #[.pointer (some ⟨13,156,none⟩)])):=((zeE w _).1.cell (p:=⟨6,0,none⟩) hlt).trans hg;clear ho
 go_enter Tryz.func138,Tryz.ntmps138
 go_wp2;refine wp_loop_rounds 1 ?_;rw [rounds_succ];go_wp2;go_ret;exact ⟨rfl,_,hb4,ho4,rfl⟩
end
def zi6 (c:Int) (k:Nat):Prop:=(c=1∧k=4)∨(c=2∧k=5)∨(c=3∧k=6)∨(c=4∧1≤k∧k≤3)∨(c=5∧k=7)
def FwIs (er:Nat→Addr) (v:Value) (c:Int):Prop:=(c=0∧v=.nilIface)∨∃ k,zi6 c k∧v=.iface 258 (.pointer (some (er k)))
def ArgsIs (er:Nat→Addr) (v:Value) (f:Fn):Prop:=((∃ n∈f.2.2,arg9 f n)∧v=.iface 258 (.pointer (some (er 6))))∨((∀ n∈f.2.2,¬arg9 f n)∧v=.nilIface)
theorem mem_nd {t:List Nd} {j:Nat} (hj:j<t.length):t.getD j nd0∈t:=by simp [List.getD,hj]
theorem all_nd {t:List Nd} {P:Nd→Prop} (h:∀ m,m<t.length→P (t.getD m nd0)):∀ n∈t,P n:=fun n hn=>by
 obtain ⟨i,hi,e⟩:=List.mem_iff_getElem.1 hn;have:=h i hi;simp only [List.getD,hi,List.getElem?_eq_getElem,Option.getD_some] at this;rw [e] at this;exact this
theorem ziB (f:Fn) (ta:Option Addr) (tl tc:Nat) (er:Nat→Addr) (w:World) (hE:Err8 w er) (hin:zay w ta tl f.2.2) (hlen:tl≤1048576) :
 Calls Tryz.prog 195 #[.agg #[.string ⟨f.1.toArray⟩,.int .i64 f.2.1,.slice ta tl tc]] w fun e w'=>∃ v,e=.returned v∧ArgsIs er v f∧Below w.heap.size w w':=by
 obtain ⟨nm,A,t⟩:=f;simp only at hin ⊢;obtain rfl:t.length=tl:=hin.1;obtain ⟨bx,hbx⟩:=Box3.new w (.string ⟨nm.toArray⟩) (.int .i64 A) (.slice ta t.length tc) 107;obtain ⟨W,hW⟩:∃ W,w.alloc (.cells #[.string ⟨nm.toArray⟩,.int .i64 A,.slice ta t.length tc] 107)=W:=⟨_,rfl⟩
 obtain ⟨D,hD⟩:∃ D,w.heap.size=D:=⟨_,rfl⟩
 rw [hW] at bx hbx;rw [hD] at bx;have HZ:Hid (∀ Z,Below W.heap.size W Z→Box3 Z D (.string ⟨nm.toArray⟩) (.int .i64 A) (.slice ta t.length tc)∧zay Z ta t.length t∧Err8 Z er∧Below w.heap.size w Z):=fun Z hz=>⟨bx.below hz,(hin.below hbx).below hz,(hE.below hbx).below hz,hbx.trans (hz.mono hbx.size)⟩
 have d2:=bx.c2;have HB0:Hid (Below W.heap.size W W):=Below.refl _ _;clear bx hbx hin hE
 go_enter Tryz.func195,Tryz.ntmps195
 go_wp2
 go_loopw [8] (fun iv wr=>∃ j:Nat,iv=.int .i64 (j:Int)∧j≤t.length∧Hid (∀ m,m<j→¬arg9 (nm,A,t) (t.getD m nd0))∧Hid (Below W.heap.size W wr)) (fun iv _=>t.length-(intOf iv).toNat)
 case atStart=>exact ⟨0,rfl,by omega,(fun m hm=>absurd hm (Nat.not_lt_zero _)),HB0⟩
 case round =>
  obtain ⟨j,rfl,hj,HA,HB⟩:=hrel;clear HB0 d2;obtain ⟨bx,hin,hE,hbw⟩:=HZ.out wr HB.out;by_cases hlt:(j:Int)<(t.length:Int)
  ·
   have hj2:j<t.length:=by omega
   obtain ⟨b,off,rfl,hbl,c0,c1,c2,c3⟩:=hin.2 j hj2;have hmem:=mem_nd hj2;obtain ⟨n,hn⟩:∃ n,t.getD j nd0=n:=⟨_,rfl⟩
   have HN:Hid (t.getD j nd0=n):=hn;rw [hn] at c0 c1 c2 c3 hmem;obtain ⟨k,nA,np,nf⟩:=n;simp only at c0 c1 c2 c3;obtain ⟨⟨n0,n1,n2,n3⟩,hbg⟩:=zeT wr (.int .i64 k) (.int .i64 nA) (.string ⟨np.toArray⟩) (.string ⟨nf.toArray⟩) 104;obtain ⟨X,hX⟩:∃ X,wr.alloc (.cells #[.int .i64 k,.int .i64 nA,.string ⟨np.toArray⟩,.string ⟨nf.toArray⟩] 104)=X:=⟨_,rfl⟩
   obtain ⟨G,hG⟩:∃ G,wr.heap.size=G:=⟨_,rfl⟩
   rw [hX] at n0 n1 n2 n3 hbg;rw [hG] at n0 n1 n2 n3;have HBX:Hid (Below W.heap.size W X):=HB.out.trans (hbg.mono HB.out.size);have d1:=(HZ.out X HBX.out).1.c1;have ga:=(HZ.out X HBX.out).2.2.1.arg;unfold zb3 at ga;have HBW:Hid (Below w.heap.size w X):=(HZ.out X HBX.out).2.2.2;clear bx hin hE hbw hbg hn HB;by_cases hk:k=2
   ·
    subst hk;have hkb:((2:Int)==2)=true:=rfl;by_cases hA:A≤nA
    ·have HR:Hid (∃ n∈t,arg9 (nm,A,t) n):=⟨_,hmem,rfl,hA⟩;clear HA hmem;go_wp2;go_ret;exact ⟨_,rfl,Or.inl ⟨HR.out,rfl⟩,HBW.out⟩
    ·
     have HR:Hid (∀ m,m<j+1→¬arg9 (nm,A,t) (t.getD m nd0)):=fun m hm=>by
      rcases Nat.lt_or_ge m j with h | h
      ·exact HA.out m h
      ·
       obtain rfl:m=j:=by omega
       rw [HN.out];exact fun h=>hA h.2
     clear HA hmem;go_wp2;go_roundw
     case rel=>exact ⟨j+1,by go_num,by omega,HR,HBX⟩
     case measure=>simp [intOf];omega
   ·
    have hkb:(k==2)=false:=beq_eq_false_iff_ne.2 hk
    have HR:Hid (∀ m,m<j+1→¬arg9 (nm,A,t) (t.getD m nd0)):=fun m hm=>by
     rcases Nat.lt_or_ge m j with h | h
     ·exact HA.out m h
     ·
      obtain rfl:m=j:=by omega
      rw [HN.out];exact fun h=>hk h.1
    clear HA hmem;go_wp2;go_roundw
    case rel=>exact ⟨j+1,by go_num,by omega,HR,HBX⟩
    case measure=>simp [intOf];omega
  ·have HR:Hid (∀ n∈t,¬arg9 (nm,A,t) n):=all_nd (fun m hm=>HA.out m (by omega));have HBW:Hid (Below w.heap.size w wr):=hbw;clear bx hin hE hbw HA;go_wp2;go_ret;exact ⟨_,rfl,Or.inr ⟨HR.out,rfl⟩,by first | exact HBW.out | (rw [←hD];exact HBW.out)⟩
theorem ziz (a:Option Addr) (len cap:Nat) (ps:List Pk) (f i:Nat) (er:Nat→Addr) (w:World) (hE:Err8 w er) (h:zab w a len cap ps) (hf:f<len) (hi:i<(ps.getD f pk0).2.2.length) :
 Calls Tryz.prog 183 #[.slice a len cap,.int .i64 (f:Int),.int .i64 (i:Int)] w fun e w'=>∃ v,e=.returned v∧FwIs er v (func9 ps (ps.getD f pk0) i)∧Below w.heap.size w w':=by
 obtain rfl:ps.length=len:=h.hlen;have hways:=znd ps (ps.getD f pk0) i;have HCW:Hid (∀ (Z:World) (n:Nd),zab Z a ps.length cap ps→Err4 Z er→Calls Tryz.prog 196 #[.slice a ps.length cap,.int .i64 (f:Int),.int .i64 (i:Int),za9 n] Z fun e w'=>e=.returned (cwV er (zb7 ps (ps.getD f pk0) (i:Int) n))∧Below Z.heap.size Z w'):=fun Z n h1 h2=>ziA a ps.length cap ps f i n er Z h1 h2 hf (Nat.le_of_lt hi)
 have HBad:Hid (∀ n:Nd,bad9 ps (ps.getD f pk0) i n↔n.1=8∧zb7 ps (ps.getD f pk0) (i:Int) n≠0):=fun n=>Iff.rfl
 have HBd:Hid (∀ n:Nd,0≤zb7 ps (ps.getD f pk0) (i:Int) n∧zb7 ps (ps.getD f pk0) (i:Int) n≤3):=fun n=>call9_bd ps (ps.getD f pk0) (i:Int) n
 obtain ⟨b,off,rfl,hbl,c0,ia,il,ic,fa,fl,fc,c1,c2,hpk⟩:=h.each f hf;have hfl:(ps.getD f pk0).2.2.length=fl:=hpk.f.1;obtain ⟨b2,o2,rfl,hb2,r0,r1,ta,tl,tc,r2,_,hnd⟩:=hpk.f.2 i (by omega);have hflb:=hpk.fl;have htl:tl≤1048576:=by have:=(hpk.fs i).2.1;have:=hnd.1;omega
 have hsm:=h.small;have hf2:(f:Int)<(ps.length:Int):=by omega
 have hi2:(i:Int)<(fl:Int):=by omega
 obtain ⟨F9v,hF9⟩:∃ c,func9 ps (ps.getD f pk0) i=c:=⟨_,rfl⟩
 rw [hF9] at hways ⊢;generalize hB9:bad9 ps (ps.getD f pk0) i=Bad at hways HBad;obtain ⟨g,hg⟩:∃ g,(ps.getD f pk0).2.2.getD i fn0=g:=⟨_,rfl⟩
 rw [hg] at r0 r1 hnd hways;clear hg hF9 hfl hpk c0 c1 hi hB9;obtain ⟨gn,gA,t⟩:=g;simp only at r0 r1 hnd hways;obtain rfl:t.length=tl:=hnd.1;obtain ⟨bx,hbx⟩:=Box3.new w (.string ⟨gn.toArray⟩) (.int .i64 gA) (.slice ta t.length tc) 107;obtain ⟨W,hW⟩:∃ W,w.alloc (.cells #[.string ⟨gn.toArray⟩,.int .i64 gA,.slice ta t.length tc] 107)=W:=⟨_,rfl⟩
 obtain ⟨D,hD⟩:∃ D,w.heap.size=D:=⟨_,rfl⟩
 rw [hW] at bx hbx;rw [hD] at bx;have HZ:Hid (∀ Z,Below W.heap.size W Z→Box3 Z D (.string ⟨gn.toArray⟩) (.int .i64 gA) (.slice ta t.length tc)∧zay Z ta t.length t∧Err8 Z er∧zab Z (some ⟨b,off,none⟩) ps.length cap ps∧Below D w Z):=fun Z hz=>⟨bx.below hz,(hnd.below hbx).below hz,(hE.below hbx).below hz,(h.below hbx).below hz,by rw [←hD];exact hbx.trans (hz.mono hbx.size)⟩
 have HAr:Hid (_):=ziB (gn,gA,t) ta t.length tc er W (HZ.out W (Below.refl _ _)).2.2.1 (HZ.out W (Below.refl _ _)).2.1 htl;simp only at HAr;have d0:=bx.c0;have d1:=bx.c1;have d2:=bx.c2;have HWy:Hid (_):=hways;clear hbx hnd hE h hways
 go_enter Tryz.func183,Tryz.ntmps183
 go_wp2_with fail
 refine Calls.mono HAr.out ?_;rintro e w1 ⟨v,rfl,ha,hb1⟩;clear HAr d0 d1 d2;rcases ha with ⟨ha,rfl⟩ | ⟨ha,rfl⟩
 ·
  have HR:Hid (F9v=3):=by
   rcases HWy.out with ⟨_,e⟩ | ⟨h1,_⟩
   ·exact e
   ·obtain ⟨n,hn,h2⟩:=ha;exact absurd h2 (h1 n hn)
  have HBW:Hid (Below D w w1):=(HZ.out w1 hb1).2.2.2.2;clear ha hb1 HWy;go_wp2;go_ret;exact ⟨_,rfl,Or.inr ⟨6,Or.inr (Or.inr (Or.inl ⟨HR.out,rfl⟩)),rfl⟩,by first | exact HBW.out | (rw [hD];exact HBW.out)⟩
 ·
  have HWz:Hid (((∃ n∈t,Bad n)∧F9v=4)∨((∀ n∈t,¬Bad n)∧F9v=0)):=by
   rcases HWy.out with ⟨⟨n,hn,h2⟩,_⟩ | ⟨_,h1⟩
   ·exact absurd h2 (ha n hn)
   ·exact h1
  have d2:=(HZ.out w1 hb1).1.c2;have HB0:Hid (Below W.heap.size W w1):=hb1;clear ha hb1 HWy;go_wp2
  go_loopw [28] (fun iv wr=>∃ j:Nat,iv=.int .i64 (j:Int)∧j≤t.length∧Hid (∀ m,m<j→¬Bad (t.getD m nd0))∧Hid (Below W.heap.size W wr)) (fun iv _=>t.length-(intOf iv).toNat)
  case atStart=>exact ⟨0,rfl,by omega,(fun m hm=>absurd hm (Nat.not_lt_zero _)),HB0⟩
  case round =>
   obtain ⟨j,rfl,hj,HA,HB⟩:=hrel;clear HB0 d2;obtain ⟨_,hin,_,_,hbw⟩:=HZ.out wr HB.out;by_cases hlt:(j:Int)<(t.length:Int)
   ·
    have hj2:j<t.length:=by omega
    obtain ⟨bt,ot,rfl,hbt,k0,k1,k2,k3⟩:=hin.2 j hj2;have hmem:=mem_nd hj2;obtain ⟨n,hn⟩:∃ n,t.getD j nd0=n:=⟨_,rfl⟩
    have HN:Hid (t.getD j nd0=n):=hn;rw [hn] at k0 k1 k2 k3 hmem;obtain ⟨k,nA,np,nf⟩:=n;simp only at k0 k1 k2 k3;obtain ⟨⟨n0,n1,n2,n3⟩,hbg⟩:=zeT wr (.int .i64 k) (.int .i64 nA) (.string ⟨np.toArray⟩) (.string ⟨nf.toArray⟩) 104;obtain ⟨X,hX⟩:∃ X,wr.alloc (.cells #[.int .i64 k,.int .i64 nA,.string ⟨np.toArray⟩,.string ⟨nf.toArray⟩] 104)=X:=⟨_,rfl⟩
    obtain ⟨G,hG⟩:∃ G,wr.heap.size=G:=⟨_,rfl⟩
    rw [hX] at n0 n1 n2 n3 hbg;rw [hG] at n0 n1 n2 n3;have HBX:Hid (Below W.heap.size W X):=HB.out.trans (hbg.mono HB.out.size)
    have HNx:Hid (¬Bad (k,nA,np,nf)→∀ m,m<j+1→¬Bad (t.getD m nd0)):=fun hq m hm=>by
     rcases Nat.lt_or_ge m j with h | h
     ·exact HA.out m h
     ·
      obtain rfl:m=j:=by omega
      rw [HN.out];exact hq
    have hbad:=HBad.out (k,nA,np,nf);have hbd:=HBd.out (k,nA,np,nf);have HC:Hid (_):=HCW.out X (k,nA,np,nf) (HZ.out X HBX.out).2.2.2.1 (HZ.out X HBX.out).2.2.1.four;unfold za9 at HC;simp only at HC hbad;obtain ⟨cv,hcv⟩:∃ cv,zb7 ps (ps.getD f pk0) (i:Int) (k,nA,np,nf)=cv:=⟨_,rfl⟩
    rw [hcv] at HC hbad hbd;clear hin hbw hbg hn HB HA hcv;by_cases hk:k=8
    ·
     subst hk;have hkb:((8:Int) !=8)=false:=rfl;by_cases hc0:cv=0
     ·
      subst hc0;have HR:=HNx.out (fun hq=>(hbad.1 hq).2 rfl);have hv:cwV er 0=.nilIface:=rfl;rw [hv] at HC;have HR2:Hid (_):=HR;clear hbad hbd HNx HR hmem;go_wp2_with fail
      refine Calls.mono HC.out ?_;rintro e w2 ⟨rfl,hb2⟩;have HB2:Hid (Below W.heap.size W w2):=HBX.out.trans (hb2.mono HBX.out.size);clear hb2;go_wp2;go_roundw
      case rel=>exact ⟨j+1,by go_num,by omega,HR2,HB2⟩
      case measure=>simp [intOf];omega
     ·
      have HR:Hid (F9v=4):=by
       rcases HWz.out with ⟨_,e⟩ | ⟨h1,_⟩
       ·exact e
       ·exact absurd (hbad.2 ⟨rfl,hc0⟩) (h1 _ hmem)
      have hv:cwV er cv=.iface 258 (.pointer (some (er cv.toNat))):=by unfold cwV;rw [if_neg hc0];rfl
      rw [hv] at HC;have HK:Hid (1≤cv.toNat∧cv.toNat≤3):=by exact (by omega:1≤cv.toNat∧cv.toNat≤3)
      generalize cv.toNat=ck at HC HK;clear hbad hbd HNx hmem hv;go_wp2_with fail
      refine Calls.mono HC.out ?_;rintro e w2 ⟨rfl,hb2⟩;have HBW:Hid (Below D w w2):=(HZ.out w2 (HBX.out.trans (hb2.mono HBX.out.size))).2.2.2.2;clear hb2;go_wp2;go_ret;exact ⟨_,rfl,Or.inr ⟨ck,Or.inr (Or.inr (Or.inr (Or.inl ⟨HR.out,HK.out⟩))),rfl⟩,by first | exact HBW.out | (rw [hD];exact HBW.out)⟩
    ·
     have hkb:(k !=8)=true:=by rw [bne_iff_ne];exact hk
     have HR2:Hid (_):=HNx.out (fun hq=>hk (hbad.1 hq).1);clear hbad hbd HNx hmem HC;go_wp2;go_roundw
     case rel=>exact ⟨j+1,by go_num,by omega,HR2,HBX⟩
     case measure=>simp [intOf];omega
   ·
    have HR:Hid (F9v=0):=by
     rcases HWz.out with ⟨⟨n,hn,h2⟩,_⟩ | ⟨_,e⟩
     ·exact absurd h2 (all_nd (P:=fun n=>¬Bad n) (fun m hm=>HA.out m (by omega)) n hn)
     ·exact e
    have HBW:Hid (Below D w wr):=hbw;clear hin hbw HA;go_wp2;go_ret;exact ⟨_,rfl,Or.inl ⟨HR.out,rfl⟩,by first | exact HBW.out | (rw [hD];exact HBW.out)⟩
def PwIs (er:Nat→Addr) (v:Value) (o:Option Flt):Prop:=(o=none∧v=.nilIface)∨∃ c p g k,o=some (c,p,g)∧zi6 c k∧v=.iface 160 (.agg #[.string ⟨p.toArray⟩,.string ⟨g.toArray⟩,.iface 258 (.pointer (some (er k)))])
theorem own_rowS {w:World} {B e size n:Nat} {v:Value} {xs:List Value} (h:w.ownsRow B e size v n xs):∃ a c,v=.slice a n c∧True:=by
 rcases zaR h with ⟨rfl,rfl,_⟩ | ⟨g,c,rfl⟩
 ·exact ⟨none,0,rfl,trivial⟩
 ·exact ⟨_,c,rfl,trivial⟩
theorem zg7 (a:Option Addr) (len cap:Nat) (ps:List Pk) (f:Nat) (lo:Bool) (dn i:Nat) (hlo:lo=decide (dn≤i)) (er:Nat→Addr) (w:World) (hE:Err8 w er) (h:zab w a len cap ps) (hf:f<len) :
 Calls Tryz.prog 162 #[.slice a len cap,.int .i64 (f:Int),.bool lo] w fun e w'=>∃ v,e=.returned v∧PwIs er v (pk9 ps dn i (ps.getD f pk0))∧Below w.heap.size w w':=by
 subst hlo;obtain rfl:ps.length=len:=h.hlen;have hmiss:=zos (ps:=ps) (i:=f);have HFn:Hid (∀ (Z:World) (j:Nat),zab Z a ps.length cap ps→Err8 Z er→j<(ps.getD f pk0).2.2.length→Calls Tryz.prog 183 #[.slice a ps.length cap,.int .i64 (f:Int),.int .i64 (j:Int)] Z fun e w'=>∃ v,e=.returned v∧FwIs er v (func9 ps (ps.getD f pk0) j)∧Below Z.heap.size Z w'):=fun Z j h1 h2 h3=>ziz a ps.length cap ps f j er Z h2 h1 hf h3
 have HPl:Hid (∀ Z,zab Z a ps.length cap ps→Calls Tryz.prog 170 #[.slice a ps.length cap,.int .i64 (f:Int)] Z fun e w'=>∃ v,e=.returned v∧w'.ownsRow Z.heap.size 3 1 v (plc ps (zbe ps f)).length (natV (plc ps (zbe ps f)))∧Below Z.heap.size Z w'):=fun Z h1=>zdP a ps.length cap ps f Z h1 hf
 obtain ⟨b,off,rfl,hbl,c0,ia,il,ic,fa,fl,fc,c1,c2,hpk⟩:=h.each f hf;have hil:(zbe ps f).length=il:=hpk.i.1;have hilb:=hpk.il;have hflb:=hpk.fl;have hfl:(ps.getD f pk0).2.2.length=fl:=hpk.f.1;have hple:=zo4 ps (zbe ps f);have hsm:=h.small;have hf2:(f:Int)<(ps.length:Int):=by omega
 obtain ⟨pl,hpl⟩:∃ pl,(plc ps (zbe ps f)).length=pl:=⟨_,rfl⟩
 rw [hpl,hil] at hmiss hple;rw [hpl] at HPl;have hfi:=hpk.f;have hpk9:pk9 ps dn i (ps.getD f pk0)=if zhi ps (ps.getD f pk0) then some (1,(ps.getD f pk0).1,[]) else if dn≤i then some (2,(ps.getD f pk0).1,[]) else zcV ps (ps.getD f pk0) (ps.getD f pk0).2.2 0:=rfl
 have HDr:Hid (∀ j,j<(ps.getD f pk0).2.2.length→_):=fun j hj=>zhP (ps:=ps) (p:=ps.getD f pk0) (k:=j) hj
 obtain ⟨p,hp⟩:∃ p,ps.getD f pk0=p:=⟨_,rfl⟩
 rw [hp] at hmiss c0 hfi hfl HFn hpk9 HDr ⊢;obtain ⟨nm,ims,fs⟩:=p;simp only at c0 hfi hfl HFn hpk9 HDr;subst hfl;clear hp hpl hil hpk;obtain ⟨bx,hbx⟩:=Box3.new w (.string ⟨nm.toArray⟩) (.slice ia il ic) (.slice fa fs.length fc) 99;obtain ⟨W,hW⟩:∃ W,w.alloc (.cells #[.string ⟨nm.toArray⟩,.slice ia il ic,.slice fa fs.length fc] 99)=W:=⟨_,rfl⟩
 obtain ⟨D,hD⟩:∃ D,w.heap.size=D:=⟨_,rfl⟩
 rw [hW] at bx hbx;rw [hD] at bx;have HZ:Hid (∀ Z,Below W.heap.size W Z→Box3 Z D (.string ⟨nm.toArray⟩) (.slice ia il ic) (.slice fa fs.length fc)∧zaB Z fa fs.length fs∧Err8 Z er∧zab Z (some ⟨b,off,none⟩) ps.length cap ps∧Below D w Z):=fun Z hz=>⟨bx.below hz,(hfi.below hbx).below hz,(hE.below hbx).below hz,(h.below hbx).below hz,by rw [←hD];exact hbx.trans (hz.mono hbx.size)⟩
 have d0:=bx.c0;have d1:=bx.c1;have d2:=bx.c2;have HB:Hid (Below W.heap.size W W.drew):=⟨rfl,rfl,rfl,Nat.le_refl _,fun _ _=>rfl⟩;have hok:=(HZ.out _ HB.out).2.2.2.1;clear hbx hfi hE h bx;obtain ⟨O9,hO9⟩:∃ o,pk9 ps dn i (nm,ims,fs)=o:=⟨_,rfl⟩
 have HPk:Hid (O9=_):=hO9.symm.trans hpk9;rw [hO9];have HMs:Hid (zhi ps (nm,ims,fs)↔pl<il):=hmiss;clear hO9 hpk9 hmiss
 go_enter Tryz.func162,Tryz.ntmps162
 go_upto_region 2 with fail
 go_region_held3 (fun w'=>w'.cell? ⟨D,1,none⟩=some (.slice ia il ic)) (go_keep) (first | (go_at_call 170;refine Calls.mono (HPl.out _ hok) ?_;rintro e wn ⟨v,rfl,ho,hbn⟩;replace HB:Hid (Below W.heap.size W wn):=HB.out.trans (hbn.mono HB.out.size);clear hok;obtain ⟨pa,pc,rfl,-⟩:=own_rowS ho;clear hbn ho d0 d1 d2;obtain ⟨⟨d0,d1,d2⟩,-,-,-,-⟩:=HZ.out wn HB.out))
 by_cases hm:pl<il
 ·
  have hm2:(pl:Int)<(il:Int):=by omega
  have HR:Hid (O9=some (1,nm,[])):=HPk.out.trans (if_pos (HMs.out.2 hm));have gi:=(HZ.out wn HB.out).2.2.1.imp;unfold zb3 at gi;have HBW:Hid (Below D w wn):=(HZ.out wn HB.out).2.2.2.2;clear HPk HMs hm;go_wp2;go_ret;exact ⟨_,rfl,Or.inr ⟨1,nm,[],4,HR.out,Or.inl ⟨rfl,rfl⟩,rfl⟩,by first | exact HBW.out | (rw [hD];exact HBW.out)⟩
 ·
  have hm2:¬(pl:Int)<(il:Int):=by omega
  have HPk2:Hid (O9=_):=HPk.out.trans (if_neg (fun e=>hm (HMs.out.1 e)));clear HPk HMs hm;by_cases hd:dn≤i
  ·have hdb:decide (dn≤i)=true:=decide_eq_true hd;have HR:Hid (O9=some (2,nm,[])):=HPk2.out.trans (if_pos hd);have gi:=(HZ.out wn HB.out).2.2.1.ring;unfold zb3 at gi;have HBW:Hid (Below D w wn):=(HZ.out wn HB.out).2.2.2.2;clear HPk2;go_wp2;go_ret;exact ⟨_,rfl,Or.inr ⟨2,nm,[],5,HR.out,Or.inr (Or.inl ⟨rfl,rfl⟩),rfl⟩,by first | exact HBW.out | (rw [hD];exact HBW.out)⟩
  ·
   have hdb:decide (dn≤i)=false:=decide_eq_false hd;have HR:Hid (O9=zcV ps (nm,ims,fs) (fs.drop 0) 0):=HPk2.out.trans (if_neg hd);clear HPk2;go_wp2
   go_loopw [37] (fun iv wr=>∃ j:Nat,iv=.int .i64 (j:Int)∧j≤fs.length∧Hid (O9=zcV ps (nm,ims,fs) (fs.drop j) j)∧Hid (Below W.heap.size W wr)) (fun iv _=>fs.length-(intOf iv).toNat)
   case atStart=>exact ⟨0,rfl,by omega,HR,HB⟩
   case round =>
    obtain ⟨j,rfl,hj,HA,HBr⟩:=hrel;clear HR HB d0 d1 d2;obtain ⟨bx,hin,_,_,hbw⟩:=HZ.out wr HBr.out;by_cases hlt:(j:Int)<(fs.length:Int)
    ·
     have hj2:j<fs.length:=by omega
     obtain ⟨bt,ot,rfl,hbt,k0,k1,ta,tl,tc,k2,_⟩:=hin.2 j hj2;have hdr:=HDr.out j hj2;obtain ⟨g,hg⟩:∃ g,fs.getD j fn0=g:=⟨_,rfl⟩
     rw [hg] at k0 k1 hdr;obtain ⟨gn,gA,gt⟩:=g;simp only at k0 k1 hdr;obtain ⟨bg,hbg⟩:=Box3.new wr (.string ⟨gn.toArray⟩) (.int .i64 gA) (.slice ta tl tc) 107;obtain ⟨X,hX⟩:∃ X,wr.alloc (.cells #[.string ⟨gn.toArray⟩,.int .i64 gA,.slice ta tl tc] 107)=X:=⟨_,rfl⟩
     obtain ⟨G,hG⟩:∃ G,wr.heap.size=G:=⟨_,rfl⟩
     rw [hX] at bg hbg;rw [hG] at bg;have HBX:Hid (Below W.heap.size W X):=HBr.out.trans (hbg.mono HBr.out.size);have HC:Hid (_):=HFn.out X j (HZ.out X HBX.out).2.2.2.1 (HZ.out X HBX.out).2.2.1 hj2;obtain ⟨cv,hcv⟩:∃ cv,func9 ps (nm,ims,fs) j=cv:=⟨_,rfl⟩
     rw [hcv] at HC hdr;have HDj:Hid (_):=HA.out.trans hdr;have HBG:Hid (Box3 X G (.string ⟨gn.toArray⟩) (.int .i64 gA) (.slice ta tl tc)):=bg;clear hin hbw hbg hg HBr HA hcv hdr bx bg;go_wp2_with fail
     refine Calls.mono HC.out ?_;rintro e w2 ⟨v,rfl,hv,hb2⟩;have HB2:Hid (Below W.heap.size W w2):=HBX.out.trans (hb2.mono HBX.out.size);have g0:=(HBG.out.below hb2).c0;have d0:=(HZ.out w2 HB2.out).1.c0;clear hb2 HC;rcases hv with ⟨rfl,rfl⟩ | ⟨ck,hck,rfl⟩
     ·
      have HR:Hid (O9=zcV ps (nm,ims,fs) (fs.drop (j+1)) (j+1)):=HDj.out.trans (if_neg (fun e=>e rfl));clear HDj;go_wp2;go_roundw
      case rel=>exact ⟨j+1,by go_num,by omega,HR,HB2⟩
      case measure=>simp [intOf];omega
     ·have HR:Hid (O9=some (cv,nm,gn)):=HDj.out.trans (if_pos (fun e=>by subst e;rcases hck with h | h | h | h | h<;>omega));have HK:Hid (zi6 cv ck):=hck;have HBW:Hid (Below D w w2):=(HZ.out w2 HB2.out).2.2.2.2;clear HDj hck;go_wp2;go_ret;exact ⟨_,rfl,Or.inr ⟨cv,nm,gn,ck,HR.out,HK.out,rfl⟩,by first | exact HBW.out | (rw [hD];exact HBW.out)⟩
    ·
     have HR:Hid (O9=none):=by exact (by rw [HA.out,List.drop_of_length_le (by omega)];rfl:O9=none)
     have HBW:Hid (Below D w wr):=hbw;clear hin hbw HA bx;go_wp2;go_ret;exact ⟨_,rfl,Or.inl ⟨HR.out,rfl⟩,by first | exact HBW.out | (rw [hD];exact HBW.out)⟩
theorem zkf (A:Array TypeId) (T:TypeId) (p:Addr) (a b:ByteArray):Builtin.ssaWrapNilChk_ A T #[.pointer (some p),.string a,.string b]=pure (.pointer (some p)):=rfl
theorem zoW {w : World} {nb : Nat} {a : Option Addr} {n c : Nat} (hc : w.cell? ⟨nb, 0, none⟩ = some (.slice a n c)) : Sem.run Tryz.prog (method 389 197 (.pointer (some ⟨nb, 0, none⟩)) "Len") w = .ok (172, .slice a n c) w := by
 have hm : (Array.find? (fun x => x.name == "Len") Tryz.t197.methods).map (fun m => (m.path, m.func)) = some (#[], some (172, false)) := by kernel_rfl
 obtain ⟨m,hm,he⟩:=Option.map_eq_some_iff.1 hm;obtain ⟨h1,h2⟩:=Prod.mk.injEq ..▸he;obtain ⟨k,hk⟩:∃ k,389=k+1:=⟨_,rfl⟩
 rw [hk,method];simp [go_sem,hm,h1,h2,follow,receiverAt,zkf,Place.get,strVal,loadVar,hc]
theorem zfb {w : World} {nb : Nat} {a : Option Addr} {n c : Nat} (hc : w.cell? ⟨nb, 0, none⟩ = some (.slice a n c)) : Sem.run Tryz.prog (method 389 197 (.pointer (some ⟨nb, 0, none⟩)) "Less") w = .ok (235, .slice a n c) w := by
 have hm : (Array.find? (fun x => x.name == "Less") Tryz.t197.methods).map (fun m => (m.path, m.func)) = some (#[], some (235, false)) := by kernel_rfl
 obtain ⟨m,hm,he⟩:=Option.map_eq_some_iff.1 hm;obtain ⟨h1,h2⟩:=Prod.mk.injEq ..▸he;obtain ⟨k,hk⟩:∃ k,389=k+1:=⟨_,rfl⟩
 rw [hk,method];simp [go_sem,hm,h1,h2,follow,receiverAt,zkf,Place.get,strVal,loadVar,hc]
theorem zfa {w : World} {nb : Nat} {a : Option Addr} {n c : Nat} (hc : w.cell? ⟨nb, 0, none⟩ = some (.slice a n c)) : Sem.run Tryz.prog (method 389 197 (.pointer (some ⟨nb, 0, none⟩)) "Swap") w = .ok (238, .slice a n c) w := by
 have hm : (Array.find? (fun x => x.name == "Swap") Tryz.t197.methods).map (fun m => (m.path, m.func)) = some (#[], some (238, false)) := by kernel_rfl
 obtain ⟨m,hm,he⟩:=Option.map_eq_some_iff.1 hm;obtain ⟨h1,h2⟩:=Prod.mk.injEq ..▸he;obtain ⟨k,hk⟩:∃ k,389=k+1:=⟨_,rfl⟩
 rw [hk,method];simp [go_sem,hm,h1,h2,follow,receiverAt,zkf,Place.get,strVal,loadVar,hc]
theorem findPush {w : World} {nb : Nat} : Sem.run Tryz.prog (method 389 197 (.pointer (some ⟨nb, 0, none⟩)) "Push") w = .ok (237, .pointer (some ⟨nb, 0, none⟩)) w := by
 have hm : (Array.find? (fun x => x.name == "Push") Tryz.t197.methods).map (fun m => (m.path, m.func)) = some (#[], some (237, true)) := by kernel_rfl
 obtain ⟨m,hm,he⟩:=Option.map_eq_some_iff.1 hm;obtain ⟨h1,h2⟩:=Prod.mk.injEq ..▸he;obtain ⟨k,hk⟩:∃ k,389=k+1:=⟨_,rfl⟩
 rw [hk,method];simp [go_sem,hm,h1,h2,follow,receiverAt,Place.get,strVal]
theorem findPop {w : World} {nb : Nat} : Sem.run Tryz.prog (method 389 197 (.pointer (some ⟨nb, 0, none⟩)) "Pop") w = .ok (236, .pointer (some ⟨nb, 0, none⟩)) w := by
 have hm : (Array.find? (fun x => x.name == "Pop") Tryz.t197.methods).map (fun m => (m.path, m.func)) = some (#[], some (236, true)) := by kernel_rfl
 obtain ⟨m,hm,he⟩:=Option.map_eq_some_iff.1 hm;obtain ⟨h1,h2⟩:=Prod.mk.injEq ..▸he;obtain ⟨k,hk⟩:∃ k,389=k+1:=⟨_,rfl⟩
 rw [hk,method];simp [go_sem,hm,h1,h2,follow,receiverAt,Place.get,strVal]
theorem HpIn.rown {w:World} {B nb n:Nat} {v:Value} {l:List Nat} (h:HpIn w B nb v l) (hn:l.length=n):w.ownsRow B 3 1 v n (natV l):=by rw [←hn];exact h.row
theorem heapUp (B nb g n cp:Nat) (l:List Nat) (j:Nat) (w:World) (h:HpIn w B nb (.slice (some ⟨g,0,none⟩) n cp) l) (hn:l.length=n) (hj:j<n) (hup:HpUp l j) (hbig:n≤1000) :
 Calls Tryz.prog 189 #[.iface 197 (.pointer (some ⟨nb,0,none⟩)),.int .i64 (j:Int)] w fun e w'=>e=.returned (.tuple #[])∧∃ l',HpIn w' B nb (.slice (some ⟨g,0,none⟩) n cp) l'∧l'.length=n∧l'.Perm l∧HpN l' n∧w.grownBy w' (some g):=by
 have HH:Hid (HpIn w B nb (.slice (some ⟨g,0,none⟩) n cp) l):=h;have HL:Hid (l.length=n):=hn;have HU:Hid (HpUp l j):=hup;clear h hn hup
 go_enter Tryz.func189,Tryz.ntmps189
 go_wp2
 go_loopw [1,4] (fun jv _ wr=>∃ (k:Nat) (lk:List Nat),jv=.int .i64 (k:Int)∧k<n∧Hid (HpIn wr B nb (.slice (some ⟨g,0,none⟩) n cp) lk)∧Hid (lk.length=n)∧Hid (HpUp lk k)∧Hid (lk.Perm l)∧Hid (w.grownBy wr (some g))) (fun jv _ _=>(intOf jv).toNat)
 case atStart=>exact ⟨j,l,rfl,hj,HH,HL,HU,List.Perm.refl _,World.grownBy.refl _ _⟩
 case round =>
  obtain ⟨k,lk,rfl,hk,HHk,HLk,HUk,HPk,HGk⟩:=hrel;have c0:=HHk.out.cell;rcases Nat.eq_zero_or_pos k with h0 | h0
  ·
   subst h0;go_wp2
   go_end0
   exact ⟨rfl,lk,HHk.out,HLk.out,HPk.out,by rw [←HLk.out];exact up_end HUk.out (Or.inl rfl),HGk.out⟩
  ·
   obtain ⟨m,rfl⟩:∃ m,k=m+1:=⟨k-1,by omega⟩
   have hne:¬m / 2=m+1:=by omega
   have mL:=zfb c0
   have HL1:Hid (Calls Tryz.prog 235 #[.slice (some ⟨g,0,none⟩) n cp,.int .i64 ((m:Int)+1),.int .i64 ((m:Int) / 2)] wr fun e w'=>e=.returned (.bool (decide (lk.getD (m+1) 0<lk.getD (m / 2) 0)))∧Below wr.heap.size wr w'):=by have hL:=ziW B g cp n lk (m+1) (m / 2) wr (HHk.out.rown HLk.out) HLk.out hk (by omega);rw [show ((m+1:Nat):Int)=(m:Int)+1 by omega,show ((m / 2:Nat):Int)=(m:Int) / 2 by omega] at hL;exact hL
   by_cases hlt:lk.getD (m+1) 0<lk.getD (m / 2) 0
   ·
    rw [decide_eq_true hlt] at HL1;have HSt:Hid (HpUp (sw lk (m / 2) (m+1)) (m / 2)):=up_step HUk.out (by rw [HLk.out];exact hk) h0 hlt;clear hlt
    go_wp2_with (go_at_call 235;refine HL1.out.mono ?_;rintro e w2 ⟨rfl,hb2⟩;have HH2:Hid (HpIn w2 B nb (.slice (some ⟨g,0,none⟩) n cp) lk):=HHk.out.below hb2;have mS:=zfa HH2.out.cell;have HG2:Hid (w.grownBy w2 (some g)):=HGk.out.trans ⟨hb2.os,hb2.tape,hb2.output,hb2.size,fun k hk _=>hb2.block k hk⟩;clear hb2 mL)
    have HS1:Hid (Calls Tryz.prog 238 #[.slice (some ⟨g,0,none⟩) n cp,.int .i64 ((m:Int) / 2),.int .i64 ((m:Int)+1)] w2 fun e w'=>e=.returned (.tuple #[])∧w'.ownsRow B 3 1 (.slice (some ⟨g,0,none⟩) n cp) n (natV (sw lk (m / 2) (m+1)))∧w2.grownBy w' (some g)):=by have hS:=ziV B g cp n lk (m / 2) (m+1) w2 (HH2.out.rown HLk.out) HLk.out (by omega) hk;rw [show ((m+1:Nat):Int)=(m:Int)+1 by omega,show ((m / 2:Nat):Int)=(m:Int) / 2 by omega] at hS;exact hS
    refine HS1.out.mono ?_;rintro e w3 ⟨rfl,ho3,hg3⟩;have HH3:Hid (HpIn w3 B nb (.slice (some ⟨g,0,none⟩) n cp) (sw lk (m / 2) (m+1))):=HH2.out.swapped ho3 (by rw [zdD];exact HLk.out) hg3;have HG3:Hid (w.grownBy w3 (some g)):=HG2.out.trans hg3;clear ho3 hg3 HS1 HL1;go_wp2;go_roundw
    case rel=>exact ⟨m / 2,sw lk (m / 2) (m+1),by simp,by omega,HH3,by exact (by rw [zdD];exact HLk.out:(sw lk (m / 2) (m+1)).length=n),HSt,(zgk lk (by rw [HLk.out];omega) (by rw [HLk.out];omega)).trans HPk.out,HG3⟩
    case measure=>simp [intOf];omega
   ·
    rw [decide_eq_false hlt] at HL1;have HSt:Hid (HpN lk n):=by exact (by rw [←HLk.out];exact up_end HUk.out (Or.inr (by simpa using hlt)):HpN lk n)
    clear hlt
    go_wp2_with (go_at_call 235;refine HL1.out.mono ?_;rintro e w2 ⟨rfl,hb2⟩;have HH2:Hid (HpIn w2 B nb (.slice (some ⟨g,0,none⟩) n cp) lk):=HHk.out.below hb2;have HG2:Hid (w.grownBy w2 (some g)):=HGk.out.trans ⟨hb2.os,hb2.tape,hb2.output,hb2.size,fun k hk _=>hb2.block k hk⟩;clear hb2 mL)
    go_end0
    exact ⟨rfl,lk,HH2.out,HLk.out,HPk.out,HSt.out,HG2.out⟩
end Go.Proofs.YtponeoijfaepnaaGreatDoor
