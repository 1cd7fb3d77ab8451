/-
  Parts of one proof, one behind the other: Shelf, PowI, RetI, RetT, RetJ.
-/
import Derived.Test.YtponeoijfaepnaaGreatDoorP29
namespace Go.Proofs.YtponeoijfaepnaaGreatDoor
open Go.RowKit
set_option maxHeartbeats 8000000
set_option maxRecDepth 100000
end Go.Proofs.YtponeoijfaepnaaGreatDoor
namespace Go.Proofs
open Go.Shelf
def Tryz.laysM173_ren:Go.Shelf.Ren:=⟨fun | 173=>89 | 246=>113 | 283=>132 | 284=>133 | 285=>134 | 286=>135 | 129=>156 | 317=>155 | 318=>157 | 319=>158 | 320=>159 | 337=>179 | 338=>180 | n=>n,fun | 2=>2 | 3=>3 | 9=>9 | 4=>4 | 171=>149 | 0=>0 | 53=>150 | 37=>22 | 5=>5 | 173=>153 | 212=>177 | 51=>178 | 20=>20 | 213=>179 | 46=>108 | 232=>228 | 233=>229 | n=>n,fun | 17=>0 | 18=>10 | 19=>11 | n=>n⟩
theorem Tryz.laysM173:Go.Proofs.LaysM.n173 Tryz.prog Tryz.laysM173_ren:={
 mixed:=by kernel_rfl
 f129:=Tryz.func156.trans (congrArg some (by kernel_rfl))
 f173:=Tryz.func89.trans (congrArg some (by kernel_rfl))
 f246:=Tryz.func113.trans (congrArg some (by kernel_rfl))
 f283:=Tryz.func132.trans (congrArg some (by kernel_rfl))
 f284:=Tryz.func133.trans (congrArg some (by kernel_rfl))
 f285:=Tryz.func134.trans (congrArg some (by kernel_rfl))
 f286:=Tryz.func135.trans (congrArg some (by kernel_rfl))
 f317:=Tryz.func155.trans (congrArg some (by kernel_rfl))
 f318:=Tryz.func157.trans (congrArg some (by kernel_rfl))
 f319:=Tryz.func158.trans (congrArg some (by kernel_rfl))
 f320:=Tryz.func159.trans (congrArg some (by kernel_rfl))
 f337:=Tryz.func179.trans (congrArg some (by kernel_rfl))
 f338:=Tryz.func180.trans (congrArg some (by kernel_rfl))
 t0:=Tryz.underlying0
 a0:=Tryz.isAgg0
 z0:=Tryz.sizeOf0
 v0:=Tryz.zeroValue0
 t2:=Tryz.underlying2
 a2:=Tryz.isAgg2
 z2:=Tryz.sizeOf2
 v2:=Tryz.zeroValue2
 t3:=Tryz.underlying3
 a3:=Tryz.isAgg3
 z3:=Tryz.sizeOf3
 v3:=Tryz.zeroValue3
 t4:=Tryz.underlying4
 a4:=Tryz.isAgg4
 z4:=Tryz.sizeOf4
 v4:=Tryz.zeroValue4
 t5:=Tryz.underlying5
 a5:=Tryz.isAgg5
 z5:=Tryz.sizeOf5
 v5:=Tryz.zeroValue5
 t9:=Tryz.underlying9
 a9:=Tryz.isAgg9
 z9:=Tryz.sizeOf9
 v9:=Tryz.zeroValue9
 t20:=Tryz.underlying20
 a20:=Tryz.isAgg20
 z20:=Tryz.sizeOf20
 v20:=Tryz.zeroValue20
 t37:=Tryz.underlying22
 a37:=Tryz.isAgg22
 z37:=Tryz.sizeOf22
 v37:=Tryz.zeroValue22
 t46:=Tryz.underlying108
 a46:=Tryz.isAgg108
 z46:=Tryz.sizeOf108
 v46:=Tryz.zeroValue108
 t51:=Tryz.underlying178
 a51:=Tryz.isAgg178
 z51:=Tryz.sizeOf178
 v51:=Tryz.zeroValue178
 t53:=Tryz.underlying150
 a53:=Tryz.isAgg150
 z53:=Tryz.sizeOf150
 v53:=Tryz.zeroValue150
 t171:=Tryz.underlying149
 a171:=Tryz.isAgg149
 z171:=Tryz.sizeOf149
 v171:=Tryz.zeroValue149
 t173:=Tryz.underlying153
 a173:=Tryz.isAgg153
 z173:=Tryz.sizeOf153
 v173:=Tryz.zeroValue153
 t212:=Tryz.underlying177
 a212:=Tryz.isAgg177
 z212:=Tryz.sizeOf177
 v212:=Tryz.zeroValue177
 t213:=Tryz.underlying179
 a213:=Tryz.isAgg179
 z213:=Tryz.sizeOf179
 t232:=Tryz.underlying228
 a232:=Tryz.isAgg228
 z232:=Tryz.sizeOf228
 v232:=Tryz.zeroValue228
 t233:=Tryz.underlying229
 a233:=Tryz.isAgg229
 z233:=Tryz.sizeOf229
 v233:=Tryz.zeroValue229
 g17:=by kernel_rfl
 g18:=by kernel_rfl
 g19:=by kernel_rfl
 i0:=by kernel_rfl
 i2:=by kernel_rfl
 i3:=by kernel_rfl
 i4:=by kernel_rfl
 i5:=by kernel_rfl
 i9:=by kernel_rfl
 i20:=by kernel_rfl
 i37:=by kernel_rfl
 i46:=by kernel_rfl
 i51:=by kernel_rfl
 i53:=by kernel_rfl
 i171:=by kernel_rfl
 i173:=by kernel_rfl
 i212:=by kernel_rfl
 i232:=by kernel_rfl
 i233:=by kernel_rfl
 m17:=by kernel_rfl
 m18:=by kernel_rfl
 m19:=by kernel_rfl }
open Go.RowKit Go.Sort Go.Lib in
theorem Tryz.strconv_FormatInt_10 (n : Int) (h0 : -9223372036854775808 ≤ n) (h1 : n ≤ 9223372036854775807) (w : World) (htab : Lib.TabIs Tryz.prog w "internal/strconv.uint64pow10" .u64 Lib.pow10Tab) :
 Calls Tryz.prog 89 #[.int .i64 n,.int .i64 10] w fun e w'=>e=.returned (.string ⟨(Lib.itoa n).toArray⟩)∧∃ k os,w'=grow (w.drewN k) os:=Any.strconv_FormatInt_10 Tryz.laysM173 n h0 h1 w htab
end Go.Proofs
namespace Go.Proofs.YtponeoijfaepnaaGreatDoor
open Go.RowKit
def zb0 (w : World) : Prop := Lib.TabIs Tryz.prog w "internal/strconv.uint64pow10" .u64 Lib.pow10Tab
theorem powAt : (Tryz.prog.globalNamed "internal/strconv.uint64pow10").isSome = true := by kernel_rfl
theorem powTy : (Tryz.prog.globalNamed "internal/strconv.uint64pow10").bind (fun g => (Tryz.prog.globals[g]?).map (·.type)) = some 177 := by kernel_rfl
theorem zji {W : World} {g : Nat} {t : TypeId} {cs : Array Value} {fuel : Nat} {p : List MemPlace} (hg : Tryz.prog.globalNamed "internal/strconv.uint64pow10" = some g) (ht : (Tryz.prog.globals[g]?).map (·.type) = some t)
 (hv : W.var? Tryz.prog "internal/strconv.uint64pow10" = some cs) (hd : DataW.trod (fun _ => ()) Tryz.prog W 0 (fun _ => true) false fuel t cs.toList = some (Lib.tabData .u64 Lib.pow10Tab, p)) : zb0 W := by
 have h1:=powTy;rw [hg,Option.bind_some,ht] at h1;obtain rfl:=Option.some.inj h1;unfold zb0 Lib.TabIs;rw [hv,←Lib.cells_of_tab Tryz.underlying177 Tryz.underlying150 (by kernel_rfl) (by kernel_rfl) hd]
theorem zb0.below {w w':World} (h:zb0 w) (hb:Below w.heap.size w w'):zb0 w':=by
 obtain ⟨g,hg⟩:=Option.isSome_iff_exists.1 powAt;exact Go.Joins.tab_stays hg h hb (Nat.le_refl _)
theorem zb0.drew {w:World} (h:zb0 w):zb0 w.drew:=h
theorem zm7 (n:Int) (w:World) (ht:zb0 w) (h0:-9223372036854775808≤n) (h1:n≤9223372036854775807) :
 Calls Tryz.prog 89 #[.int .i64 n,.int .i64 10] w fun e w'=>e=.returned (.string ⟨(intL n).toArray⟩)∧Below w.heap.size w w':=by
 refine (Tryz.strconv_FormatInt_10 n (by omega) (by omega) w ht).mono ?_;rintro e w' ⟨rfl,k,os,rfl⟩;exact ⟨by rw [zlY],Lib.below_grow _ w (Nat.le_refl _) k os⟩
theorem zfR (k key:Int) (w:World) (ht:zb0 w) (hk0:-9223372036854775808≤k) (hk1:k≤9223372036854775807) (hy0:-9223372036854775808≤key) (hy1:key≤9223372036854775807) :
 Calls Tryz.prog 60 #[.int .i64 k,.int .i64 key] w fun e w'=>e=.returned (.string ⟨(zd8 k key).toArray⟩)∧Below w.heap.size w w':=by
 have HF1:Hid (_):=zm7 k w ht hk0 hk1;have HF2:Hid (∀ Z,Below w.heap.size w Z→_):=fun Z hz=>zm7 key Z (ht.below hz) hy0 hy1
 have HDT:Hid (zd8 k key=(([100,111,110,101,32]++intL k)++[32])++intL key):=rfl;have hcat:=zc7;have hi1:=zcF hk0 hk1;have hi2:=zcF hy0 hy1;have hd5:(⟨#[100,111,110,101,32]⟩:ByteArray)=⟨([100,111,110,101,32]:List UInt8).toArray⟩:=rfl;have hd1:(⟨#[32]⟩:ByteArray)=⟨([32]:List UInt8).toArray⟩:=rfl;rw [HDT.out];clear ht HDT
 go_enter Tryz.func60,Tryz.ntmps60
 go_wp2_with fail
 refine Calls.mono HF1.out ?_;rintro e w1 ⟨rfl,hb1⟩;have HB1:Hid (Below w.heap.size w w1):=hb1;clear hb1;go_wp2_with fail
 refine Calls.mono (HF2.out _ HB1.out) ?_;rintro e w2 ⟨rfl,hb2⟩;have HB2:Hid (Below w.heap.size w w2):=HB1.out.trans (hb2.mono HB1.out.size);clear hb2;go_wp2;go_ret;exact ⟨by simp,HB2.out⟩
theorem zoG (a:Option Addr) (n c:Nat) (k:Int) (w:World) :
 Calls Tryz.prog 61 #[.slice a n c,.int .i64 k] w fun e w'=>e=.returned (.bool (decide (0≤k∧k<(n:Int))))∧w'=w:=by
 by_cases h0:0≤k
 ·
  by_cases h1:k<(n:Int)
  ·
   have HR:Hid (decide (0≤k∧k<(n:Int))=true):=decide_eq_true ⟨h0,h1⟩;generalize decide (0≤k∧k<(n:Int))=res at HR ⊢
   go_enter Tryz.func61,Tryz.ntmps61
   go_wp2;go_ret;exact ⟨by rw [HR.out];rfl,rfl⟩
  ·
   have HR:Hid (decide (0≤k∧k<(n:Int))=false):=decide_eq_false (fun h=>h1 h.2);generalize decide (0≤k∧k<(n:Int))=res at HR ⊢
   go_enter Tryz.func61,Tryz.ntmps61
   go_wp2;go_ret;exact ⟨by rw [HR.out];rfl,rfl⟩
 ·
  have HR:Hid (decide (0≤k∧k<(n:Int))=false):=decide_eq_false (fun h=>h0 h.1);generalize decide (0≤k∧k<(n:Int))=res at HR ⊢
  go_enter Tryz.func61,Tryz.ntmps61
  go_wp2;go_ret;exact ⟨by rw [HR.out];rfl,rfl⟩
def znm (ts:List Ta) (t:Ta):Int:=if t.2.2.1=2 then 2 else if zbn ts t=false then 4 else 0
theorem zjL (a:Option Addr) (len cap:Nat) (ts:List Ta) (i:Nat) (w:World) (hin:zat w a len ts) (hsh:za1 ts) (hlen:len≤1048576) (hi:i<len) (hnd:∀ q,q<(ts.getD i ta0).2.1.length→0≤(ts.getD i ta0).2.1.getD q 0∧(ts.getD i ta0).2.1.getD q 0<len) :
 Calls Tryz.prog 63 #[.slice a len cap,.int .i64 (i:Int)] w fun e w'=>e=.returned (.int .i64 (znm ts (ts.getD i ta0)))∧Below w.heap.size w w':=by
 obtain ⟨b,off,e,hbl,c0,⟨na,nc,c1,hn1⟩,c2,c3,c4,c5⟩:=hin.2 i hi;have hsi:=(hsh i).2;obtain ⟨x,hx⟩:∃ x,ts.getD i ta0=x:=⟨_,rfl⟩
 rw [hx] at c0 c1 c2 c3 c4 c5 hn1 hsi hnd ⊢;obtain ⟨nm,ns,st,wk,un,ke⟩:=x;simp only at c0 c1 c2 c3 c4 c5 hn1 hsi hnd;obtain ⟨Y,hY⟩:∃ Y,w.alloc (.cells #[.string ⟨nm.toArray⟩,.slice na ns.length nc,.int .i64 st,.int .i64 wk,.int .i64 un,.int .i64 ke] 42)=Y:=⟨_,rfl⟩
 have hbY:Below w.heap.size w Y:=by rw [←hY];exact (Below.refl _ _).alloc (Nat.le_refl _) _
 have bE:=B6.new w (.string ⟨nm.toArray⟩) (.slice na ns.length nc) (.int .i64 st) (.int .i64 wk) (.int .i64 un) (.int .i64 ke) 42;rw [hY] at bE;have HN:Hid (_):=zf5 a na len cap nc ts ns Y (hin.below hbY) (hn1.below hbY) hsi hlen hnd;have HFr:Hid (zbn ts (nm,ns,st,wk,un,ke)=decide (∀ i,i<ns.length→(ts.getD (ns.getD i 0).toNat ta0).2.2.1=2)):=rfl;have HC:Hid (znm ts (nm,ns,st,wk,un,ke)=if st=2 then 2 else if zbn ts (nm,ns,st,wk,un,ke)=false then 4 else 0):=rfl;rw [HFr.out] at HC;generalize znm ts (nm,ns,st,wk,un,ke)=res at HC ⊢;generalize decide (∀ i,i<ns.length→(ts.getD (ns.getD i 0).toNat ta0).2.2.1=2)=fr at HN HC;obtain ⟨E,hE⟩:∃ E,w.heap.size=E:=⟨_,rfl⟩
 rw [hE] at bE;have y1:=bE.c1;have y2:=bE.c2;have HB:Hid (Below w.heap.size w Y):=hbY;subst e;clear hin hsh hx hn1 hsi hnd bE hbY HFr;by_cases h2:st=2
 ·
  have HR:Hid (res=2):=by exact (by rw [HC.out,if_pos h2]:res=2)
  subst h2;clear HC HN
  go_enter Tryz.func63,Tryz.ntmps63
  go_wp2;go_ret;exact ⟨by rw [HR.out];rfl,HB.out⟩
 ·
  have h2b:(st==2)=false:=beq_eq_false_iff_ne.2 h2;rcases fr with _ | _
  ·
   have HR:Hid (res=4):=by exact (by rw [HC.out,if_neg h2,if_pos rfl]:res=4)
   clear HC
   go_enter Tryz.func63,Tryz.ntmps63
   go_wp2_with (go_at_call 57;refine Calls.mono HN.out ?_;rintro e wn ⟨rfl,rfl⟩)
   go_ret;exact ⟨by rw [HR.out];rfl,HB.out⟩
  ·
   have HR:Hid (res=0):=by exact (by rw [HC.out,if_neg h2,if_neg (by simp)]:res=0)
   clear HC
   go_enter Tryz.func63,Tryz.ntmps63
   go_wp2_with (go_at_call 57;refine Calls.mono HN.out ?_;rintro e wn ⟨rfl,rfl⟩)
   go_ret;exact ⟨by rw [HR.out];rfl,HB.out⟩
theorem zkV (a:Option Addr) (len cap:Nat) (ts:List Ta) (ep nw:Int) (jr:List UInt8) (kk ee key:Int) (w:World) (hin:zat w a len ts) (hsh:za1 ts) (hd:zac (ts,ep,nw,jr)=true) (ht:zb0 w) (hk0:-9223372036854775808≤kk) (hk1:kk≤9223372036854775807) (hy0:-9223372036854775808≤key) (hy1:key≤9223372036854775807) :
 Calls Tryz.prog 31 #[.agg #[.slice a len cap,.int .i64 ep,.int .i64 nw,.string ⟨jr.toArray⟩],.int .i64 kk,.int .i64 ee,.int .i64 key] w fun e w'=>e=.returned (.int .i64 (zaA (ts,ep,nw,jr) kk ee key))∧Below w.heap.size w w':=by
 obtain rfl:ts.length=len:=hin.1;have hP:=zao.1 hd;have hn8:=hP.n;have hj6:=hP.j;simp only at hn8 hj6;have hln:ts.length≤1048576:=by omega
 obtain ⟨W,hW⟩:∃ W,w.alloc (.cells #[.slice a ts.length cap,.int .i64 ep,.int .i64 nw,.string ⟨jr.toArray⟩] 26)=W:=⟨_,rfl⟩
 have hbW:Below w.heap.size w W:=by rw [←hW];exact (Below.refl _ _).alloc (Nat.le_refl _) _
 have bD:=B4.new w (.slice a ts.length cap) (.int .i64 ep) (.int .i64 nw) (.string ⟨jr.toArray⟩) 26;rw [hW] at bD;have HB:Hid (∀ Z,Below W.heap.size W Z→Below w.heap.size w Z):=fun Z hz=>hbW.trans (hz.mono hbW.size)
 obtain ⟨D,hD⟩:∃ D,w.heap.size=D:=⟨_,rfl⟩
 rw [hD] at bD;have HK:Hid (∀ Z,Below W.heap.size W Z→B4 Z D (.slice a ts.length cap) (.int .i64 ep) (.int .i64 nw) (.string ⟨jr.toArray⟩)∧zat Z a ts.length ts):=fun Z hz=>⟨bD.below hz,(hin.below hbW).below hz⟩
 have HT1:Hid (_):=zfR kk key W (ht.below hbW) hk0 hk1 hy0 hy1;have HF1:Hid (∀ Z,_):=fun Z=>zfx (zd8 kk key) Z (by have:=zcR hk0 hk1 hy0 hy1;omega)
 have hlr:zd7 (zd8 kk key)=zbk kk key:=rfl;rw [hlr] at HF1;have hll:=zgE hk0 hk1 hy0 hy1;have HNo:Hid (∀ Z,_):=fun Z=>zoG a ts.length cap kk Z
 have HKy:Hid (∀ Z,_):=fun Z=>zjI key Z
 have HJ:Hid (∀ Z,_):=fun Z=>zf6 (jr.length+(zbk kk key).length) Z
 have HDc:Hid (∀ (Z:World) (i:Nat),Below W.heap.size W Z→i<ts.length→_):=fun Z i hz hi=>zjL a ts.length cap ts i Z ((hin.below hbW).below hz) hsh hln hi (ze3 hP hi)
 have HBad:Hid ((kk<0∨(ts.length:Int)≤kk)∨zbi key=false→zaA (ts,ep,nw,jr) kk ee key=3):=fun h=>zgs h
 have HRoom:Hid (¬((kk<0∨(ts.length:Int)≤kk)∨zbi key=false)→60000<jr.length+(zbk kk key).length→zaA (ts,ep,nw,jr) kk ee key=3):=fun h h2=>zlN h h2
 have HOld:Hid (¬((kk<0∨(ts.length:Int)≤kk)∨zbi key=false)→¬60000<jr.length+(zbk kk key).length→ee≠ep→zaA (ts,ep,nw,jr) kk ee key=1):=fun h h2 h3=>zkv h h2 h3
 have HElse:Hid (¬((kk<0∨(ts.length:Int)≤kk)∨zbi key=false)→¬60000<jr.length+(zbk kk key).length→ee=ep→zaA (ts,ep,nw,jr) kk ee key=znm ts (ts.getD kk.toNat ta0)):=fun h h2 h3=>by
  unfold zaA znm;rw [if_neg h,if_neg h2,if_neg (fun x=>x h3)]
 have hkey:zbi key=inB key 0 2147483646:=rfl;rw [hkey] at HBad HRoom HOld HElse;generalize zaA (ts,ep,nw,jr) kk ee key=res at HBad HRoom HOld HElse ⊢;generalize zbk kk key=ln at HF1 hll HJ HRoom HOld HElse;generalize hdt:zd8 kk key=dt at HT1 HF1;have d0:=bD.c0;clear hin hsh hd hP bD hbW ht hlr hdt
 go_enter Tryz.func31,Tryz.ntmps31
 go_wp2_with fail
 refine Calls.mono HT1.out ?_;rintro e w1 ⟨rfl,hb1⟩;have HB1:Hid (Below W.heap.size W w1):=hb1;clear hb1 d0;go_wp2_with fail
 refine Calls.mono (HF1.out _) ?_;rintro e w2 ⟨rfl,hb2⟩;have HB2:Hid (Below W.heap.size W w2):=HB1.out.trans (hb2.mono HB1.out.size);clear hb2;have bD:=(HK.out w2 HB2.out).1;have d0:=bD.c0;have d1:=bD.c1;have d3:=bD.c3;clear bD;by_cases hkn:kk<0
 ·
  have HR:Hid (_):=HBad.out (Or.inl (Or.inl hkn));have hno:decide (0≤kk∧kk<(ts.length:Int))=false:=decide_eq_false (by omega);rw [hno] at HNo;clear hno HRoom HOld HElse HBad
  go_wp2_with (go_at_call 61;refine Calls.mono (HNo.out _) ?_;rintro e wn ⟨rfl,hwn⟩;obtain rfl:=hwn.symm;clear hwn)
  go_ret;exact ⟨by rw [HR.out];rfl,HB.out _ HB2.out⟩
 by_cases hkl:(ts.length:Int)≤kk
 ·
  have HR:Hid (_):=HBad.out (Or.inl (Or.inr hkl));have hno:decide (0≤kk∧kk<(ts.length:Int))=false:=decide_eq_false (by omega);rw [hno] at HNo;clear hno HRoom HOld HElse HBad
  go_wp2_with (go_at_call 61;refine Calls.mono (HNo.out _) ?_;rintro e wn ⟨rfl,hwn⟩;obtain rfl:=hwn.symm;clear hwn)
  go_ret;exact ⟨by rw [HR.out];rfl,HB.out _ HB2.out⟩
 have hno:decide (0≤kk∧kk<(ts.length:Int))=true:=decide_eq_true (by omega);rw [hno] at HNo;generalize inB key 0 2147483646=ky at HKy HBad HRoom HOld HElse;rcases ky with _ | _
 ·
  have HR:Hid (_):=HBad.out (Or.inr rfl);clear hno HRoom HOld HElse HBad
  go_wp2_with (first | (go_at_call 61;refine Calls.mono (HNo.out _) ?_;rintro e wn ⟨rfl,hwn⟩;obtain rfl:=hwn.symm;clear hwn) | (go_at_call 62;refine Calls.mono (HKy.out _) ?_;rintro e wn ⟨rfl,hwn⟩;obtain rfl:=hwn.symm;clear hwn))
  go_ret;exact ⟨by rw [HR.out];rfl,HB.out _ HB2.out⟩
 have hnb:¬((kk<0∨(ts.length:Int)≤kk)∨true=false):=by simp;omega
 have HRoom1:Hid (_):=HRoom.out hnb;have HOld1:Hid (_):=HOld.out hnb;have HElse1:Hid (_):=HElse.out hnb;have hcast:((jr.length:Int)+(ln.length:Int))=((jr.length+ln.length:Nat):Int):=by omega
 clear HBad HRoom HOld HElse hno hnb;by_cases hrm:60000<jr.length+ln.length
 ·
  have HR:Hid (_):=HRoom1.out hrm;have hj:decide (jr.length+ln.length≤60000)=false:=decide_eq_false (by omega);rw [hj,←hcast] at HJ;clear HRoom1 HOld1 HElse1 hj hcast
  go_wp2_with (first | (go_at_call 61;refine Calls.mono (HNo.out _) ?_;rintro e wn ⟨rfl,hwn⟩;obtain rfl:=hwn.symm;clear hwn) | (go_at_call 62;refine Calls.mono (HKy.out _) ?_;rintro e wn ⟨rfl,hwn⟩;obtain rfl:=hwn.symm;clear hwn) | (go_at_call 41;refine Calls.mono (HJ.out _) ?_;rintro e wn ⟨rfl,hwn⟩;obtain rfl:=hwn.symm;clear hwn))
  go_ret;exact ⟨by rw [HR.out];rfl,HB.out _ HB2.out⟩
 have hj:decide (jr.length+ln.length≤60000)=true:=decide_eq_true (by omega);rw [hj,←hcast] at HJ;clear hj hcast;by_cases hee:ee=ep
 ·
  subst hee;have HR:Hid (_):=HElse1.out hrm rfl;obtain ⟨i,rfl⟩:∃ i:Nat,kk=(i:Int):=⟨kk.toNat,by omega⟩
  rw [Int.toNat_natCast] at HR;have HD2:Hid (_):=HDc.out w2 i HB2.out (by omega);generalize znm ts (ts.getD i ta0)=cd at HR HD2;have heb:(ee !=ee)=false:=by simp
  clear HRoom1 HOld1 HElse1
  go_wp2_with (first | (go_at_call 61;refine Calls.mono (HNo.out _) ?_;rintro e wn ⟨rfl,hwn⟩;obtain rfl:=hwn.symm;clear hwn) | (go_at_call 62;refine Calls.mono (HKy.out _) ?_;rintro e wn ⟨rfl,hwn⟩;obtain rfl:=hwn.symm;clear hwn) | (go_at_call 41;refine Calls.mono (HJ.out _) ?_;rintro e wn ⟨rfl,hwn⟩;obtain rfl:=hwn.symm;clear hwn) | (go_at_call 63;refine Calls.mono HD2.out ?_;rintro e w3 ⟨rfl,hb3⟩))
  go_ret;exact ⟨by rw [HR.out];rfl,HB.out _ (HB2.out.trans (hb3.mono HB2.out.size))⟩
 ·
  have HR:Hid (_):=HOld1.out hrm hee;have heb:(ee !=ep)=true:=by simp [hee]
  clear HRoom1 HOld1 HElse1
  go_wp2_with (first | (go_at_call 61;refine Calls.mono (HNo.out _) ?_;rintro e wn ⟨rfl,hwn⟩;obtain rfl:=hwn.symm;clear hwn) | (go_at_call 62;refine Calls.mono (HKy.out _) ?_;rintro e wn ⟨rfl,hwn⟩;obtain rfl:=hwn.symm;clear hwn) | (go_at_call 41;refine Calls.mono (HJ.out _) ?_;rintro e wn ⟨rfl,hwn⟩;obtain rfl:=hwn.symm;clear hwn))
  go_ret;exact ⟨by rw [HR.out];rfl,HB.out _ HB2.out⟩
theorem zn9 (nm:List UInt8) (na:Option Addr) (nl nc:Nat) (st wk un ke k2:Int) (w:World) :
 Calls Tryz.prog 64 #[.agg #[.string ⟨nm.toArray⟩,.slice na nl nc,.int .i64 st,.int .i64 wk,.int .i64 un,.int .i64 ke],.int .i64 k2] w fun e w'=>e=.returned (.agg #[.string ⟨nm.toArray⟩,.slice na nl nc,.int .i64 2,.int .i64 0,.int .i64 0,.int .i64 k2])∧Below w.heap.size w w':=by
 obtain ⟨D,hD⟩:∃ D,w.heap.size=D:=⟨_,rfl⟩
 obtain ⟨W1,hW1⟩:∃ W,w.alloc (.cells #[.string ⟨nm.toArray⟩,.slice na nl nc,.int .i64 st,.int .i64 wk,.int .i64 un,.int .i64 ke] 42)=W:=⟨_,rfl⟩
 obtain ⟨W2,hW2⟩:∃ W,W1.alloc (.cells #[.string ⟨#[]⟩,.slice none 0 0,.int .i64 0,.int .i64 0,.int .i64 0,.int .i64 0] 42)=W:=⟨_,rfl⟩
 have hs1:W1.heap.size=D+1:=by rw [←hW1,←hD];simp
 have hb1:Below D w W1:=by rw [←hW1,←hD];exact (Below.refl _ _).alloc (Nat.le_refl _) _
 have hb12:Below W1.heap.size W1 W2:=by rw [←hW2];exact (Below.refl _ _).alloc (Nat.le_refl _) _
 have HB:Hid (Below D w W2):=hb1.trans (hb12.mono (by omega));have bD:=B6.new w (.string ⟨nm.toArray⟩) (.slice na nl nc) (.int .i64 st) (.int .i64 wk) (.int .i64 un) (.int .i64 ke) 42;rw [hW1,hD] at bD;have bR:=B6.new W1 (.string ⟨#[]⟩) (.slice none 0 0) (.int .i64 0) (.int .i64 0) (.int .i64 0) (.int .i64 0) 42;rw [hW2,hs1] at bR;have bD2:=bD.below hb12;have d0:=bD2.c0;have d1:=bD2.c1;have r0:=bR.c0;have r1:=bR.c1;have r2:=bR.c2;have r3:=bR.c3;have r4:=bR.c4;have r5:=bR.c5;have f0:=bR.fr 0;have f1:=bR.fr 1;have f2:=bR.fr 2;have f3:=bR.fr 3;have f4:=bR.fr 4;have f5:=bR.fr 5;obtain ⟨X,hX,y0,y1,y2,y3,y4,y5,hg⟩:=set6 (.string ⟨nm.toArray⟩) (.slice na nl nc) (.int .i64 2) (.int .i64 0) (.int .i64 0) (.int .i64 k2) r0 r1 r2 r3 r4 r5;have HG:Hid (W2.grownBy X (some (D+1))∧D+1≤W2.heap.size):=⟨hg,by have:=bR.lt;omega⟩;clear bD bR bD2 hb1 hb12 hg
 go_enter Tryz.func64,Tryz.ntmps64
 go_wp2;refine bodyPost_ret (v:=.agg #[.string ⟨nm.toArray⟩,.slice na nl nc,.int .i64 2,.int .i64 0,.int .i64 0,.int .i64 k2]) (by simp [results,Tryz.results64,go_sem,y0,y1,y2,y3,y4,y5]) rfl ?_;exact ⟨rfl,by rw [hD];exact HB.out.grown HG.out.1 (by have:=HG.out.2;omega) (fun k e=>by injection e with e;omega)⟩
theorem zj5 (a:Option Addr) (len cap:Nat) (ts:List Ta) (ep nw:Int) (jr:List UInt8) (kk ee key:Int) (w:World) (hin:zaF w a len cap ts) (hsh:za1 ts) (hlen:len≤1048576) (hk0:-9223372036854775808≤kk) (hk1:kk≤9223372036854775807) (hy0:-9223372036854775808≤key) (hy1:key≤9223372036854775807) :
 Calls Tryz.prog 19 #[.agg #[.slice a len cap,.int .i64 ep,.int .i64 nw,.string ⟨jr.toArray⟩],.int .i64 kk,.int .i64 ee,.int .i64 key] w
  fun e w'=>∃ v,e=.returned (.tuple #[v,.int .i64 (zag (ts,ep,nw,jr) kk ee key).2])∧zbQ w w' v (zag (ts,ep,nw,jr) kk ee key).1:=by
 obtain rfl:ts.length=len:=hin.1;obtain ⟨D,hD⟩:∃ D,w.heap.size=D:=⟨_,rfl⟩
 obtain ⟨W1,hW1⟩:∃ W,w.alloc (.cells #[.slice a ts.length cap,.int .i64 ep,.int .i64 nw,.string ⟨jr.toArray⟩] 26)=W:=⟨_,rfl⟩
 obtain ⟨W2,hW2⟩:∃ W,W1.alloc (.cells #[.slice none 0 0,.int .i64 0,.int .i64 0,.string ⟨#[]⟩] 26)=W:=⟨_,rfl⟩
 have hs1:W1.heap.size=D+1:=by rw [←hW1,←hD];simp
 have hs2:W2.heap.size=D+2:=by rw [←hW2];simp [hs1]
 have hb1:Below D w W1:=by rw [←hW1,←hD];exact (Below.refl _ _).alloc (Nat.le_refl _) _
 have hb12:Below W1.heap.size W1 W2:=by rw [←hW2];exact (Below.refl _ _).alloc (Nat.le_refl _) _
 have hb2:Below D w W2:=hb1.trans (hb12.mono (by omega));have bD:=B4.new w (.slice a ts.length cap) (.int .i64 ep) (.int .i64 nw) (.string ⟨jr.toArray⟩) 26;rw [hW1,hD] at bD;have bR:=B4.new W1 (.slice none 0 0) (.int .i64 0) (.int .i64 0) (.string ⟨#[]⟩) 26;rw [hW2,hs1] at bR
 have HD:Hid (∀ Z,Below W2.heap.size W2 Z→B4 Z D (.slice a ts.length cap) (.int .i64 ep) (.int .i64 nw) (.string ⟨jr.toArray⟩)∧B4 Z (D+1) (.slice none 0 0) (.int .i64 0) (.int .i64 0) (.string ⟨#[]⟩)∧zaF Z a ts.length cap ts∧Below D w Z):=fun Z hz =>
  ⟨(bD.below hb12).below hz,bR.below hz,(hin.below (by rw [hD];exact hb2)).below hz,hb2.trans (hz.mono (by omega))⟩
 have HK:Hid (_):=zbW a ts.length cap ts ep nw jr W2 (hin.in.below (by rw [hD];exact hb2)) hsh hlen;have HCp:Hid (∀ Z,zaF Z a ts.length cap ts→_):=fun Z hz=>zgo a ts.length cap ts ep nw jr Z hz hsh hlen
 have HV0:Hid (zac (ts,ep,nw,jr)=false→zag (ts,ep,nw,jr) kk ee key=(dk0,3)):=fun h=>by unfold zag;rw [h];rfl
 have HV1:Hid (zac (ts,ep,nw,jr)=true→zag (ts,ep,nw,jr) kk ee key=zbx (ts,ep,nw,jr) kk ee key):=fun h=>by unfold zag;rw [if_pos h]
 have HLe:Hid (_):=fun (B base:Nat) (va:Option Addr) (vc:Nat) (xs:List TV) (Z:World) (h1:B4 Z B (.slice va ts.length vc) (.int .i64 ep) (.int .i64 nw) (.string ⟨jr.toArray⟩)) (h2:za2 Z base (.slice va ts.length vc) xs) (h3:xs.map (·.1)=ts) (h4:zai (xs.map tvT)) (h5:∀ k,zan (.slice va ts.length vc) xs k→k≠B) (h6:base≤Z.heap.size) (h6b:base≤B) (h7:zac (ts,ep,nw,jr)=true)=>zfi B base va vc xs ts ep nw jr kk ee key Z h1 h2 h3 h4 h5 h6 h6b h7 hsh hk0 hk1 hy0 hy1
 have HRs:Hid (_):=zfm (d:=(ts,ep,nw,jr)) (k:=kk) (e:=ee) (key:=key)
 obtain ⟨d0,d1,d2,d3⟩:W2.cell? ⟨D,0,none⟩=some (.slice a ts.length cap)∧W2.cell? ⟨D,1,none⟩=some (.int .i64 ep)∧W2.cell? ⟨D,2,none⟩=some (.int .i64 nw)∧W2.cell? ⟨D,3,none⟩=some (.string ⟨jr.toArray⟩):=by have h:=(HD.out W2 (Below.refl _ _)).1;exact ⟨h.c0,h.c1,h.c2,h.c3⟩
 generalize zag (ts,ep,nw,jr) kk ee key=res at HV0 HV1 ⊢;generalize zbx (ts,ep,nw,jr) kk ee key=res2 at HV1 HLe HRs;generalize zac (ts,ep,nw,jr)=b1 at HK HV0 HV1 HLe;clear hin hsh bD bR hb1 hb12 hb2;rcases b1 with _ | _
 ·
  have HR:Hid (res=(dk0,3)):=HV0.out rfl;clear HV0 HV1 HLe HCp HRs
  go_enter Tryz.func19,Tryz.ntmps19
  go_wp2_with fail
  refine Calls.mono HK.out ?_;rintro e w1 ⟨rfl,hb1⟩;obtain ⟨_,br,_,hbD⟩:=HD.out w1 hb1;have r0:=br.c0;have r1:=br.c1;have r2:=br.c2;have r3:=br.c3;have f0:=br.fr 0;have f1:=br.fr 1;have f2:=br.fr 2;have f3:=br.fr 3;have HBD:Hid (Below D w w1):=hbD;clear hbD br hb1 d0 d1 d2 d3;go_wp2;obtain ⟨X,hX,y0,y1,y2,y3,hg⟩:=set4 (.slice none 0 0) (.int .i64 0) (.int .i64 0) (.string ⟨#[]⟩) r0 r1 r2 r3;rw [hX];refine bodyPost_ret (v:=.tuple #[.agg #[.slice none 0 0,.int .i64 0,.int .i64 0,.string ⟨#[]⟩],.int .i64 3]) (by simp [results,Tryz.results19,go_sem,y0,y1,y2,y3]) rfl ?_;rw [HR.out];exact ⟨_,rfl,zbQ.zero (by rw [hD];exact HBD.out.grown hg (by have:=HBD.out.size;omega) (fun k e=>by injection e with e;omega))⟩
 ·
  have HR:Hid (res=res2):=HV1.out rfl;clear HV0 HV1
  go_enter Tryz.func19,Tryz.ntmps19
  go_wp2_with fail
  refine Calls.mono HK.out ?_;rintro e w1 ⟨rfl,hb1⟩;have HB1:Hid (Below W2.heap.size W2 w1):=hb1;clear d0 d1 d2 d3 hb1 HK;obtain ⟨bd,_,hok1,_⟩:=HD.out w1 HB1.out;have d0:=bd.c0;have d1:=bd.c1;have d2:=bd.c2;have d3:=bd.c3;have HC1:Hid (_):=HCp.out w1 hok1;clear bd hok1 HCp;go_wp2_with fail
  refine Calls.mono HC1.out ?_;rintro e w2 ⟨va,vc,xs,rfl,hx,ho,hap,hb2⟩;have hB2:=HB1.out.trans (hb2.mono HB1.out.size);obtain ⟨Q,hQ⟩:∃ Q,w2.heap.size=Q:=⟨_,rfl⟩
  obtain ⟨w3,hw3⟩:∃ W,w2.alloc (.cells #[.slice va ts.length vc,.int .i64 ep,.int .i64 nw,.string ⟨jr.toArray⟩] 26)=W:=⟨_,rfl⟩
  have bQ:=B4.new w2 (.slice va ts.length vc) (.int .i64 ep) (.int .i64 nw) (.string ⟨jr.toArray⟩) 26;have hb3:Below w2.heap.size w2 w3:=by rw [←hw3];exact (Below.refl _ _).alloc (Nat.le_refl _) _
  have hs3:w3.heap.size=Q+1:=by rw [←hw3,←hQ];simp
  rw [hw3,hQ] at bQ;have hB3:Below W2.heap.size W2 w3:=hB2.trans (hb3.mono hB2.size);have hw1:D+2≤w1.heap.size:=by have:=HB1.out.size;omega
  have hQl:w1.heap.size≤Q:=by rw [←hQ];exact hb2.size
  have HO3:Hid (za2 w3 w1.heap.size (.slice va ts.length vc) xs∧xs.map (·.1)=ts∧zai (xs.map tvT)):=⟨ho.below hb3,hx,hap⟩
  have hO3:∀ k,(Value.slice va ts.length vc).ownBlock=some k∨(∃ x∈xs,(tvT x).ownBlock=some k)→k<Q:=by
   intro k hk;rw [←hQ];rcases hk with e | ⟨x,hx,e⟩
   ·exact (ho.row.lt k e).2
   ·exact ((ho.trees x hx).lt k e).2
  have HO3l:Hid (_):=hO3
  have HT:Hid (_):=HLe.out Q w1.heap.size va vc xs w3 bQ HO3.out.1 HO3.out.2.1 HO3.out.2.2 (fun k hk e=>by
   have h:=HO3l.out k hk;omega) (by rw [hs3];omega) hQl (by first | rfl | trivial)
  have HB3:Hid (Below W2.heap.size W2 w3):=hB3;clear d0 d1 d2 d3 hb2 ho hap hx hb3 bQ hB3 hB2 hO3 HC1 HLe;go_wp2_with fail
  refine Calls.mono HT.out ?_;rintro e w4 ⟨rfl,xs4,hx4,ho4,hap4,bQ4,hb4,_⟩;have HB4:Hid (Below W2.heap.size W2 w4):=HB3.out.trans (hb4.mono HB1.out.size);obtain ⟨_,br,_,hbD⟩:=HD.out w4 HB4.out;have q0:=bQ4.c0;have q1:=bQ4.c1;have q2:=bQ4.c2;have q3:=bQ4.c3;have r0:=br.c0;have r1:=br.c1;have r2:=br.c2;have r3:=br.c3;have f0:=br.fr 0;have f1:=br.fr 1;have f2:=br.fr 2;have f3:=br.fr 3;have HBD:Hid (Below D w w4):=hbD;have HO4:Hid (za2 w4 w1.heap.size (.slice va ts.length vc) xs4∧xs4.map (·.1)=res2.1.1∧zai (xs4.map tvT)):=⟨ho4,hx4,hap4⟩;clear hbD br bQ4 ho4 hx4 hap4 hb4 HT;go_wp2;obtain ⟨X,hX,y0,y1,y2,y3,hg⟩:=set4 (.slice va ts.length vc) (.int .i64 ep) (.int .i64 nw) (.string ⟨res2.1.2.2.2.toArray⟩) r0 r1 r2 r3;rw [hX];refine bodyPost_ret (v:=.tuple #[.agg #[.slice va ts.length vc,.int .i64 ep,.int .i64 nw,.string ⟨res2.1.2.2.2.toArray⟩],.int .i64 res2.2]) (by simp [results,Tryz.results19,go_sem,y0,y1,y2,y3]) rfl ?_;rw [HR.out];have hk:=HO4.out.1.kept hg (za8 HO4.out.1.row (by omega)) (fun y hy=>za8 (HO4.out.1.trees y hy) (by omega));obtain ⟨hr1,hr1b,hr2⟩:=HRs.out;unfold zbQ;rw [hr1,hr1b,hr2];exact ⟨_,rfl,va,vc,xs4,rfl,HO4.out.2.1,hk.base (by omega),HO4.out.2.2,by rw [hD];exact HBD.out.grown hg (by have:=HBD.out.size;omega) (fun k e=>by injection e with e;omega)⟩
theorem zhj (B base:Nat) (va:Option Addr) (vc:Nat) (xs:List TV) (ts:List Ta) (ep nw:Int) (jr:List UInt8) (i:Nat) (key:Int) (w:World) (hb4:B4 w B (.slice va ts.length vc) (.int .i64 ep) (.int .i64 nw) (.string ⟨jr.toArray⟩)) (ho:za2 w base (.slice va ts.length vc) xs) (hx:xs.map (·.1)=ts) (hap:zai (xs.map tvT)) (hne:∀ k,zan (.slice va ts.length vc) xs k→k≠B) (hbase:base≤w.heap.size) (hbB:base≤B)
 (hi:i<ts.length) (hn:ts.length≤1048576) (hj:jr.length≤60000) (ht:∀ Z,Below base w Z→zb0 Z) (hy0:-9223372036854775808≤key) (hy1:key≤9223372036854775807) :
 Calls Tryz.prog 32 #[.pointer (some ⟨B,0,none⟩),.int .i64 (i:Int),.int .i64 key] w fun e w'=>e=.returned (.tuple #[])∧∃ xs',xs'.map (·.1)=ts.set i (zbo (ts.getD i ta0) key)∧za2 w' base (.slice va ts.length vc) xs'∧zai (xs'.map tvT)∧B4 w' B (.slice va ts.length vc) (.int .i64 ep) (.int .i64 nw) (.string ⟨(jr++zbk (i:Int) key).toArray⟩)∧zb2 w w' (fun k=>(Value.slice va ts.length vc).ownBlock=some k∨k=B)∧(∀ k,zan (.slice va ts.length vc) xs' k→zan (.slice va ts.length vc) xs k):=by
 obtain ⟨g,cp,he⟩:=zaw ho.row (by rw [←hx,List.length_map] at hi;omega);injection he with e1 e2 e3;subst e1 e3;have hxl:xs.length=ts.length:=e2.symm;have HTx:Hid (∀ Z,Below base w Z→_):=fun Z (hz:Below base w Z)=>zfR (i:Int) key Z (ht Z hz) (by omega) (by omega) hy0 hy1
 have HFm:Hid (∀ Z,_):=fun Z=>zfx (zd8 (i:Int) key) Z (by have:=zcR (k:=(i:Int)) (by omega) (by omega) hy0 hy1;omega)
 have hlr:zd7 (zd8 (i:Int) key)=zbk (i:Int) key:=rfl;rw [hlr] at HFm;have hll:=zgE (k:=(i:Int)) (by omega) (by omega) hy0 hy1;generalize zbk (i:Int) key=ln at HFm hll ⊢;generalize zd8 (i:Int) key=dt at HTx HFm;have HO:Hid (∀ Z,Below w.heap.size w Z→za2 Z base (.slice (some ⟨g,0,none⟩) ts.length vc) xs):=fun Z hz=>ho.below hz
 have HBx:Hid (∀ Z,Below w.heap.size w Z→B4 Z B (.slice (some ⟨g,0,none⟩) ts.length vc) (.int .i64 ep) (.int .i64 nw) (.string ⟨jr.toArray⟩)):=fun Z hz=>hb4.below hz
 have HX:Hid (xs.map (·.1)=ts∧zai (xs.map tvT)∧xs.length=ts.length):=⟨hx,hap,hxl⟩;have HgB:Hid (g≠B∧base≤g∧base≤w.heap.size∧base≤B):=⟨hne g (Or.inl rfl),(ho.row.lt g rfl).1,hbase,hbB⟩;have HNe:Hid (∀ k,zan (.slice (some ⟨g,0,none⟩) ts.length vc) xs k→k≠B):=hne;have HX1:Hid (_):=zes hx (i:=i) (by omega);have hix:i<xs.length:=by omega
 have hgx:xs.getD i tv0=xs[i]:=by simp [List.getD,hix]
 have HT:Hid (_):=zdp xs i hix;rw [hgx] at HT;obtain ⟨tv,htv⟩:∃ tv,xs[i]=tv:=⟨_,rfl⟩
 rw [htv] at HT HX1;have HTV:Hid (∃ h:i<xs.length,xs[i]=tv):=⟨hix,htv⟩;obtain ⟨⟨nm,ns,st,wk,un,ke⟩,na,nc⟩:=tv;simp only [tvT] at HT;simp only at HX1;have HXi:Hid ((nm,ns,st,wk,un,ke)=ts.getD i ta0):=HX1.out
 have HRow:Hid (∀ Z,Below w.heap.size w Z→Z.ownsRow base 42 6 (.slice (some ⟨g,0,none⟩) ts.length vc) ts.length (tksV xs)):=fun Z hz=>by
  have h:=(HO.out Z hz).row;rw [HX.out.2.2] at h;exact h
 have HCe:Hid (∀ Z,Below w.heap.size w Z→Z.cell? ⟨g,i*6,none⟩=some (.string ⟨nm.toArray⟩)∧Z.cell? ⟨g,i*6+1,none⟩=some (.slice na ns.length nc)∧Z.cell? ⟨g,i*6+2,none⟩=some (.int .i64 st)∧Z.cell? ⟨g,i*6+3,none⟩=some (.int .i64 wk)∧Z.cell? ⟨g,i*6+4,none⟩=some (.int .i64 un)∧Z.cell? ⟨g,i*6+5,none⟩=some (.int .i64 ke)):=fun Z hz=>by
  obtain ⟨v0,v1,v2,v3,v4,v5⟩:=HT.out;have hr:=HRow.out Z hz;exact ⟨(hr.cellAt _ (by omega)).trans v0,(hr.cellAt _ (by omega)).trans v1,(hr.cellAt _ (by omega)).trans v2,(hr.cellAt _ (by omega)).trans v3,(hr.cellAt _ (by omega)).trans v4,(hr.cellAt _ (by omega)).trans v5⟩
 have HAs:Hid (∀ Z,_):=fun Z=>zn9 nm na ns.length nc st wk un ke key Z
 have hwi:IntKind.i64.wrap (i:Int)=(i:Int):=by rw [IntKind.wrap_i64];omega
 have HB0:Hid (Below w.heap.size w w.drew):=⟨rfl,rfl,rfl,Nat.le_refl _,fun _ _=>rfl⟩;have b0:=(HBx.out w (Below.refl _ _)).c0;obtain ⟨c0,c1,c2,c3,c4,c5⟩:=HCe.out w (Below.refl _ _);clear hb4 ho hx hap hne hbase hbB hxl e2 HX1 hgx htv hix hlr ht
 go_enter Tryz.func32,Tryz.ntmps32
 go_wp2;refine Till.region (S:=(fun Z=>Z.cell? ⟨B,0,none⟩=some (.slice (some ⟨g,0,none⟩) ts.length vc)∧Z.cell? ⟨g,i*6,none⟩=some (.string ⟨nm.toArray⟩)∧Z.cell? ⟨g,i*6+1,none⟩=some (.slice na ns.length nc)∧Z.cell? ⟨g,i*6+2,none⟩=some (.int .i64 st)∧Z.cell? ⟨g,i*6+3,none⟩=some (.int .i64 wk)∧Z.cell? ⟨g,i*6+4,none⟩=some (.int .i64 un)∧Z.cell? ⟨g,i*6+5,none⟩=some (.int .i64 ke))) (E:=[15]) (by kernel_rfl) ?_ (fun hHeld hSh=>?_)
 ·exact ⟨b0,c0,c1,c2,c3,c4,c5⟩
 refine tkO [(0,6),(1,7),(2,8),(3,9),(4,10),(5,11),(6,12),(7,13),(8,14),(9,15),(10,16),(11,17),(12,18)] ?_
 repeat (refine tlY ?_ rfl (by rfl) ?_ (fun hSh2=>?_);rotate_left;(focus (intro wq hSw;(try dsimp only at hSw);first | (go_simp;done) | (go_simp;with_reducible rfl)));clear hSh;rename zaI _ _ _=>hSh;simp only [zP])
 refine tkZ ?_;refine Till.one (i:=13) (by kernel_rfl) rfl hSh (fun K hK=>?_);clear hSh;go_simp
 (go_at_call 64;refine Calls.mono (HAs.out _) ?_;rintro e w6 ⟨rfl,hb6⟩;have HB6:Hid (Below w.heap.size w w6):=HB0.out.trans (hb6.mono HB0.out.size);clear hb6 b0 c0 c1 c2 c3 c4 c5;have b0:=(HBx.out w6 HB6.out).c0;obtain ⟨c0,c1,c2,c3,c4,c5⟩:=HCe.out w6 HB6.out)
 refine hK.out _ _ ?_ (fun hHeld hSh=>?_)
 ·exact ⟨b0,c0,c1,c2,c3,c4,c5⟩
 clear hK K;refine tkO [(14,20)] ?_
 repeat (refine tlY ?_ rfl (by rfl) ?_ (fun hSh2=>?_);rotate_left;(focus (intro wq hSw;(try dsimp only at hSw);first | (go_simp;done) | (go_simp;with_reducible rfl)));clear hSh;rename zaI _ _ _=>hSh;simp only [zP])
 refine tkZ ?_;have hr0:=HRow.out w6 HB6.out;have e0:=hr0.frozenAt (i*6);have hs0:=hr0.stored (i*6) (.string ⟨nm.toArray⟩);have e1:=hr0.frozenAt (i*6+1);have hs1:=hs0.1.stored (i*6+1) (.slice na ns.length nc);have e2:=hr0.frozenAt (i*6+2);have hs2:=hs1.1.stored (i*6+2) (.int .i64 2);have e3:=hr0.frozenAt (i*6+3);have hs3:=hs2.1.stored (i*6+3) (.int .i64 0);have e4:=hr0.frozenAt (i*6+4);have hs4:=hs3.1.stored (i*6+4) (.int .i64 0);have e5:=hr0.frozenAt (i*6+5);have hs5:=hs4.1.stored (i*6+5) (.int .i64 key);obtain ⟨V,hV⟩:∃ V,((((((w6.setCell ⟨g,i*6,none⟩ (.string ⟨nm.toArray⟩)).setCell ⟨g,i*6+1,none⟩ (.slice na ns.length nc)).setCell ⟨g,i*6+2,none⟩ (.int .i64 2)).setCell ⟨g,i*6+3,none⟩ (.int .i64 0)).setCell ⟨g,i*6+4,none⟩ (.int .i64 0)).setCell ⟨g,i*6+5,none⟩ (.int .i64 key))=V:=⟨_,rfl⟩
 have hgV:w6.grownBy V (some g):=by rw [←hV];exact ((((hs0.2.trans hs1.2).trans hs2.2).trans hs3.2).trans hs4.2).trans hs5.2
 have hrV:=hs5.1;have hset:=zi8 xs i ((nm,ns,2,0,0,key),na,nc);simp only [tvT] at hset;rw [hset,hV] at hrV;have bQV:=(HBx.out w6 HB6.out).grown hgV (by intro e;injection e with e;exact HgB.out.1 e);have HBV:Hid (Below base w V):=(HB6.out.mono HgB.out.2.2.1).grown hgV (Nat.le_trans HgB.out.2.2.1 HB6.out.size) (fun k e=>by injection e with e;have:=HgB.out.2.1;omega);have HBVs:Hid (base≤V.heap.size):=by have h1:=HBV.out.size;have h2:=HgB.out.2.2.1;exact (by omega:base≤V.heap.size)
 have HOV:Hid (∃ h:i<xs.length,za2 V base (.slice (some ⟨g,0,none⟩) ts.length vc) (xs.set i ((nm,ns,2,0,0,key),na,nc))∧zai ((xs.set i ((nm,ns,2,0,0,key),na,nc)).map tvT)):=by obtain ⟨h,e⟩:=HTV.out;exact ⟨h,(HO.out _ HB6.out).put h _ hgV (by rw [HX.out.2.2];exact hrV) (by rw [e]) (by rw [e]),zdn h _ (by rw [e]) (by rw [e]) HX.out.2.1⟩
 have p3:=bQV.c3;have pf3:=bQV.fr 3;have HBQ:Hid (B4 V B (.slice (some ⟨g,0,none⟩) ts.length vc) (.int .i64 ep) (.int .i64 nw) (.string ⟨jr.toArray⟩)):=bQV;have HGV:Hid (w6.grownBy V (some g)):=hgV;clear hs0 hs1 hs2 hs3 hs4 hs5 hr0 hrV hset bQV hgV;refine Till.last (i:=15) (by kernel_rfl) rfl (by decide) (fun K hK=>?_);go_simp;refine hK.out _ _ ?_;clear hK K
 (try rw [hV])
 refine Till.done (by kernel_rfl) ?_ _;go_wp2;have HVd:Hid (Below V.heap.size V V.drew):=⟨rfl,rfl,rfl,Nat.le_refl _,fun _ _=>rfl⟩;refine Till.region (S:=(fun Z=>Z.cell? ⟨B,3,none⟩=some (.string ⟨jr.toArray⟩))) (E:=[11]) (by kernel_rfl) ?_ (fun hHeld hSh=>?_)
 ·exact p3
 refine tkO [(0,21),(1,22),(2,23),(3,24),(4,25),(5,26)] ?_
 repeat (refine tlY ?_ rfl (by rfl) ?_ (fun hSh2=>?_);rotate_left;(focus (intro wq hSw;(try dsimp only at hSw);first | (go_simp;done) | (go_simp;with_reducible rfl)));clear hSh;rename zaI _ _ _=>hSh;simp only [zP])
 refine tkZ ?_;refine Till.one (i:=6) (by kernel_rfl) rfl hSh (fun K hK=>?_);clear hSh;go_simp
 (go_at_call 60;refine Calls.mono (HTx.out _ (HBV.out.trans (HVd.out.mono HBVs.out))) ?_;rintro e w8 ⟨rfl,hb8⟩;have HB8:Hid (Below V.heap.size V w8):=HVd.out.trans (hb8.mono HVd.out.size);clear hb8 p3 pf3;have p3:=(HBQ.out.below HB8.out).c3;have pf3:=(HBQ.out.below HB8.out).fr 3)
 refine hK.out _ _ ?_ (fun hHeld hSh=>?_)
 ·exact p3
 clear hK K;refine Till.one (i:=7) (by kernel_rfl) rfl hSh (fun K hK=>?_);clear hSh;go_simp
 (go_at_call 59;refine Calls.mono (HFm.out _) ?_;rintro e w9 ⟨rfl,hb9⟩;have HB9:Hid (Below V.heap.size V w9):=HB8.out.trans (hb9.mono HB8.out.size);clear hb9 p3 pf3;have p3:=(HBQ.out.below HB9.out).c3;have pf3:=(HBQ.out.below HB9.out).fr 3)
 refine hK.out _ _ ?_ (fun hHeld hSh=>?_)
 ·exact p3
 clear hK K;have hcat:=zc7;refine tkO [(8,29)] ?_
 repeat (refine tlY ?_ rfl (by rfl) ?_ (fun hSh2=>?_);rotate_left;(focus (intro wq hSw;(try dsimp only at hSw);first | (go_simp;done) | (go_simp;with_reducible rfl) | (go_simp;rw [if_neg (by omega)])));clear hSh;rename zaI _ _ _=>hSh;simp only [zP])
 refine tkZ ?_;refine tkO [(9,30),(10,31)] ?_
 repeat (refine tlY ?_ rfl (by rfl) ?_ (fun hSh2=>?_);rotate_left;(focus (intro wq hSw;(try dsimp only at hSw);first | (go_simp;done) | (go_simp;with_reducible rfl)));clear hSh;rename zaI _ _ _=>hSh;simp only [zP])
 refine tkZ ?_;refine Till.last (i:=11) (by kernel_rfl) rfl (by decide) (fun K hK=>?_);go_simp;refine hK.out _ _ ?_;clear hK K;refine Till.done (by kernel_rfl) ?_ _;go_wp2
 first | go_end0 | refine bodyPost_ret (results_none rfl _ _ _) rfl ?_
 obtain ⟨hix,hoV,hapV⟩:=HOV.out
 have hoff:∀ k,zan (.slice (some ⟨g,0,none⟩) ts.length vc) (xs.set i ((nm,ns,2,0,0,key),na,nc)) k→zan (.slice (some ⟨g,0,none⟩) ts.length vc) xs k:=by
  rintro k (e | ⟨y,hy,e⟩)
  ·exact Or.inl e
  ·
   rcases List.mem_or_eq_of_mem_set hy with h | h
   ·exact Or.inr ⟨y,h,e⟩
   ·subst h;obtain ⟨h1,h2⟩:=HTV.out;exact Or.inr ⟨xs[i],List.getElem_mem h1,by rw [h2];exact e⟩
 have hgF:=zae w9 B 3 (.string ⟨(jr++ln).toArray⟩)
 have hoW:=(hoV.below HB9.out).kept hgF (by
  rcases h:(Value.slice (some ⟨g,0,none⟩) ts.length vc).ownBlock with _ | k
  ·exact Or.inl rfl
  ·exact Or.inr (fun e=>by injection e with e;exact HNe.out k (Or.inl h) e)) (fun x hx=>by
  rcases h:(tvT x).ownBlock with _ | k
  ·exact Or.inl rfl
  ·exact Or.inr (fun e=>by injection e with e;exact HNe.out k (hoff k (Or.inr ⟨x,hx,h⟩)) e))
 have hW6:zb2 w w6 (fun k=>(Value.slice (some ⟨g,0,none⟩) ts.length vc).ownBlock=some k∨k=B):=zb2.of_below HB6.out;have hWV:=hW6.trans (zb2.of_grown HGV.out (fun k e=>Or.inl e));have hW9:=hWV.trans (zb2.of_below HB9.out);have hWF:=hW9.trans (zb2.of_grown hgF (fun k e=>Or.inr (by injection e with e;exact e.symm)));refine ⟨rfl,_,?_,hoW,hapV,(HBQ.out.below HB9.out).s3 _,hWF,hoff⟩;rw [List.map_set,HX.out.1]
 show ts.set i _=ts.set i _
 congr 1
 unfold zbo;rw [←HXi.out]
theorem zit (B base:Nat) (va:Option Addr) (vc:Nat) (xs:List TV) (ts:List Ta) (ep nw:Int) (jr:List UInt8) (i:Nat) (key:Int) (w:World) (hb4:B4 w B (.slice va ts.length vc) (.int .i64 ep) (.int .i64 nw) (.string ⟨jr.toArray⟩)) (ho:za2 w base (.slice va ts.length vc) xs) (hx:xs.map (·.1)=ts) (hap:zai (xs.map tvT)) (hne:∀ k,zan (.slice va ts.length vc) xs k→k≠B) (hbase:base≤w.heap.size) (hbB:base≤B)
 (hi:i<ts.length) (hn:ts.length≤1048576) (hj:jr.length≤60000) (ht:∀ Z,Below base w Z→zb0 Z) (hy0:-9223372036854775808≤key) (hy1:key≤9223372036854775807) :
 Calls Tryz.prog 32 #[.pointer (some ⟨B,0,none⟩),.int .i64 (i:Int),.int .i64 key] w fun e w'=>e=.returned (.tuple #[])∧∃ xs',xs'.map (·.1)=ts.set i (zbo (ts.getD i ta0) key)∧za2 w' base (.slice va ts.length vc) xs'∧zai (xs'.map tvT)∧B4 w' B (.slice va ts.length vc) (.int .i64 ep) (.int .i64 nw) (.string ⟨(jr++zbk (i:Int) key).toArray⟩)∧Below base w w':=by
 refine Calls.mono (zhj B base va vc xs ts ep nw jr i key w hb4 ho hx hap hne hbase hbB hi hn hj ht hy0 hy1) ?_;rintro e w4 ⟨rfl,xs4,hx4,ho4,hap4,hb44,hw,_⟩;refine ⟨rfl,xs4,hx4,ho4,hap4,hb44,hw.below hbase (fun k hk=>?_)⟩;rcases hk with h | h
 ·exact (ho.row.lt k h).1
 ·subst h;exact hbB
end Go.Proofs.YtponeoijfaepnaaGreatDoor
