/-
  Parts of one proof, one behind the other: CallI, ErrJ, ErrK, ErrL.
-/
import Derived.Test.YtdbljnddkbpanaaGreatDoorP39
import Derived.Test.YtdbljnddkbpanaaGreatDoorP35
import Derived.Test.YtdbljnddkbpanaaGreatDoorP13
import Derived.Test.YtdbljnddkbpanaaGreatDoorP38
import Derived.Test.YtdbljnddkbpanaaGreatDoorP37
import Derived.Deep.RegionWith
import Derived.Deep.Quiet
import Derived.Test.YtdbljnddkbpanaaGreatDoorP12
import Derived.Laws.Rows
namespace Go.Proofs.YtdbljnddkbpanaaGreatDoor
open Go.RowKit
def cwV (e:Nat→Addr) (c:Int):Value:=if c=0 then .nilIface else zb2 (e c.toNat)
set_option maxHeartbeats 2000000 in
set_option maxRecDepth 100000 in
theorem zgX (a:Option Addr) (len cap:Nat) (ps:List Pk) (f:Nat) (q:List UInt8) (w:World) (h:zal w a len cap ps) (hf:f<len) :
 Calls Tryz.prog 182 #[.slice a len cap,.int .i64 (f:Int),.string ⟨q.toArray⟩] w fun e w'=>e=.returned (.int .i64 (toV ps f q))∧Below w.heap.size w w':=by
 obtain ⟨b,off,rfl,hbl,c0,ia,il,ic,fa,fl,fc,c1,c2,hpk⟩:=h.each f hf
 have hsm:=h.small
 have hf2:(f:Int)<(len:Int):=by omega
 have hilb:=hpk.il
 have HP:Hid (_):=zcU (some ⟨b,off,none⟩) len cap ps q w h.in h.small
 have HC:Hid (_):=zeO ia il ic (zbc ps f) q w hpk.i hpk.il
 obtain ⟨ov,hov⟩:∃ ov,toV ps f q=ov:=⟨_,rfl⟩
 have HV:Hid (toV ps f q=ov):=hov
 rw [hov]
 unfold toV at hov
 obtain ⟨x,hx⟩:∃ x,(ps.getD f pk0).1=x:=⟨_,rfl⟩
 have hx2:nmAt ps f=x:=hx
 rw [hx] at c0
 rw [hx2] at hov
 clear hx hx2 hpk c2 h
 by_cases h1:q=x
 ·
  rw [if_pos h1] at hov
  have hb1:(q==x)=true:=by rw [h1];simp
  subst hov
  go_enter Tryz.func182,Tryz.ntmps182
  go_wp2
  go_ret
  exact ⟨rfl,Below.refl _ _⟩
 ·
  rw [if_neg h1] at hov
  have hb1:(q==x)=false:=by rw [beq_eq_false_iff_ne];exact h1
  by_cases h2:q∈zbc ps f
  ·
   rw [if_pos h2] at hov
   rw [decide_eq_true h2] at HC
   rw [hov] at HP
   clear hov h2 HV
   go_enter Tryz.func182,Tryz.ntmps182
   go_wp2_with fail
   refine Calls.mono HC.out ?_
   rintro e w1 ⟨rfl,hw1⟩
   obtain rfl:=hw1.symm
   go_wp2_with fail
   refine Calls.mono HP.out ?_
   rintro e w2 ⟨rfl,hb2⟩
   go_wp2
   go_ret
   exact ⟨rfl,hb2⟩
  ·
   rw [if_neg h2] at hov
   rw [decide_eq_false h2] at HC
   subst hov
   clear h2 HV
   go_enter Tryz.func182,Tryz.ntmps182
   go_wp2_with fail
   refine Calls.mono HC.out ?_
   rintro e w1 ⟨rfl,hw1⟩
   obtain rfl:=hw1.symm
   go_wp2
   go_ret
   exact ⟨rfl,Below.refl _ _⟩
set_option maxHeartbeats 4000000 in
set_option maxRecDepth 100000 in
theorem zj5 (a:Option Addr) (len cap:Nat) (ps:List Pk) (f i:Nat) (n:Nd) (er:Nat→Addr) (w:World) (h:zal w a len cap ps) (hE:Err4 w er) (hf:f<len) (hi:i≤(ps.getD f pk0).2.2.length) :
 Calls Tryz.prog 174 #[.slice a len cap,.int .i64 (f:Int),.int .i64 (i:Int),za8 n] w fun e w'=>e=.returned (cwV er (zb8 ps (ps.getD f pk0) (i:Int) n))∧Below w.heap.size w w':=by
 obtain rfl:ps.length=len:=h.hlen
 obtain ⟨k,A,x,fn⟩:=n
 have hw:=toV_ways hf x
 have hway:∀ t,farB ps (ps.getD f pk0) x=false→ofPk ps (ps.getD f pk0) x=ps.getD t pk0→(x=(ps.getD f pk0).1↔t=f)→_:=fun t h1 h2 h3=>znP (i:=i) (n:=(k,A,x,fn)) h1 h2 h3
 have hfar:farB ps (ps.getD f pk0) x=true→_:=fun h1=>zpM (i:=i) (n:=(k,A,x,fn)) h1
 simp only at hway hfar
 obtain ⟨cv,hcv⟩:∃ cv,zb8 ps (ps.getD f pk0) (i:Int) (k,A,x,fn)=cv:=⟨_,rfl⟩
 rw [hcv] at hfar hway ⊢
 unfold za8
 simp only
 obtain ⟨⟨n0,n1,n2,n3⟩,hb0⟩:=zf4 w (.int .i64 k) (.int .i64 A) (.string ⟨x.toArray⟩) (.string ⟨fn.toArray⟩) 103
 obtain ⟨W,hW⟩:∃ W,w.alloc (.cells #[.int .i64 k,.int .i64 A,.string ⟨x.toArray⟩,.string ⟨fn.toArray⟩] 103)=W:=⟨_,rfl⟩
 rw [hW] at n0 n1 n2 n3 hb0
 have hsW:w.heap.size<W.heap.size:=by rw [←hW];simp
 obtain ⟨D,hD⟩:∃ D,w.heap.size=D:=⟨_,rfl⟩
 rw [hD] at n0 n1 n2 n3 hsW
 have HZ:Hid (∀ Z,Below W.heap.size W Z→(Z.cell? ⟨D,0,none⟩=some (.int .i64 k)∧Z.cell? ⟨D,1,none⟩=some (.int .i64 A)∧Z.cell? ⟨D,2,none⟩=some (.string ⟨x.toArray⟩)∧Z.cell? ⟨D,3,none⟩=some (.string ⟨fn.toArray⟩))∧zal Z a ps.length cap ps∧Err4 Z er∧Below w.heap.size w Z):=fun Z hz=>⟨⟨(hz.cell (p:=⟨D,0,none⟩) hsW).trans n0,(hz.cell (p:=⟨D,1,none⟩) hsW).trans n1,(hz.cell (p:=⟨D,2,none⟩) hsW).trans n2,(hz.cell (p:=⟨D,3,none⟩) hsW).trans n3⟩,(h.below hb0).below hz,(hE.below hb0).below hz,hb0.trans (hz.mono hb0.size)⟩
 have HT:Hid (_):=zgX a ps.length cap ps f x W (HZ.out W (Below.refl _ _)).2.1 hf
 have hsm:=h.small
 have HI:Hid (i≤(ps.getD f pk0).2.2.length):=hi
 clear h hE hb0 hcv hi
 go_enter Tryz.func174,Tryz.ntmps174
 go_wp2_with fail
 refine Calls.mono HT.out ?_
 rintro e w1 ⟨rfl,hb1⟩
 clear HT n0 n1 n2 n3
 obtain ⟨⟨n0,n1,n2,n3⟩,hok,hE,HB⟩:=HZ.out w1 hb1
 rcases hw with ⟨et,hfr⟩ | ⟨t,ht,et,hfr,hof,hiff⟩
 ·
  rw [et]
  obtain rfl:=hfar hfr
  have g1:=hE.far
  have HB2:Hid (_):=HB
  clear hok hE HB hway hfar
  go_wp2
  go_ret
  exact ⟨rfl,HB2.out⟩
 ·
  rw [et]
  have hw2:=hway t hfr hof hiff
  have hln:=fsTo_len (ps:=ps) (f:=f) (t:=t) (i:=i) (fun e=>by rw [e];exact HI.out)
  obtain ⟨b,off,rfl,hbl,c0,ia,il,ic,fa,fl,fc,c1,c2,hpk⟩:=hok.each t ht
  have ht2:(t:Int)<(ps.length:Int):=by omega
  have htn:¬(t:Int)=-1:=by omega
  have htb:((t:Int)==-1)=false:=beq_eq_false_iff_ne.2 htn
  have hfll:=hpk.fl
  have hfcc:=hpk.fc.2
  have hflen:(ps.getD t pk0).2.2.length=fl:=hpk.f.1
  have hFI:∀ m:Nat,m=(if t=f then i else fl)→zaD w1 fa m (fsTo ps f t i):=fun m hm=>by
   unfold fsTo
   by_cases e:t=f
   ·
    rw [if_pos e] at hm ⊢
    subst hm
    exact hpk.f.take (by have:=HI.out;rw [←e,hflen] at this;exact this)
   ·
    rw [if_neg e] at hm ⊢
    subst hm
    exact hpk.f
  have hml:(if t=f then i else fl)≤fl:=by
   by_cases e:t=f
   ·
    rw [if_pos e];have:=HI.out;rw [←e,hflen] at this;exact this
   ·
    rw [if_neg e];exact Nat.le_refl _
  generalize fsTo ps f t i=m at hw2 hln hFI
  have gf:=hE.func
  have gc:=hE.count
  have HE:Hid (Err4 w1 er):=hE
  have HB1:Hid (Below W.heap.size W w1):=hb1
  have HP:Hid (zaD w1 fa (if t=f then i else fl) m):=hFI _ rfl
  have HW:Hid (_):=hw2
  clear hway hfar hok hpk hE HB hb1 hiff hof hfr hw2 hFI c0 c1 hflen
  by_cases htf:t=f
  ·
   subst htf
   rw [if_pos rfl] at HP hml
   have hself:((t:Int)==(t:Int))=true:=by simp
   have hic:(i:Int)≤(fc:Int):=by omega
   have hic2:i≤fc:=by omega
   have HC:Hid (∀ cp,_):=fun cp=>zcV fa i cp m fn w1 HP.out (by omega)
   clear hln
   go_wp2_with fail
   refine Calls.mono (HC.out _) ?_
   rintro e w2 ⟨rfl,hb2⟩
   have hP2:zaD w2 fa i m:=HP.out.below hb2
   replace hb2:=HB1.out.trans (hb2.mono HB1.out.size)
   clear n0 n1 n2 n3 gf gc c2
   obtain ⟨⟨n0,n1,n2,n3⟩,hok,hE,HB⟩:=HZ.out w2 hb2
   have HB2:Hid (_):=HB
   have gf:=hE.func
   have gc:=hE.count
   have hl2:m.length=i:=hP2.1
   rcases HW.out with ⟨ea,rfl⟩ | ⟨c,hc,ea,hw3⟩
   ·
    rw [ea]
    clear hok hE HB HC HW hP2 HE hl2
    go_wp2
    go_ret
    exact ⟨rfl,HB2.out⟩
   ·
    rw [ea]
    obtain ⟨b2,o2,rfl,hb2l,r0,r1,ta,tl,tc,r2,_,_⟩:=hP2.2 c (by omega)
    have hcn:((c:Int)==-1)=false:=beq_eq_false_iff_ne.2 (by omega)
    have hcl:(c:Int)<(i:Int):=by omega
    obtain ⟨ag,hag⟩:∃ ag,(m.getD c fn0).2.1=ag:=⟨_,rfl⟩
    rw [hag] at hw3 r1
    clear hok hE HB HC HW hP2 HE hl2 HP ea hag r0 r2
    rcases hw3 with ⟨hA,rfl⟩ | ⟨rfl,rfl⟩
    ·
     have hAb:(ag !=A)=true:=by rw [bne_iff_ne];exact hA
     go_wp2_with fail
     go_quiet (fail)
     go_wp2
     go_ret
     exact ⟨rfl,HB2.out.trans ⟨rfl,rfl,rfl,Nat.le_refl _,fun _ _=>rfl⟩⟩
    ·
     have hAb:(ag !=ag)=false:=by simp
     go_wp2_with fail
     go_quiet (fail)
     go_wp2
     go_ret
     exact ⟨rfl,HB2.out.trans ⟨rfl,rfl,rfl,Nat.le_refl _,fun _ _=>rfl⟩⟩
  ·
   rw [if_neg htf] at HP hml
   have hne:((t:Int)==(f:Int))=false:=beq_eq_false_iff_ne.2 (by omega)
   have HC:Hid (∀ cp,_):=fun cp=>zcV fa fl cp m fn w1 HP.out (by omega)
   clear hln
   go_wp2_with fail
   refine Calls.mono (HC.out _) ?_
   rintro e w2 ⟨rfl,hb2⟩
   have hP2:zaD w2 fa fl m:=HP.out.below hb2
   replace hb2:=HB1.out.trans (hb2.mono HB1.out.size)
   clear n0 n1 n2 n3 gf gc c2
   obtain ⟨⟨n0,n1,n2,n3⟩,hok,hE,HB⟩:=HZ.out w2 hb2
   have HB2:Hid (_):=HB
   have gf:=hE.func
   have gc:=hE.count
   have hl2:m.length=fl:=hP2.1
   rcases HW.out with ⟨ea,rfl⟩ | ⟨c,hc,ea,hw3⟩
   ·
    rw [ea]
    clear hok hE HB HC HW hP2 HE hl2
    go_wp2
    go_ret
    exact ⟨rfl,HB2.out⟩
   ·
    rw [ea]
    obtain ⟨b2,o2,rfl,hb2l,r0,r1,ta,tl,tc,r2,_,_⟩:=hP2.2 c (by omega)
    have hcn:((c:Int)==-1)=false:=beq_eq_false_iff_ne.2 (by omega)
    have hcl:(c:Int)<(fl:Int):=by omega
    obtain ⟨ag,hag⟩:∃ ag,(m.getD c fn0).2.1=ag:=⟨_,rfl⟩
    rw [hag] at hw3 r1
    clear hok hE HB HC HW hP2 HE hl2 HP ea hag r0 r2
    rcases hw3 with ⟨hA,rfl⟩ | ⟨rfl,rfl⟩
    ·
     have hAb:(ag !=A)=true:=by rw [bne_iff_ne];exact hA
     go_wp2_with fail
     go_quiet (fail)
     go_wp2
     go_ret
     exact ⟨rfl,HB2.out.trans ⟨rfl,rfl,rfl,Nat.le_refl _,fun _ _=>rfl⟩⟩
    ·
     have hAb:(ag !=ag)=false:=by simp
     go_wp2_with fail
     go_quiet (fail)
     go_wp2
     go_ret
     exact ⟨rfl,HB2.out.trans ⟨rfl,rfl,rfl,Nat.le_refl _,fun _ _=>rfl⟩⟩
set_option maxHeartbeats 4000000 in
set_option maxRecDepth 100000 in
theorem zhF (c:Int) (er:Nat→Addr) (w:World) (hE:Err4 w er) (hc:-1≤c∧c≤3) :
 Calls Tryz.prog 129 #[cwV er c] w fun e w'=>e=.returned (.int .i64 c)∧w'=w:=by
 have gt:=hE.told
 have g1:=hE.far
 have g2:=hE.func
 have g3:=hE.count
 unfold zb2 at gt g1 g2 g3
 have h0:=hE.at0
 have h1:=hE.at1
 have h2:=hE.at2
 have h3:=hE.at3
 obtain ⟨d01,d02,d03,d12,d13,d23⟩:=hE.ne
 clear hE
 rcases (show c=0∨c=-1∨c=1∨c=2∨c=3 by omega) with rfl | rfl | rfl | rfl | rfl
 ·
  have hv:cwV er 0=.nilIface:=rfl
  rw [hv]
  go_enter Tryz.func129,Tryz.ntmps129
  go_wp2
  go_ret
  exact ⟨rfl,rfl⟩
 ·
  have hv:cwV er (-1)=.iface 248 (.pointer (some (er 0))):=rfl
  rw [hv]
  go_enter Tryz.func129,Tryz.ntmps129
  go_wp2_with fail
  refine Calls.mono (zcm (er 0) (er 1) w d01 h0 h1) ?_
  rintro e w1 ⟨rfl,hw⟩
  obtain rfl:=hw.symm
  clear hw
  go_wp2_with fail
  refine Calls.mono (zcm (er 0) (er 2) w d02 h0 h2) ?_
  rintro e w2 ⟨rfl,hw⟩
  obtain rfl:=hw.symm
  clear hw
  go_wp2_with fail
  refine Calls.mono (zcm (er 0) (er 3) w d03 h0 h3) ?_
  rintro e w3 ⟨rfl,hw⟩
  obtain rfl:=hw.symm
  clear hw
  go_wp2
  go_ret
  exact ⟨rfl,rfl⟩
 ·
  have hv:cwV er (1)=.iface 248 (.pointer (some (er 1))):=rfl
  rw [hv]
  go_enter Tryz.func129,Tryz.ntmps129
  go_wp2_with fail
  refine Calls.mono (zlm (er 1) w) ?_
  rintro e w1 ⟨rfl,hw⟩
  obtain rfl:=hw.symm
  clear hw
  go_wp2
  go_ret
  exact ⟨rfl,rfl⟩
 ·
  have hv:cwV er (2)=.iface 248 (.pointer (some (er 2))):=rfl
  rw [hv]
  go_enter Tryz.func129,Tryz.ntmps129
  go_wp2_with fail
  refine Calls.mono (zcm (er 2) (er 1) w d12.symm h2 h1) ?_
  rintro e w1 ⟨rfl,hw⟩
  obtain rfl:=hw.symm
  clear hw
  go_wp2_with fail
  refine Calls.mono (zlm (er 2) w) ?_
  rintro e w2 ⟨rfl,hw⟩
  obtain rfl:=hw.symm
  clear hw
  go_wp2
  go_ret
  exact ⟨rfl,rfl⟩
 ·
  have hv:cwV er (3)=.iface 248 (.pointer (some (er 3))):=rfl
  rw [hv]
  go_enter Tryz.func129,Tryz.ntmps129
  go_wp2_with fail
  refine Calls.mono (zcm (er 3) (er 1) w d13.symm h3 h1) ?_
  rintro e w1 ⟨rfl,hw⟩
  obtain rfl:=hw.symm
  clear hw
  go_wp2_with fail
  refine Calls.mono (zcm (er 3) (er 2) w d23.symm h3 h2) ?_
  rintro e w2 ⟨rfl,hw⟩
  obtain rfl:=hw.symm
  clear hw
  go_wp2_with fail
  refine Calls.mono (zlm (er 3) w) ?_
  rintro e w3 ⟨rfl,hw⟩
  obtain rfl:=hw.symm
  clear hw
  go_wp2
  go_ret
  exact ⟨rfl,rfl⟩
section
open Go.RowKit Go.Extern.Stop Go.Stop Go.Extern
def wrapV (p f:List UInt8) (a:Addr):Value:=.iface 131 (.agg #[.string ⟨p.toArray⟩,.string ⟨f.toArray⟩,zb2 a])
structure Err8 (w:World) (e:Nat→Addr):Prop where
 four:Err4 w e
 imp:w.cell? ⟨2,0,none⟩=some (zb2 (e 4))
 ring:w.cell? ⟨3,0,none⟩=some (zb2 (e 5))
 arg:w.cell? ⟨4,0,none⟩=some (zb2 (e 6))
 main:w.cell? ⟨1,0,none⟩=some (zb2 (e 7))
 at_:∀ i,i<8→zd0 w (e i)
 ne:∀ i j,i<8→j<8→i≠j→e i≠e j
 ety:w.cell? ⟨5,0,none⟩=some (.iface 190 (.agg #[.pointer (some ⟨13,127,none⟩)]))
theorem Err8.below {w w':World} {e:Nat→Addr} (h:Err8 w e) (hb:Below w.heap.size w w'):Err8 w' e :=
 ⟨h.four.below hb,zbG h.imp hb,zbG h.ring hb,zbG h.arg hb,zbG h.main hb,fun i hi=>(h.at_ i hi).below hb,h.ne,zbG h.ety hb⟩
theorem noIsW (v:Value) (xT:TypeId) (w:World):(Instr.typeAssert (.iface 131 v) xT 220 true).run Tryz.prog w=.ok (.tuple #[.nilIface,.bool false]) w:=run_typeAssert_lacksB Tryz.underlying220 (by kernel_rfl) (by kernel_rfl) v xT w
theorem zid (v:Value) (xT:TypeId) (w:World):(Instr.typeAssert (.iface 131 v) xT 197 true).run Tryz.prog w=.ok (.tuple #[.iface 131 v,.bool true]) w:=run_typeAssert_hasB Tryz.underlying197 (by kernel_rfl) v xT w
theorem zf8 (v : Value) (w : World) : (Go.method 379 131 v "Unwrap").run Tryz.prog w = .ok (211, v) w := by kernel_rfl
set_option maxHeartbeats 4000000 in
set_option maxRecDepth 100000 in
theorem zbC (p f:List UInt8) (a:Addr) (w:World) :
 Calls Tryz.prog 128 #[.iface 131 (.agg #[.string ⟨p.toArray⟩,.string ⟨f.toArray⟩,.iface 248 (.pointer (some a))]),.iface 248 (.pointer (some a))] w fun e w'=>e=.returned (.bool true)∧Below w.heap.size w w':=by
 obtain ⟨i,hi,hcmp⟩:=Option.map_eq_some_iff.1 zmy
 obtain ⟨j,hj,hjs⟩:=Option.map_eq_some_iff.1 zmx
 have h8:=@run_callFunc_extern Tryz.prog 155 _ Extern.ReflectliteType.typeOf Tryz.func155 (by kernel_rfl) (by kernel_rfl) (by kernel_rfl) (by kernel_rfl)
 have h32:=@run_callFunc_extern Tryz.prog 222 _ cmpE Tryz.func222 (by kernel_rfl) (by kernel_rfl) (by kernel_rfl) (by kernel_rfl)
 have tT:=zfa
 have cT:=zd8
 have mR:=zbv
 have nW:=noIsW
 have uW:=zid
 have mU:=zf8
 have heq:∀ W:World,_:=fun W=>run_eql_iface_ptr_same (P:=Tryz.prog) W a Tryz.underlying127 Tryz.underlying248 hi hcmp hj
 have hty:∀ W:World,_:=fun W=>run_eql_iface_types (P:=Tryz.prog) 131 248 (.agg #[.string ⟨p.toArray⟩,.string ⟨f.toArray⟩,.iface 248 (.pointer (some a))]) (.pointer (some a)) Tryz.underlying127 (by decide) W
 have hbn:Below w.heap.size w (w.alloc (.cells #[.string ⟨p.toArray⟩,.string ⟨f.toArray⟩,.iface 248 (.pointer (some a))] 131)):=(Below.refl _ _).alloc (Nat.le_refl _) _
 go_enter Tryz.func128,Tryz.ntmps128
 go_wp2
 refine wp_loop_rounds 2 ?_
 rw [rounds_succ]
 go_wp2
 rw [rounds_succ]
 go_wp2
 go_ret
 exact ⟨rfl,hbn⟩
set_option maxHeartbeats 4000000 in
set_option maxRecDepth 100000 in
theorem zaf (p f:List UInt8) (a b:Addr) (w:World) (hne:a≠b) (hsa:zd0 w a) (hsb:zd0 w b) :
 Calls Tryz.prog 128 #[.iface 131 (.agg #[.string ⟨p.toArray⟩,.string ⟨f.toArray⟩,.iface 248 (.pointer (some a))]),.iface 248 (.pointer (some b))] w fun e w'=>e=.returned (.bool false)∧Below w.heap.size w w':=by
 have hbn:Below w.heap.size w (w.alloc (.cells #[.string ⟨p.toArray⟩,.string ⟨f.toArray⟩,.iface 248 (.pointer (some a))] 131)):=(Below.refl _ _).alloc (Nat.le_refl _) _
 obtain ⟨ca,ta,ha⟩:=hsa.below hbn
 obtain ⟨cb,tb,hb⟩:=hsb.below hbn
 obtain ⟨i,hi,hcmp⟩:=Option.map_eq_some_iff.1 zmy
 obtain ⟨j,hj,hjs⟩:=Option.map_eq_some_iff.1 zmx
 have h8:=@run_callFunc_extern Tryz.prog 155 _ Extern.ReflectliteType.typeOf Tryz.func155 (by kernel_rfl) (by kernel_rfl) (by kernel_rfl) (by kernel_rfl)
 have h32:=@run_callFunc_extern Tryz.prog 222 _ cmpE Tryz.func222 (by kernel_rfl) (by kernel_rfl) (by kernel_rfl) (by kernel_rfl)
 have tT:=zfa
 have cT:=zd8
 have mR:=zbv
 have nE:=noIsE
 have uE:=zgM
 have vE:=zfv
 have nW:=noIsW
 have uW:=zid
 have mU:=zf8
 have heq:=run_eql_iface_ptr_other (P:=Tryz.prog) (w.alloc (.cells #[.string ⟨p.toArray⟩,.string ⟨f.toArray⟩,.iface 248 (.pointer (some a))] 131)) Tryz.underlying127 Tryz.underlying248 hi hcmp hj (by rw [hjs];decide) hne ha hb
 have hty:∀ W:World,_:=fun W=>run_eql_iface_types (P:=Tryz.prog) 131 248 (.agg #[.string ⟨p.toArray⟩,.string ⟨f.toArray⟩,.iface 248 (.pointer (some a))]) (.pointer (some b)) Tryz.underlying127 (by decide) W
 clear ha hb
 go_enter Tryz.func128,Tryz.ntmps128
 go_wp2
 refine wp_loop_rounds 2 ?_
 rw [rounds_succ]
 go_wp2
 rw [rounds_succ]
 go_wp2
 go_ret
 exact ⟨rfl,hbn⟩
end
section
open Go.RowKit Go.Extern.Stop Go.Stop Go.Extern
noncomputable def valE:Array Value→Sem Value:=(Go.Extern.find Tryz.f130).getD (fun _=>pure (.bool false))
noncomputable def typE:Array Value→Sem Value:=(Go.Extern.find Tryz.f131).getD (fun _=>pure (.bool false))
noncomputable def nilE:Array Value→Sem Value:=(Go.Extern.find Tryz.f132).getD (fun _=>pure (.bool false))
noncomputable def kinE:Array Value→Sem Value:=(Go.Extern.find Tryz.f206).getD (fun _=>pure (.bool false))
noncomputable def eltE:Array Value→Sem Value:=(Go.Extern.find Tryz.f223).getD (fun _=>pure (.bool false))
noncomputable def impE:Array Value→Sem Value:=(Go.Extern.find Tryz.f224).getD (fun _=>pure (.bool false))
noncomputable def asgE:Array Value→Sem Value:=(Go.Extern.find Tryz.f221).getD (fun _=>pure (.bool false))
noncomputable def elvE:Array Value→Sem Value:=(Go.Extern.find Tryz.f157).getD (fun _=>pure (.bool false))
noncomputable def setE:Array Value→Sem Value:=(Go.Extern.find Tryz.f158).getD (fun _=>pure (.bool false))
abbrev rtV (t:TypeId):Value:=.iface 190 (.agg #[.pointer (some ⟨13,t,none⟩)])
abbrev vlV (t:TypeId) (a:Addr) (f:Int):Value:=.agg #[.pointer (some ⟨13,t,none⟩),.pointer (some a),.int .u64 f]
theorem asVal (t:Addr) (w:World):(valE #[.iface 133 (.pointer (some t))]).run Tryz.prog w=.ok (vlV 133 ⟨w.heap.size,0,none⟩ 150) (w.alloc (.cells #[.pointer (some t)] 133)):=by kernel_rfl
theorem asTyp (a:Addr) (w:World):(typE #[vlV 133 a 150]).run Tryz.prog w=.ok (rtV 133) w:=by kernel_rfl
theorem zpS (h : Value) (w : World) : (Go.method 379 190 (.agg #[h]) "Kind").run Tryz.prog w = .ok (206, h) w := by kernel_rfl
theorem zpW (w:World):(kinE #[.pointer (some ⟨13,133,none⟩)]).run Tryz.prog w=.ok (.int .u8 22) w:=by kernel_rfl
theorem zpV (w:World):(kinE #[.pointer (some ⟨13,131,none⟩)]).run Tryz.prog w=.ok (.int .u8 25) w:=by kernel_rfl
theorem zpU (h : Value) (w : World) : (Go.method 379 190 (.agg #[h]) "Elem").run Tryz.prog w = .ok (223, .agg #[h]) w := by kernel_rfl
theorem asElem (w:World):(eltE #[.agg #[.pointer (some ⟨13,133,none⟩)]]).run Tryz.prog w=.ok (rtV 131) w:=by kernel_rfl
theorem zpT (h : Value) (w : World) : (Go.method 379 190 (.agg #[h]) "Implements").run Tryz.prog w = .ok (224, .agg #[h]) w := by kernel_rfl
theorem asImpl (w:World):(impE #[.agg #[.pointer (some ⟨13,131,none⟩)],rtV 127]).run Tryz.prog w=.ok (.bool true) w:=by kernel_rfl
theorem asMAsg (h : Value) (w : World) : (Go.method 379 190 (.agg #[h]) "AssignableTo").run Tryz.prog w = .ok (221, .agg #[h]) w := by kernel_rfl
theorem asAsgW (w:World):(asgE #[.agg #[.pointer (some ⟨13,131,none⟩)],rtV 131]).run Tryz.prog w=.ok (.bool true) w:=by kernel_rfl
theorem asAsgE (w:World):(asgE #[.agg #[.pointer (some ⟨13,248,none⟩)],rtV 131]).run Tryz.prog w=.ok (.bool false) w:=by kernel_rfl
theorem zpR (v:Value) (w:World):(Extern.ReflectliteType.typeOf #[.iface 131 v]).run Tryz.prog w=.ok (rtV 131) w:=by kernel_rfl
theorem asValW (a b c:Value) (w:World):(valE #[.iface 131 (.agg #[a,b,c])]).run Tryz.prog w=.ok (vlV 131 ⟨w.heap.size,0,none⟩ 153) (w.alloc (.cells #[a,b,c] 131)):=by kernel_rfl
theorem noAsE (v:Value) (xT:TypeId) (w:World):(Instr.typeAssert (.iface 248 v) xT 194 true).run Tryz.prog w=.ok (.tuple #[.nilIface,.bool false]) w:=run_typeAssert_lacksB Tryz.underlying194 (by kernel_rfl) (by kernel_rfl) v xT w
theorem zmO (a:Addr) (w:World):(ReflectliteValue.parts (vlV 133 a 150)).run Tryz.prog w=.ok (some (133,a,150)) w:=by kernel_rfl
theorem asPartsT (a:Addr) (w:World):(ReflectliteValue.parts (vlV 131 a 409)).run Tryz.prog w=.ok (some (131,a,409)) w:=by kernel_rfl
theorem asPartsS (a:Addr) (w:World):(ReflectliteValue.parts (vlV 131 a 153)).run Tryz.prog w=.ok (some (131,a,153)) w:=by kernel_rfl
theorem asElemOf (w:World):(Rtype.elem? 133).run Tryz.prog w=.ok (some 131) w:=by kernel_rfl
theorem asMk (p:Addr) (w:World):(ReflectliteValue.mk 131 p ReflectliteValue.flagAddr).run Tryz.prog w=.ok (vlV 131 p 409) w:=by kernel_rfl
theorem asDirect (w:World):(Rtype.directlyAssignable 131 131).run Tryz.prog w=.ok true w:=by kernel_rfl
theorem asInfo:(Tryz.prog.info? 131).map (·.size)=some 3:=by kernel_rfl
theorem asNil (a p:Addr) (W:World) (ha:W.cell? a=some (.pointer (some p))):(nilE #[vlV 133 a 150]).run Tryz.prog W=.ok (.bool false) W:=by
 have e : nilE = ReflectliteValue.method (ReflectliteValue.valueError "reflectlite.Value.IsNil" 0) ReflectliteValue.isNil := by kernel_rfl
 rw [e, show ReflectliteValue.method (ReflectliteValue.valueError "reflectlite.Value.IsNil" 0) ReflectliteValue.isNil #[vlV 133 a 150] = (ReflectliteValue.parts (vlV 133 a 150) >>= _) from rfl]
 simp only [Sem.run_bind,zmO,Result.andThen]
 simp [ReflectliteValue.isNil,loadVar,isAgg,underlying,Tryz.underlying133,ha,Result.andThen]
theorem asElv (a p:Addr) (W:World) (ha:W.cell? a=some (.pointer (some p))):(elvE #[vlV 133 a 150]).run Tryz.prog W=.ok (vlV 131 p 409) W:=by
 have e : elvE = ReflectliteValue.method (ReflectliteValue.valueError "reflectlite.Value.Elem" 0) ReflectliteValue.elem := by kernel_rfl
 rw [e, show ReflectliteValue.method (ReflectliteValue.valueError "reflectlite.Value.Elem" 0) ReflectliteValue.elem #[vlV 133 a 150] = (ReflectliteValue.parts (vlV 133 a 150) >>= _) from rfl]
 simp only [Sem.run_bind,zmO,Result.andThen]
 simp [ReflectliteValue.elem,loadVar,isAgg,underlying,Tryz.underlying133,ha,Result.andThen,asElemOf,asMk]
theorem asSet (T b:Nat) (t0 t1:TypeId) (old:Array Value) (x y z:Value) (W:World) (ho:W.heap[T]?=some (.cells old t0 (0,0))) (hs:old.size=3) (hb:W.heap[b]?=some (.cells #[x,y,z] t1 (0,0))) (h1:(#[x,y,z].all (·.oneCell'))=true) :
 (setE #[vlV 131 ⟨T,0,none⟩ 409,vlV 131 ⟨b,0,none⟩ 153]).run Tryz.prog W=.ok (.tuple #[]) (W.setRow T #[x,y,z]):=by
 have e:setE=ReflectliteValue.set:=by kernel_rfl
 have hl:(loadVar 131 ⟨b,0,none⟩).run Tryz.prog W=.ok (.agg #[x,y,z]) W:=run_loadVar_row W b t1 131 #[x,y,z] (0,0) _ hb Tryz.underlying131 rfl (by rw [asInfo];rfl)
 have hst:(storeVar 131 ⟨T,0,none⟩ (.agg #[x,y,z])).run Tryz.prog W=.ok () (W.setRow T #[x,y,z]):=run_storeVar_row W T t0 131 old #[x,y,z] ho (by rw [asInfo];rfl) (by rw [hs];rfl) h1
 rw [e,show ReflectliteValue.set #[vlV 131 ⟨T,0,none⟩ 409,vlV 131 ⟨b,0,none⟩ 153]=(ReflectliteValue.parts (vlV 131 ⟨T,0,none⟩ 409) >>= fun p=>ReflectliteValue.parts (vlV 131 ⟨b,0,none⟩ 153) >>= _) from rfl]
 simp only [Sem.run_bind,asPartsT,asPartsS,Result.andThen]
 simp [ReflectliteValue.flagAddr,hl,hst,asDirect,Result.andThen]
end
section
open Go.RowKit Go.Extern.Stop Go.Stop Go.Extern
abbrev tgO (w:World):Obj:=.cells #[.pointer (some ⟨13,133,none⟩),.pointer (some ⟨w.heap.size,0,none⟩),.int .u64 150] 158
abbrev tg1 (w:World) (t:Addr):World:=w.alloc (.cells #[.pointer (some t)] 133)
abbrev tg2 (w:World) (t:Addr):World:=(tg1 w t).alloc (tgO w)
abbrev tg3 (w:World) (t:Addr):World:=(tg2 w t).alloc (tgO w)
theorem zl0 (w:World) (t:Addr):(tg2 w t).cell? ⟨w.heap.size,0,none⟩=some (.pointer (some t))∧(tg3 w t).cell? ⟨w.heap.size,0,none⟩=some (.pointer (some t)):=by
 have h1:(tg1 w t).cell? ⟨w.heap.size,0,none⟩=some (.pointer (some t)):=by rw [World.cell?_alloc_at _ _ _ _ (by simp)];rfl
 have h2:(tg2 w t).cell? ⟨w.heap.size,0,none⟩=some (.pointer (some t)):=by rw [World.cell?_alloc_lt _ _ ⟨w.heap.size,0,none⟩ (by simp)];exact h1
 exact ⟨h2,by rw [World.cell?_alloc_lt _ _ ⟨w.heap.size,0,none⟩ (by simp;omega)];exact h2⟩
theorem zeT (w:World) (t:Addr):Below w.heap.size w (tg2 w t)∧Below w.heap.size w (tg3 w t):=by
 have h1:Below w.heap.size w (tg1 w t):=(Below.refl _ _).alloc (Nat.le_refl _) _
 have h2:Below w.heap.size w (tg2 w t):=h1.alloc (by simp) _
 exact ⟨h2,h2.alloc (by simp;omega) _⟩
set_option maxHeartbeats 8000000 in
set_option maxRecDepth 100000 in
theorem as_miss (a t:Addr) (w:World) (hg:w.cell? ⟨5,0,none⟩=some (.iface 190 (.agg #[.pointer (some ⟨13,127,none⟩)]))) :
 Calls Tryz.prog 102 #[.iface 248 (.pointer (some a)),.iface 133 (.pointer (some t))] w fun e w'=>e=.returned (.bool false)∧Below w.heap.size w w':=by
 have h6:=@run_callFunc_extern Tryz.prog 130 _ valE Tryz.func130 (by kernel_rfl) (by kernel_rfl) (by kernel_rfl) (by kernel_rfl)
 have h7:=@run_callFunc_extern Tryz.prog 131 _ typE Tryz.func131 (by kernel_rfl) (by kernel_rfl) (by kernel_rfl) (by kernel_rfl)
 have h8:=@run_callFunc_extern Tryz.prog 132 _ nilE Tryz.func132 (by kernel_rfl) (by kernel_rfl) (by kernel_rfl) (by kernel_rfl)
 have h27:=@run_callFunc_extern Tryz.prog 206 _ kinE Tryz.func206 (by kernel_rfl) (by kernel_rfl) (by kernel_rfl) (by kernel_rfl)
 have h37:=@run_callFunc_extern Tryz.prog 223 _ eltE Tryz.func223 (by kernel_rfl) (by kernel_rfl) (by kernel_rfl) (by kernel_rfl)
 have h38:=@run_callFunc_extern Tryz.prog 224 _ impE Tryz.func224 (by kernel_rfl) (by kernel_rfl) (by kernel_rfl) (by kernel_rfl)
 have h10:=@run_callFunc_extern Tryz.prog 155 _ Extern.ReflectliteType.typeOf Tryz.func155 (by kernel_rfl) (by kernel_rfl) (by kernel_rfl) (by kernel_rfl)
 have h35:=@run_callFunc_extern Tryz.prog 221 _ asgE Tryz.func221 (by kernel_rfl) (by kernel_rfl) (by kernel_rfl) (by kernel_rfl)
 have tO:=zfa
 have mA:=asMAsg
 have aE:=asAsgE
 have f6:=asVal
 have f7:=asTyp
 have mK:=zpS
 have mE:=zpU
 have mI:=zpT
 have kP:=zpW
 have kS:=zpV
 have e27:=asElem
 have i25:=asImpl
 have nA:=noAsE
 have uE:=zgM
 have vE:=zfv
 have n8:=asNil ⟨w.heap.size,0,none⟩ t (tg2 w t) (zl0 w t).1
 have hlt:5<w.heap.size:=World.block_lt_of_cell? w ⟨5,0,none⟩ hg
 have hg2:(tg2 w t).cell? ⟨5,0,none⟩=some (.iface 190 (.agg #[.pointer (some ⟨13,127,none⟩)])):=((zeT w t).1.cell (p:=⟨5,0,none⟩) hlt).trans hg
 have hbt:=(zeT w t).2
 go_enter Tryz.func102,Tryz.ntmps102
 go_wp2
 refine wp_loop_rounds 1 ?_
 rw [rounds_succ]
 go_wp2
 go_ret
 exact ⟨rfl,hbt⟩
set_option maxHeartbeats 8000000 in
set_option maxRecDepth 100000 in
theorem as_hit (p f:List UInt8) (a:Addr) (T:Nat) (t0:TypeId) (old:Array Value) (w:World) (ho:w.heap[T]?=some (.cells old t0 (0,0))) (hs:old.size=3) (hg:w.cell? ⟨5,0,none⟩=some (.iface 190 (.agg #[.pointer (some ⟨13,127,none⟩)]))) :
 Calls Tryz.prog 102 #[.iface 131 (.agg #[.string ⟨p.toArray⟩,.string ⟨f.toArray⟩,.iface 248 (.pointer (some a))]),.iface 133 (.pointer (some ⟨T,0,none⟩))] w fun e w'=>e=.returned (.bool true)∧∃ w0,Below w.heap.size w w0∧w0.heap[T]?=some (.cells old t0 (0,0))∧w'=w0.setRow T #[.string ⟨p.toArray⟩,.string ⟨f.toArray⟩,.iface 248 (.pointer (some a))]:=by
 have hTl:T<w.heap.size:=by
  rcases Nat.lt_or_ge T w.heap.size with h | h
  ·
   exact h
  ·
   rw [Array.getElem?_eq_none h] at ho;cases ho
 have hb4:Below w.heap.size w ((tg3 w ⟨T,0,none⟩).alloc (.cells #[.string ⟨p.toArray⟩,.string ⟨f.toArray⟩,.iface 248 (.pointer (some a))] 131)):=(zeT w _).2.alloc (zeT w ⟨T,0,none⟩).2.size _
 have ho4:=(hb4.block T hTl).trans ho
 have h6:=@run_callFunc_extern Tryz.prog 130 _ valE Tryz.func130 (by kernel_rfl) (by kernel_rfl) (by kernel_rfl) (by kernel_rfl)
 have h7:=@run_callFunc_extern Tryz.prog 131 _ typE Tryz.func131 (by kernel_rfl) (by kernel_rfl) (by kernel_rfl) (by kernel_rfl)
 have h8:=@run_callFunc_extern Tryz.prog 132 _ nilE Tryz.func132 (by kernel_rfl) (by kernel_rfl) (by kernel_rfl) (by kernel_rfl)
 have h27:=@run_callFunc_extern Tryz.prog 206 _ kinE Tryz.func206 (by kernel_rfl) (by kernel_rfl) (by kernel_rfl) (by kernel_rfl)
 have h37:=@run_callFunc_extern Tryz.prog 223 _ eltE Tryz.func223 (by kernel_rfl) (by kernel_rfl) (by kernel_rfl) (by kernel_rfl)
 have h38:=@run_callFunc_extern Tryz.prog 224 _ impE Tryz.func224 (by kernel_rfl) (by kernel_rfl) (by kernel_rfl) (by kernel_rfl)
 have h10:=@run_callFunc_extern Tryz.prog 155 _ Extern.ReflectliteType.typeOf Tryz.func155 (by kernel_rfl) (by kernel_rfl) (by kernel_rfl) (by kernel_rfl)
 have h35:=@run_callFunc_extern Tryz.prog 221 _ asgE Tryz.func221 (by kernel_rfl) (by kernel_rfl) (by kernel_rfl) (by kernel_rfl)
 have h11:=@run_callFunc_extern Tryz.prog 157 _ elvE Tryz.func157 (by kernel_rfl) (by kernel_rfl) (by kernel_rfl) (by kernel_rfl)
 have h12:=@run_callFunc_extern Tryz.prog 158 _ setE Tryz.func158 (by kernel_rfl) (by kernel_rfl) (by kernel_rfl) (by kernel_rfl)
 have tO:=zpR
 have mA:=asMAsg
 have aW:=asAsgW
 have vW:=asValW
 have f6:=asVal
 have f7:=asTyp
 have mK:=zpS
 have mE:=zpU
 have mI:=zpT
 have kP:=zpW
 have kS:=zpV
 have e27:=asElem
 have i25:=asImpl
 have n8:=asNil ⟨w.heap.size,0,none⟩ ⟨T,0,none⟩ (tg2 w ⟨T,0,none⟩) (zl0 w _).1
 have el:=asElv ⟨w.heap.size,0,none⟩ ⟨T,0,none⟩ (tg3 w ⟨T,0,none⟩) (zl0 w _).2
 have st:=asSet T (w.heap.size+1+1+1) t0 131 old (.string ⟨p.toArray⟩) (.string ⟨f.toArray⟩) (.iface 248 (.pointer (some a))) _ ho4 hs (by rw [show w.heap.size+1+1+1=(tg3 w ⟨T,0,none⟩).heap.size by simp];exact heap_alloc_new _ _) (by simp [Value.oneCell'])
 have hlt:5<w.heap.size:=World.block_lt_of_cell? w ⟨5,0,none⟩ hg
 have hg2:(tg2 w ⟨T,0,none⟩).cell? ⟨5,0,none⟩=some (.iface 190 (.agg #[.pointer (some ⟨13,127,none⟩)])):=((zeT w _).1.cell (p:=⟨5,0,none⟩) hlt).trans hg
 clear ho
 go_enter Tryz.func102,Tryz.ntmps102
 go_wp2
 refine wp_loop_rounds 1 ?_
 rw [rounds_succ]
 go_wp2
 go_ret
 exact ⟨rfl,_,hb4,ho4,rfl⟩
end
end Go.Proofs.YtdbljnddkbpanaaGreatDoor
