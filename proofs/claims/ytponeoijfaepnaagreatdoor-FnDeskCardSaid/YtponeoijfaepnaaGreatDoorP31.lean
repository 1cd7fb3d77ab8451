/-
  Parts of one proof, one behind the other: RetK, ErrI, TreeI.
-/
import Derived.Test.YtponeoijfaepnaaGreatDoorP30
namespace Go.Proofs.YtponeoijfaepnaaGreatDoor
open Go.RowKit
set_option maxHeartbeats 4000000
set_option maxRecDepth 100000
structure Aft18 (base:Nat) (W2 wx:World) (Q:Nat) (va:Option Addr) (vc:Nat) (xs:List TV) (ts:List Ta) (ep nw:Int) (jr:List UInt8):Prop where
 b:B4 wx Q (.slice va ts.length vc) (.int .i64 ep) (.int .i64 nw) (.string ⟨jr.toArray⟩)
 o:za2 wx base (.slice va ts.length vc) xs
 x:xs.map (·.1)=ts
 a:zai (xs.map tvT)
 n:∀ k,zan (.slice va ts.length vc) xs k→k≠Q
 q:base≤Q
 h:Below W2.heap.size W2 wx
theorem zoc {w:World} {base k:Nat} {v:Value} {xs:List TV} (h:za2 w base v xs) (hk:zan v xs k):base≤k∧k<w.heap.size:=by
 rcases hk with e1 | ⟨x,hx1,e1⟩
 ·exact h.row.lt k e1
 ·exact (h.trees x hx1).lt k e1
theorem aft_new {base:Nat} {W2 w3:World} {va:Option Addr} {vc:Nat} {xs:List TV} {ts:List Ta} {ep nw:Int} {jr:List UInt8} (ho:za2 w3 base (.slice va ts.length vc) xs) (hx:xs.map (·.1)=ts) (ha:zai (xs.map tvT)) (hb:base≤w3.heap.size) (h:Below W2.heap.size W2 w3) :
 Aft18 base W2 (w3.alloc (.cells #[.slice va ts.length vc,.int .i64 ep,.int .i64 nw,.string ⟨jr.toArray⟩] 26)) w3.heap.size va vc xs ts ep nw jr:=by
 have hb4:Below w3.heap.size w3 (w3.alloc (.cells #[.slice va ts.length vc,.int .i64 ep,.int .i64 nw,.string ⟨jr.toArray⟩] 26)):=(Below.refl _ _).alloc (Nat.le_refl _) _;refine ⟨B4.new _ _ _ _ _ _,ho.below hb4,hx,ha,fun k hk e=>?_,hb,h.trans (hb4.mono h.size)⟩;rcases hk with e1 | ⟨x,hx1,e1⟩
 ·have:=(ho.row.lt k e1).2;omega
 ·have:=((ho.trees x hx1).lt k e1).2;omega
theorem zpo {base:Nat} {W2 w3:World} {Q:Nat} {z0 z1 z2 z3:Value} {va:Option Addr} {vc:Nat} {xs:List TV} {ts:List Ta} {ep nw:Int} {jr:List UInt8} (hz:B4 w3 Q z0 z1 z2 z3) (ho:za2 w3 base (.slice va ts.length vc) xs) (hx:xs.map (·.1)=ts) (ha:zai (xs.map tvT)) (hn:∀ k,zan (.slice va ts.length vc) xs k→k≠Q) (hb:base≤Q) (hq:W2.heap.size≤Q) (h:Below W2.heap.size W2 w3) :
 Aft18 base W2 ((((w3.setCell ⟨Q,0,none⟩ (.slice va ts.length vc)).setCell ⟨Q,1,none⟩ (.int .i64 ep)).setCell ⟨Q,2,none⟩ (.int .i64 nw)).setCell ⟨Q,3,none⟩ (.string ⟨jr.toArray⟩)) Q va vc xs ts ep nw jr:=by
 have hg:=(((zae w3 Q 0 (.slice va ts.length vc)).trans (zae _ Q 1 (.int .i64 ep))).trans (zae _ Q 2 (.int .i64 nw))).trans (zae _ Q 3 (.string ⟨jr.toArray⟩));refine ⟨(((hz.s0 _).s1 _).s2 _).s3 _,ho.kept hg ?_ (fun x hx1=>?_),hx,ha,hn,hb,h.grown hg h.size (fun k e=>by injection e with e;omega)⟩
 ·
  rcases h1:(Value.slice va ts.length vc).ownBlock with _ | k
  ·exact Or.inl rfl
  ·exact Or.inr (fun e=>by injection e with e;exact hn k (Or.inl h1) e)
 ·
  rcases h1:(tvT x).ownBlock with _ | k
  ·exact Or.inl rfl
  ·exact Or.inr (fun e=>by injection e with e;exact hn k (Or.inr ⟨x,hx1,h1⟩) e)
theorem zfP (a:Option Addr) (len cap:Nat) (ts:List Ta) (ep nw:Int) (jr:List UInt8) (kk ee key:Int) (w:World) (hin:zaF w a len cap ts) (hsh:za1 ts) (hlen:len≤1048576) (hj:jr.length≤1048576) (hc:len≤cap) (ht:zb0 w) (hk0:-9223372036854775808≤kk) (hk1:kk≤9223372036854775807) (hy0:-9223372036854775808≤key) (hy1:key≤9223372036854775807) :
 Calls Tryz.prog 8 #[.agg #[.slice a len cap,.int .i64 ep,.int .i64 nw,.string ⟨jr.toArray⟩],.int .i64 kk,.int .i64 ee,.int .i64 key] w
  fun e w'=>∃ v,e=.returned (.tuple #[v,.int .i64 (zag (ts,ep,nw,jr) kk ee key).2])∧zbQ w w' v (zag (ts,ep,nw,jr) kk ee key).1:=by
 obtain rfl:ts.length=len:=hin.1;obtain ⟨D,hD⟩:∃ D,w.heap.size=D:=⟨_,rfl⟩
 obtain ⟨W1,hW1⟩:∃ W,w.alloc (.cells #[.slice a ts.length cap,.int .i64 ep,.int .i64 nw,.string ⟨jr.toArray⟩] 26)=W:=⟨_,rfl⟩
 obtain ⟨W2,hW2⟩:∃ W,W1.alloc (.cells #[.slice none 0 0,.int .i64 0,.int .i64 0,.string ⟨#[]⟩] 26)=W:=⟨_,rfl⟩
 have hs1:W1.heap.size=D+1:=by rw [←hW1,←hD];simp
 have hs2:W2.heap.size=D+2:=by rw [←hW2];simp [hs1]
 have hb1:Below D w W1:=by rw [←hW1,←hD];exact (Below.refl _ _).alloc (Nat.le_refl _) _
 have hb12:Below W1.heap.size W1 W2:=by rw [←hW2];exact (Below.refl _ _).alloc (Nat.le_refl _) _
 have hb2:Below D w W2:=hb1.trans (hb12.mono (by omega));have bD:=B4.new w (.slice a ts.length cap) (.int .i64 ep) (.int .i64 nw) (.string ⟨jr.toArray⟩) 26;rw [hW1,hD] at bD;have bR:=B4.new W1 (.slice none 0 0) (.int .i64 0) (.int .i64 0) (.string ⟨#[]⟩) 26;rw [hW2,hs1] at bR
 have HD:Hid (∀ Z,Below W2.heap.size W2 Z→B4 Z D (.slice a ts.length cap) (.int .i64 ep) (.int .i64 nw) (.string ⟨jr.toArray⟩)∧B4 Z (D+1) (.slice none 0 0) (.int .i64 0) (.int .i64 0) (.string ⟨#[]⟩)∧zaF Z a ts.length cap ts∧Below D w Z):=fun Z hz =>
  ⟨(bD.below hb12).below hz,bR.below hz,(hin.below (by rw [hD];exact hb2)).below hz,hb2.trans (hz.mono (by omega))⟩
 have HK:Hid (_):=zbw a ts.length cap ts ep nw jr W2 (hin.in.below (by rw [hD];exact hb2)) hc hsh hlen;have HCp:Hid (∀ Z,zaF Z a ts.length cap ts→_):=fun Z hz=>zgL a ts.length cap ts ep nw jr Z hz hsh hlen hj
 have HV0:Hid (zac (ts,ep,nw,jr)=false→zag (ts,ep,nw,jr) kk ee key=(dk0,3)):=fun h=>by unfold zag;rw [h];rfl
 have HV1:Hid (zac (ts,ep,nw,jr)=true→zag (ts,ep,nw,jr) kk ee key=zbx (ts,ep,nw,jr) kk ee key):=fun h=>by unfold zag;rw [if_pos h]
 have HVn:Hid (zaA (ts,ep,nw,jr) kk ee key≠0→zbx (ts,ep,nw,jr) kk ee key=((ts,ep,nw,jr),zaA (ts,ep,nw,jr) kk ee key)):=fun h=>zc2 rfl h
 have HVo:Hid (zaA (ts,ep,nw,jr) kk ee key=0→(0≤kk∧kk<(ts.length:Int))∧zbx (ts,ep,nw,jr) kk ee key=((ts.set kk.toNat (zbo (ts.getD kk.toNat ta0) key),ep,nw,jr++zbk kk key),0)):=fun h=>by
  refine ⟨?_,zdZ h⟩
  have hk:¬((kk<0∨(ts.length:Int)≤kk)∨zbi key=false):=fun hb=>by
   rw [zgs (d:=(ts,ep,nw,jr)) hb] at h;cases h
  omega
 have HP:Hid (zac (ts,ep,nw,jr)=true→jr.length≤60000):=fun h=>(zao.1 h).j
 have HRc:Hid (zac (ts,ep,nw,jr)=true→∀ (Z:World),zat Z a ts.length ts→zb0 Z→Calls Tryz.prog 31 #[.agg #[.slice a ts.length cap,.int .i64 ep,.int .i64 nw,.string ⟨jr.toArray⟩],.int .i64 kk,.int .i64 ee,.int .i64 key] Z fun e w'=>e=.returned (.int .i64 (zaA (ts,ep,nw,jr) kk ee key))∧Below Z.heap.size Z w'):=fun h Z h1 h2=>zkV a ts.length cap ts ep nw jr kk ee key Z h1 hsh h h2 hk0 hk1 hy0 hy1
 have HPw:Hid (∀ Z,Below W2.heap.size W2 Z→zb0 Z):=fun Z hz=>ht.below (by rw [hD];exact hb2.trans (hz.mono (by omega)))
 obtain ⟨d0,d1,d2,d3⟩:W2.cell? ⟨D,0,none⟩=some (.slice a ts.length cap)∧W2.cell? ⟨D,1,none⟩=some (.int .i64 ep)∧W2.cell? ⟨D,2,none⟩=some (.int .i64 nw)∧W2.cell? ⟨D,3,none⟩=some (.string ⟨jr.toArray⟩):=by have h:=(HD.out W2 (Below.refl _ _)).1;exact ⟨h.c0,h.c1,h.c2,h.c3⟩
 generalize zag (ts,ep,nw,jr) kk ee key=res at HV0 HV1 ⊢;generalize zbx (ts,ep,nw,jr) kk ee key=res2 at HV1 HVn HVo;generalize zaA (ts,ep,nw,jr) kk ee key=cd at HVn HVo HRc;generalize zac (ts,ep,nw,jr)=b1 at HK HV0 HV1 HP HRc;clear ht hin hsh bD bR hb1 hb12 hb2;rcases b1 with _ | _
 ·
  have HR:Hid (res=(dk0,3)):=HV0.out rfl;clear HV0 HV1 HVn HVo HP HRc HCp HPw
  go_enter Tryz.func8,Tryz.ntmps8
  go_wp2_with fail
  refine Calls.mono HK.out ?_;rintro e w1 ⟨rfl,hb1⟩;obtain ⟨_,br,_,hbD⟩:=HD.out w1 hb1;have r0:=br.c0;have r1:=br.c1;have r2:=br.c2;have r3:=br.c3;have f0:=br.fr 0;have f1:=br.fr 1;have f2:=br.fr 2;have f3:=br.fr 3;have HBD:Hid (Below D w w1):=hbD;clear hbD br hb1 d0 d1 d2 d3;go_wp2;obtain ⟨X,hX,y0,y1,y2,y3,hg⟩:=set4 (.slice none 0 0) (.int .i64 0) (.int .i64 0) (.string ⟨#[]⟩) r0 r1 r2 r3;rw [hX];refine bodyPost_ret (v:=.tuple #[.agg #[.slice none 0 0,.int .i64 0,.int .i64 0,.string ⟨#[]⟩],.int .i64 3]) (by simp [results,Tryz.results8,go_sem,y0,y1,y2,y3]) rfl ?_;rw [HR.out];exact ⟨_,rfl,zbQ.zero (by rw [hD];exact HBD.out.grown hg (by have:=HBD.out.size;omega) (fun k e=>by injection e with e;omega))⟩
 ·
  have HR1:Hid (res=res2):=HV1.out rfl;have hj6:=HP.out rfl;have HRc1:Hid (_):=HRc.out rfl;clear HV0 HV1 HP HRc
  go_enter Tryz.func8,Tryz.ntmps8
  go_wp2_with fail
  refine Calls.mono HK.out ?_;rintro e w1 ⟨rfl,hb1⟩;have HB1:Hid (Below W2.heap.size W2 w1):=hb1;clear d0 d1 d2 d3 hb1 HK;obtain ⟨bd,_,hok1,_⟩:=HD.out w1 HB1.out;have d0:=bd.c0;have d1:=bd.c1;have d2:=bd.c2;have d3:=bd.c3;have HOk:Hid (∀ Z,Below W2.heap.size W2 Z→zaF Z a ts.length cap ts):=fun Z hz=>(HD.out Z hz).2.2.1
  have HB1d:Hid (Below W2.heap.size W2 w1.drew):=HB1.out.trans (by exact ⟨rfl,rfl,rfl,Nat.le_refl _,fun _ _=>rfl⟩);obtain ⟨base,hba⟩:∃ b,w1.heap.size=b:=⟨_,rfl⟩
  have hbW2:W2.heap.size≤base:=by rw [←hba];exact HB1.out.size
  have HCpG:Hid (∀ Z,Below W2.heap.size W2 Z→_):=fun Z hz=>HCp.out Z (HOk.out Z hz)
  have HRcG:Hid (∀ Z,Below W2.heap.size W2 Z→_):=fun Z hz=>HRc1.out Z (HOk.out Z hz).in (HPw.out Z hz)
  have HDD:Hid (∀ Z,Below W2.heap.size W2 Z→B4 Z D (.slice a ts.length cap) (.int .i64 ep) (.int .i64 nw) (.string ⟨jr.toArray⟩)):=fun Z hz=>(HD.out Z hz).1
  have bz0:=B4.new w1 (.slice none 0 0) (.int .i64 0) (.int .i64 0) (.string ⟨#[]⟩) 26;obtain ⟨X8,hX8⟩:∃ X,w1.alloc (.cells #[.slice none 0 0,.int .i64 0,.int .i64 0,.string ⟨#[]⟩] 26)=X:=⟨_,rfl⟩
  have hb8:Below w1.heap.size w1 X8:=by rw [←hX8];exact (Below.refl _ _).alloc (Nat.le_refl _) _
  have hs8:X8.heap.size=base+1:=by rw [←hX8,←hba];simp
  rw [hX8,hba] at bz0;have HZ8:Hid (∀ Y,Below X8.heap.size X8 Y→B4 Y base (.slice none 0 0) (.int .i64 0) (.int .i64 0) (.string ⟨#[]⟩)):=fun Y hy=>bz0.below hy
  have HB8:Hid (Below W2.heap.size W2 X8):=HB1.out.trans (hb8.mono HB1.out.size);have HB8d:Hid (Below W2.heap.size W2 X8.drew):=HB8.out.trans (by exact ⟨rfl,rfl,rfl,Nat.le_refl _,fun _ _=>rfl⟩);have x80:=(HDD.out X8 HB8.out).c0;have x81:=(HDD.out X8 HB8.out).c1;have x82:=(HDD.out X8 HB8.out).c2;have x83:=(HDD.out X8 HB8.out).c3;clear bd hok1 HCp bz0 hb8 HRc1;go_wp2_with fail
  go_cut [10,11] from 16 to 22 (fun ov cv wx=>∃ (Q:Nat) (va:Option Addr) (vc:Nat) (xs:List TV),ov=.pointer (some ⟨Q,0,none⟩)∧cv=.int .i64 cd∧Hid (Aft18 base W2 wx Q va vc xs ts ep nw jr))
  case first =>
   go_region_with (first
    | (go_at_call 25;refine Calls.mono (HCpG.out _ (by first | exact HB1d.out | exact HB8d.out)) ?_;rintro e w2 ⟨va,vc,xs,rfl,hx,ho,hap,hb2⟩;have HB2:Hid (Below W2.heap.size W2 w2):=(by first | exact HB1d.out.trans (hb2.mono HB1d.out.size) | exact HB8d.out.trans (hb2.mono HB8d.out.size));have HO2:Hid (za2 w2 base (.slice va ts.length vc) xs∧xs.map (·.1)=ts∧zai (xs.map tvT)∧base≤w2.heap.size):=(by first | exact ⟨ho.base (Nat.le_of_eq hba.symm),hx,hap,Nat.le_trans (Nat.le_of_eq hba.symm) hb2.size⟩ | exact ⟨ho.base (by show base≤X8.heap.size;omega),hx,hap,Nat.le_trans (by show base≤X8.heap.size;omega) hb2.size⟩);(try (have bz:=HZ8.out w2 (by exact ⟨hb2.os,hb2.tape,hb2.output,hb2.size,hb2.block⟩);have HNq:Hid (∀ k,zan (.slice va ts.length vc) xs k→k≠base):=(fun k hk e=>(by have hlt:X8.heap.size≤k:=(zoc ho hk).1;omega))));have bn:=B4.new w2 (.slice none 0 0) (.int .i64 0) (.int .i64 0) (.string ⟨#[]⟩) 26;obtain ⟨X2,hX2⟩:∃ X,w2.alloc (.cells #[.slice none 0 0,.int .i64 0,.int .i64 0,.string ⟨#[]⟩] 26)=X:=⟨_,rfl⟩;rw [hX2] at bn;obtain ⟨Q2,hQ2⟩:∃ q,w2.heap.size=q:=⟨_,rfl⟩;rw [hQ2] at bn;have hbX2:Below w2.heap.size w2 X2:=(by rw [←hX2];exact (Below.refl _ _).alloc (Nat.le_refl _) _);have HB2x:Hid (Below W2.heap.size W2 X2):=HB2.out.trans (hbX2.mono HB2.out.size);have HZ2:Hid (∀ Y,Below X2.heap.size X2 Y→B4 Y Q2 (.slice none 0 0) (.int .i64 0) (.int .i64 0) (.string ⟨#[]⟩)):=(fun Y hy=>bn.below hy);have HO2x:Hid (za2 X2 base (.slice va ts.length vc) xs∧(∀ k,zan (.slice va ts.length vc) xs k→k≠Q2)):=⟨HO2.out.1.below hbX2,fun k hk e=>(by have hlt:=(zoc HO2.out.1 hk).2;omega)⟩;clear d0 d1 d2 d3 hb2 ho hx hap bn hbX2;have d0:=(HDD.out w2 HB2.out).c0;have d1:=(HDD.out w2 HB2.out).c1;have d2:=(HDD.out w2 HB2.out).c2;have d3:=(HDD.out w2 HB2.out).c3;have x20:=(HDD.out X2 HB2x.out).c0;have x21:=(HDD.out X2 HB2x.out).c1;have x22:=(HDD.out X2 HB2x.out).c2;have x23:=(HDD.out X2 HB2x.out).c3)
    | (go_at_call 31;refine Calls.mono (HRcG.out _ (by first | exact HB2.out | exact HB2x.out)) ?_;rintro e w3 ⟨rfl,hb3⟩;have HB3:Hid (Below W2.heap.size W2 w3):=(by first | exact HB2.out.trans (hb3.mono HB2.out.size) | exact HB2x.out.trans (hb3.mono HB2x.out.size));have HO3:Hid (za2 w3 base (.slice va ts.length vc) xs):=(by first | exact HO2.out.1.below hb3 | exact HO2x.out.1.below hb3);have HS3:Hid (base≤w3.heap.size):=(by first | exact Nat.le_trans HO2.out.2.2.2 hb3.size | exact Nat.le_trans HO2.out.2.2.2 (Nat.le_trans (by rw [←hX2];simp) hb3.size));first | (have bq:=bz.below hb3;have HA:Hid (_):=zpo (ep:=ep) (nw:=nw) (jr:=jr) bq HO3.out HO2.out.2.1 HO2.out.2.2.1 HNq.out (Nat.le_refl _) hbW2 HB3.out;have z0:=bq.c0;have z1:=bq.c1;have z2:=bq.c2;have z3:=bq.c3;have zf0:=bq.fr 0;have zf1:=bq.fr 1;have zf2:=bq.fr 2;have zf3:=bq.fr 3;clear hb3 bz bq) | (have bq:=HZ2.out w3 hb3;have HA:Hid (_):=zpo (ep:=ep) (nw:=nw) (jr:=jr) bq HO3.out HO2.out.2.1 HO2.out.2.2.1 HO2x.out.2 (by rw [←hQ2];exact HO2.out.2.2.2) (by rw [←hQ2];exact HB2.out.size) HB3.out;have z0:=bq.c0;have z1:=bq.c1;have z2:=bq.c2;have z3:=bq.c3;have zf0:=bq.fr 0;have zf1:=bq.fr 1;have zf2:=bq.fr 2;have zf3:=bq.fr 3;clear hb3 bq) | (have HA:Hid (_):=aft_new (ep:=ep) (nw:=nw) (jr:=jr) HO3.out HO2.out.2.1 HO2.out.2.2.1 HS3.out HB3.out;clear hb3)))
   all_goals
    go_wp2_with fail
    go_meet
    case rel=>exact ⟨_,va,vc,xs,rfl,rfl,HA⟩
  case rest =>
   obtain ⟨Q,va,vc,xs,rfl,rfl,HA⟩:=hcut;clear d0 d1 d2 d3 x80 x81 x82 x83 HCpG HRcG HDD HZ8 HB8 HB8d hX8 hs8;obtain ⟨w4,hw4⟩:∃ W,wc=W:=⟨_,rfl⟩
   rw [hw4] at HA ⊢;have HBQ:Hid (B4 w4 Q (.slice va ts.length vc) (.int .i64 ep) (.int .i64 nw) (.string ⟨jr.toArray⟩)):=HA.out.b;have HO3:Hid (za2 w4 base (.slice va ts.length vc) xs∧xs.map (·.1)=ts∧zai (xs.map tvT)):=⟨HA.out.o,HA.out.x,HA.out.a⟩;have HB4:Hid (Below W2.heap.size W2 w4):=HA.out.h;have hQl:base≤Q:=HA.out.q;have hs4:base≤w4.heap.size:=Nat.le_trans hQl (Nat.le_of_lt HA.out.b.lt);rcases Int.decEq cd 0 with hc0 | hc0
   ·have HR:Hid (res2=_):=HVn.out hc0;have hcb:(cd==0)=false:=beq_eq_false_iff_ne.2 hc0;clear HVn HVo;obtain ⟨_,br,_,hbD⟩:=HD.out w4 HB4.out;have q0:=HBQ.out.c0;have q1:=HBQ.out.c1;have q2:=HBQ.out.c2;have q3:=HBQ.out.c3;have r0:=br.c0;have r1:=br.c1;have r2:=br.c2;have r3:=br.c3;have f0:=br.fr 0;have f1:=br.fr 1;have f2:=br.fr 2;have f3:=br.fr 3;have HBD:Hid (Below D w w4):=hbD;clear hbD br;go_wp2;obtain ⟨X,hX,y0,y1,y2,y3,hg⟩:=set4 (.slice va ts.length vc) (.int .i64 ep) (.int .i64 nw) (.string ⟨jr.toArray⟩) r0 r1 r2 r3;rw [hX];refine bodyPost_ret (v:=.tuple #[.agg #[.slice va ts.length vc,.int .i64 ep,.int .i64 nw,.string ⟨jr.toArray⟩],.int .i64 cd]) (by simp [results,Tryz.results8,go_sem,y0,y1,y2,y3]) rfl ?_;rw [HR1.out,HR.out];have hw2:W2.heap.size≤base:=hbW2;have hk:=HO3.out.1.kept hg (za8 HO3.out.1.row (by omega)) (fun y hy=>za8 (HO3.out.1.trees y hy) (by omega));exact ⟨_,rfl,va,vc,xs,rfl,HO3.out.2.1,hk.base (by omega),HO3.out.2.2,by rw [hD];exact HBD.out.grown hg (by have:=HBD.out.size;omega) (fun k e=>by injection e with e;omega)⟩
   ·
    subst hc0;obtain ⟨hkb,hR⟩:=HVo.out rfl;have HR:Hid (res2=_):=hR;obtain ⟨i,rfl⟩:∃ i:Nat,kk=(i:Int):=⟨kk.toNat,by omega⟩
    rw [Int.toNat_natCast] at HR;have hw2:W2.heap.size≤base:=hbW2;have HWd:Hid (_):=zit Q base va vc xs ts ep nw jr i key w4 HBQ.out HO3.out.1 HO3.out.2.1 HO3.out.2.2 HA.out.n hs4 hQl (by omega) hlen hj6 (fun Z hz=>HPw.out Z (HB4.out.trans (hz.mono hw2))) hy0 hy1;clear HVn HVo hR;go_wp2_with fail
    refine Calls.mono HWd.out ?_;rintro e w5 ⟨rfl,xs5,hx5,ho5,hap5,bQ5,hb5⟩;have HB5:Hid (Below W2.heap.size W2 w5):=HB4.out.trans (hb5.mono hw2);have q0:=bQ5.c0;have q1:=bQ5.c1;have q2:=bQ5.c2;have q3:=bQ5.c3;obtain ⟨_,br,_,hbD⟩:=HD.out w5 HB5.out;have r0:=br.c0;have r1:=br.c1;have r2:=br.c2;have r3:=br.c3;have f0:=br.fr 0;have f1:=br.fr 1;have f2:=br.fr 2;have f3:=br.fr 3;have HBD:Hid (Below D w w5):=hbD;have HO5:Hid (za2 w5 base (.slice va ts.length vc) xs5∧xs5.map (·.1)=ts.set i (zbo (ts.getD i ta0) key)∧zai (xs5.map tvT)):=⟨ho5,hx5,hap5⟩;clear hbD br bQ5 ho5 hx5 hap5 hb5 HWd;go_wp2;obtain ⟨X,hX,y0,y1,y2,y3,hg⟩:=set4 (.slice va ts.length vc) (.int .i64 ep) (.int .i64 nw) (.string ⟨(jr++zbk (i:Int) key).toArray⟩) r0 r1 r2 r3;rw [hX];refine bodyPost_ret (v:=.tuple #[.agg #[.slice va ts.length vc,.int .i64 ep,.int .i64 nw,.string ⟨(jr++zbk (i:Int) key).toArray⟩],.int .i64 0]) (by simp [results,Tryz.results8,go_sem,y0,y1,y2,y3]) rfl ?_;rw [HR1.out,HR.out];have hk:=HO5.out.1.kept hg (za8 HO5.out.1.row (by omega)) (fun y hy=>za8 (HO5.out.1.trees y hy) (by omega));exact ⟨_,rfl,va,vc,xs5,by simp only [List.length_set],HO5.out.2.1,by simp only [List.length_set];exact hk.base (by omega),HO5.out.2.2,by rw [hD];exact HBD.out.grown hg (by have:=HBD.out.size;omega) (fun k e=>by injection e with e;omega)⟩
section
open Go.RowKit Go.Extern.Stop Go.Stop Go.Extern
def zb3 (a:Addr):Value:=.iface 258 (.pointer (some a))
def zcT (w:World) (a:Addr):Prop:=∃ c t,w.heap[a.block]?=some (.cells c t (0,0))
theorem zcT.below {w w':World} {a:Addr} (h:zcT w a) (hb:Below w.heap.size w w'):zcT w' a:=by
 obtain ⟨c,t,e⟩:=h
 have hlt:a.block<w.heap.size:=by
  rcases Nat.lt_or_ge a.block w.heap.size with h | h
  ·exact h
  ·rw [Array.getElem?_eq_none h] at e;cases e
 exact ⟨c,t,(hb.block a.block hlt).trans e⟩
structure Err4 (w:World) (e:Nat→Addr):Prop where
 told:w.cell? ⟨1,0,none⟩=some (zb3 (e 0))
 far:w.cell? ⟨7,0,none⟩=some (zb3 (e 1))
 func:w.cell? ⟨8,0,none⟩=some (zb3 (e 2))
 count:w.cell? ⟨9,0,none⟩=some (zb3 (e 3))
 at0:zcT w (e 0)
 at1:zcT w (e 1)
 at2:zcT w (e 2)
 at3:zcT w (e 3)
 ne:e 0≠e 1∧e 0≠e 2∧e 0≠e 3∧e 1≠e 2∧e 1≠e 3∧e 2≠e 3
theorem zbI {w w':World} {g:Nat} {v:Value} (h:w.cell? ⟨g,0,none⟩=some v) (hb:Below w.heap.size w w'):w'.cell? ⟨g,0,none⟩=some v:=(hb.cell (p:=⟨g,0,none⟩) (World.block_lt_of_cell? w ⟨g,0,none⟩ h)).trans h
theorem Err4.below {w w':World} {e:Nat→Addr} (h:Err4 w e) (hb:Below w.heap.size w w'):Err4 w' e :=
 ⟨zbI h.told hb,zbI h.far hb,zbI h.func hb,zbI h.count hb,h.at0.below hb,h.at1.below hb,h.at2.below hb,h.at3.below hb,h.ne⟩
theorem zeY (v:Value) (w:World):(Extern.ReflectliteType.typeOf #[.iface 258 v]).run Tryz.prog w=.ok (.iface 210 (.agg #[.pointer (some ⟨13,258,none⟩)])) w:=by kernel_rfl
noncomputable def cmpE:Array Value→Sem Value:=(Go.Extern.find Tryz.f241).getD (fun _=>pure (.bool false))
theorem zcZ (w:World):(cmpE #[.agg #[.pointer (some ⟨13,258,none⟩)]]).run Tryz.prog w=.ok (.bool true) w:=by kernel_rfl
theorem zbB (v : Value) (w : World) : (Go.method 389 210 v "Comparable").run Tryz.prog w = .ok (241, v) w := by kernel_rfl
theorem zm0:(Tryz.prog.info? 258).map (·.comparable)=some true:=by kernel_rfl
theorem zlZ:(Tryz.prog.info? 277).map (·.size)=some 1:=by kernel_rfl
theorem noIsE (v:Value) (xT:TypeId) (w:World):(Instr.typeAssert (.iface 258 v) xT 233 true).run Tryz.prog w=.ok (.tuple #[.nilIface,.bool false]) w:=run_typeAssert_lacksB Tryz.underlying233 (by kernel_rfl) (by kernel_rfl) v xT w
theorem zgB (v:Value) (xT:TypeId) (w:World):(Instr.typeAssert (.iface 258 v) xT 217 true).run Tryz.prog w=.ok (.tuple #[.nilIface,.bool false]) w:=run_typeAssert_lacksB Tryz.underlying217 (by kernel_rfl) (by kernel_rfl) v xT w
theorem zfq (v:Value) (xT:TypeId) (w:World):(Instr.typeAssert (.iface 258 v) xT 219 true).run Tryz.prog w=.ok (.tuple #[.nilIface,.bool false]) w:=run_typeAssert_lacksB Tryz.underlying219 (by kernel_rfl) (by kernel_rfl) v xT w
theorem zkM (a:Addr) (w:World) :
 Calls Tryz.prog 164 #[.iface 258 (.pointer (some a)),.iface 258 (.pointer (some a))] w fun e w'=>e=.returned (.bool true)∧w'=w:=by
 obtain ⟨i,hi,hcmp⟩:=Option.map_eq_some_iff.1 zm0;obtain ⟨j,hj,hjs⟩:=Option.map_eq_some_iff.1 zlZ;have h8:=@run_callFunc_extern Tryz.prog 185 _ Extern.ReflectliteType.typeOf Tryz.func185 (by kernel_rfl) (by kernel_rfl) (by kernel_rfl) (by kernel_rfl);have h32:=@run_callFunc_extern Tryz.prog 241 _ cmpE Tryz.func241 (by kernel_rfl) (by kernel_rfl) (by kernel_rfl) (by kernel_rfl);have tT:=zeY;have cT:=zcZ;have mR:=zbB;have heq:=run_eql_iface_ptr_same (P:=Tryz.prog) w a Tryz.underlying156 Tryz.underlying258 hi hcmp hj
 go_enter Tryz.func164,Tryz.ntmps164
 go_wp2;refine wp_loop_rounds 1 ?_;rw [rounds_succ];go_wp2;go_ret;exact ⟨rfl,rfl⟩
theorem zcg (a b:Addr) (w:World) (hne:a≠b) (hsa:zcT w a) (hsb:zcT w b) :
 Calls Tryz.prog 164 #[.iface 258 (.pointer (some a)),.iface 258 (.pointer (some b))] w fun e w'=>e=.returned (.bool false)∧w'=w:=by
 obtain ⟨ca,ta,ha⟩:=hsa;obtain ⟨cb,tb,hb⟩:=hsb;obtain ⟨i,hi,hcmp⟩:=Option.map_eq_some_iff.1 zm0;obtain ⟨j,hj,hjs⟩:=Option.map_eq_some_iff.1 zlZ;have h8:=@run_callFunc_extern Tryz.prog 185 _ Extern.ReflectliteType.typeOf Tryz.func185 (by kernel_rfl) (by kernel_rfl) (by kernel_rfl) (by kernel_rfl);have h32:=@run_callFunc_extern Tryz.prog 241 _ cmpE Tryz.func241 (by kernel_rfl) (by kernel_rfl) (by kernel_rfl) (by kernel_rfl);have tT:=zeY;have cT:=zcZ;have mR:=zbB;have nE:=noIsE;have uE:=zgB;have vE:=zfq;have heq:=run_eql_iface_ptr_other (P:=Tryz.prog) w Tryz.underlying156 Tryz.underlying258 hi hcmp hj (by rw [hjs];decide) hne ha hb
 go_enter Tryz.func164,Tryz.ntmps164
 go_wp2;refine wp_loop_rounds 1 ?_;rw [rounds_succ];go_wp2;go_ret;exact ⟨rfl,rfl⟩
end
def zbq:Sh→Value
 | .num a=>.iface 248 (.agg #[.int .i64 a])
 | .arg a=>.iface 250 (.agg #[.int .i64 a])
 | .pair k=>.iface 252 (.agg #[.int .i64 k])
 | .cond=>.iface 254 (.agg #[])
 | .call p f a=>.iface 256 (.agg #[.string ⟨p.toArray⟩,.string ⟨f.toArray⟩,.int .i64 a])
 | .no=>.iface 257 (.agg #[])
theorem zhZ (v:Value) (w:World):(Instr.typeAssert (.iface 248 v) 243 248 true).run Tryz.prog w=.ok (.tuple #[v,.bool true]) w:=by kernel_rfl
theorem zi0 (v:Value) (w:World):(Instr.typeAssert (.iface 248 v) 243 250 true).run Tryz.prog w=.ok (.tuple #[.agg #[.int .i64 0],.bool false]) w:=by kernel_rfl
theorem zh3 (v:Value) (w:World):(Instr.typeAssert (.iface 248 v) 243 252 true).run Tryz.prog w=.ok (.tuple #[.agg #[.int .i64 0],.bool false]) w:=by kernel_rfl
theorem zh4 (v:Value) (w:World):(Instr.typeAssert (.iface 248 v) 243 254 true).run Tryz.prog w=.ok (.tuple #[.agg #[],.bool false]) w:=by kernel_rfl
theorem zh5 (v:Value) (w:World):(Instr.typeAssert (.iface 248 v) 243 256 true).run Tryz.prog w=.ok (.tuple #[.agg #[.string ByteArray.empty,.string ByteArray.empty,.int .i64 0],.bool false]) w:=by kernel_rfl
theorem zi4 (v:Value) (w:World):(Instr.typeAssert (.iface 250 v) 243 248 true).run Tryz.prog w=.ok (.tuple #[.agg #[.int .i64 0],.bool false]) w:=by kernel_rfl
theorem zi5 (v:Value) (w:World):(Instr.typeAssert (.iface 250 v) 243 250 true).run Tryz.prog w=.ok (.tuple #[v,.bool true]) w:=by kernel_rfl
theorem zha (v:Value) (w:World):(Instr.typeAssert (.iface 250 v) 243 252 true).run Tryz.prog w=.ok (.tuple #[.agg #[.int .i64 0],.bool false]) w:=by kernel_rfl
theorem zhb (v:Value) (w:World):(Instr.typeAssert (.iface 250 v) 243 254 true).run Tryz.prog w=.ok (.tuple #[.agg #[],.bool false]) w:=by kernel_rfl
theorem zhc (v:Value) (w:World):(Instr.typeAssert (.iface 250 v) 243 256 true).run Tryz.prog w=.ok (.tuple #[.agg #[.string ByteArray.empty,.string ByteArray.empty,.int .i64 0],.bool false]) w:=by kernel_rfl
theorem zh1 (v:Value) (w:World):(Instr.typeAssert (.iface 252 v) 243 248 true).run Tryz.prog w=.ok (.tuple #[.agg #[.int .i64 0],.bool false]) w:=by kernel_rfl
theorem zh2 (v:Value) (w:World):(Instr.typeAssert (.iface 252 v) 243 250 true).run Tryz.prog w=.ok (.tuple #[.agg #[.int .i64 0],.bool false]) w:=by kernel_rfl
theorem zfW (v:Value) (w:World):(Instr.typeAssert (.iface 252 v) 243 252 true).run Tryz.prog w=.ok (.tuple #[v,.bool true]) w:=by kernel_rfl
theorem zfX (v:Value) (w:World):(Instr.typeAssert (.iface 252 v) 243 254 true).run Tryz.prog w=.ok (.tuple #[.agg #[],.bool false]) w:=by kernel_rfl
theorem zfY (v:Value) (w:World):(Instr.typeAssert (.iface 252 v) 243 256 true).run Tryz.prog w=.ok (.tuple #[.agg #[.string ByteArray.empty,.string ByteArray.empty,.int .i64 0],.bool false]) w:=by kernel_rfl
theorem zh6 (v:Value) (w:World):(Instr.typeAssert (.iface 254 v) 243 248 true).run Tryz.prog w=.ok (.tuple #[.agg #[.int .i64 0],.bool false]) w:=by kernel_rfl
theorem zh7 (v:Value) (w:World):(Instr.typeAssert (.iface 254 v) 243 250 true).run Tryz.prog w=.ok (.tuple #[.agg #[.int .i64 0],.bool false]) w:=by kernel_rfl
theorem zfZ (v:Value) (w:World):(Instr.typeAssert (.iface 254 v) 243 252 true).run Tryz.prog w=.ok (.tuple #[.agg #[.int .i64 0],.bool false]) w:=by kernel_rfl
theorem zg0 (v:Value) (w:World):(Instr.typeAssert (.iface 254 v) 243 254 true).run Tryz.prog w=.ok (.tuple #[v,.bool true]) w:=by kernel_rfl
theorem zg1 (v:Value) (w:World):(Instr.typeAssert (.iface 254 v) 243 256 true).run Tryz.prog w=.ok (.tuple #[.agg #[.string ByteArray.empty,.string ByteArray.empty,.int .i64 0],.bool false]) w:=by kernel_rfl
theorem zh8 (v:Value) (w:World):(Instr.typeAssert (.iface 256 v) 243 248 true).run Tryz.prog w=.ok (.tuple #[.agg #[.int .i64 0],.bool false]) w:=by kernel_rfl
theorem zh9 (v:Value) (w:World):(Instr.typeAssert (.iface 256 v) 243 250 true).run Tryz.prog w=.ok (.tuple #[.agg #[.int .i64 0],.bool false]) w:=by kernel_rfl
theorem zg2 (v:Value) (w:World):(Instr.typeAssert (.iface 256 v) 243 252 true).run Tryz.prog w=.ok (.tuple #[.agg #[.int .i64 0],.bool false]) w:=by kernel_rfl
theorem zg3 (v:Value) (w:World):(Instr.typeAssert (.iface 256 v) 243 254 true).run Tryz.prog w=.ok (.tuple #[.agg #[],.bool false]) w:=by kernel_rfl
theorem zg4 (v:Value) (w:World):(Instr.typeAssert (.iface 256 v) 243 256 true).run Tryz.prog w=.ok (.tuple #[v,.bool true]) w:=by kernel_rfl
theorem zkd (v:Value) (w:World):(Instr.typeAssert (.iface 257 v) 243 248 true).run Tryz.prog w=.ok (.tuple #[.agg #[.int .i64 0],.bool false]) w:=by kernel_rfl
theorem zke (v:Value) (w:World):(Instr.typeAssert (.iface 257 v) 243 250 true).run Tryz.prog w=.ok (.tuple #[.agg #[.int .i64 0],.bool false]) w:=by kernel_rfl
theorem zi1 (v:Value) (w:World):(Instr.typeAssert (.iface 257 v) 243 252 true).run Tryz.prog w=.ok (.tuple #[.agg #[.int .i64 0],.bool false]) w:=by kernel_rfl
theorem zi2 (v:Value) (w:World):(Instr.typeAssert (.iface 257 v) 243 254 true).run Tryz.prog w=.ok (.tuple #[.agg #[],.bool false]) w:=by kernel_rfl
theorem zi3 (v:Value) (w:World):(Instr.typeAssert (.iface 257 v) 243 256 true).run Tryz.prog w=.ok (.tuple #[.agg #[.string ByteArray.empty,.string ByteArray.empty,.int .i64 0],.bool false]) w:=by kernel_rfl
theorem zbf (n:Nd) (w:World):Calls Tryz.prog 208 #[za9 n] w fun e w'=>e=.returned (zbq (shOf n))∧Below w.heap.size w w':=by
 obtain ⟨k,a,p,f⟩:=n;rcases zdY (k,a,p,f) with ⟨h,e⟩ | ⟨h,e⟩ | ⟨h,e⟩ | ⟨h,e⟩ | ⟨h,e⟩ | ⟨h,e⟩
 ·
  rw [e];simp only at h;subst h;clear e
  unfold za9 zbq;simp only
  go_enter Tryz.func208,Tryz.ntmps208
  go_wp2;go_ret;exact ⟨rfl,(Below.refl _ w).alloc (Nat.le_refl _) _⟩
 ·
  rw [e];simp only at h;subst h;clear e
  unfold za9 zbq;simp only
  go_enter Tryz.func208,Tryz.ntmps208
  go_wp2;go_ret;exact ⟨rfl,(Below.refl _ w).alloc (Nat.le_refl _) _⟩
 ·
  rw [e];simp only at h;clear e
  rcases (show k=3∨k=4∨k=5∨k=6 by omega) with rfl | rfl | rfl | rfl
  all_goals
   unfold za9 zbq;simp only
   go_enter Tryz.func208,Tryz.ntmps208
   go_wp2;go_ret;exact ⟨rfl,(Below.refl _ w).alloc (Nat.le_refl _) _⟩
 ·
  rw [e];simp only at h;subst h;clear e
  unfold za9 zbq;simp only
  go_enter Tryz.func208,Tryz.ntmps208
  go_wp2;go_ret;exact ⟨rfl,(Below.refl _ w).alloc (Nat.le_refl _) _⟩
 ·
  rw [e];simp only at h;subst h;clear e
  unfold za9 zbq;simp only
  go_enter Tryz.func208,Tryz.ntmps208
  go_wp2;go_ret;exact ⟨rfl,(Below.refl _ w).alloc (Nat.le_refl _) _⟩
 ·
  rw [e];simp only at h;clear e
  have d1:(k==1)=false:=beq_eq_false_iff_ne.2 (by omega);have d2:(k==2)=false:=beq_eq_false_iff_ne.2 (by omega);have d3:(k==3)=false:=beq_eq_false_iff_ne.2 (by omega);have d4:(k==4)=false:=beq_eq_false_iff_ne.2 (by omega);have d5:(k==5)=false:=beq_eq_false_iff_ne.2 (by omega);have d6:(k==6)=false:=beq_eq_false_iff_ne.2 (by omega);have d7:(k==7)=false:=beq_eq_false_iff_ne.2 (by omega);have d8:(k==8)=false:=beq_eq_false_iff_ne.2 (by omega);clear h;unfold za9 zbq;simp only
  go_enter Tryz.func208,Tryz.ntmps208
  go_wp2;go_ret;exact ⟨rfl,(Below.refl _ w).alloc (Nat.le_refl _) _⟩
theorem zgK (s:Sh) (w:World):Calls Tryz.prog 207 #[zbq s] w fun e w'=>e=.returned (.int .i64 (zlG s))∧Below w.heap.size w w':=by
 cases s with
 | num a =>
  unfold zbq;simp only
  have q0:=zhZ;have q1:=zi0;have q2:=zh3;have q3:=zh4;have q4:=zh5
  go_enter Tryz.func207,Tryz.ntmps207
  go_wp2;go_ret;exact ⟨rfl,Below.refl _ w⟩
 | arg a =>
  unfold zbq;simp only
  have q0:=zi4;have q1:=zi5;have q2:=zha;have q3:=zhb;have q4:=zhc
  go_enter Tryz.func207,Tryz.ntmps207
  go_wp2;go_ret;exact ⟨rfl,Below.refl _ w⟩
 | pair k =>
  unfold zbq;simp only
  have q0:=zh1;have q1:=zh2;have q2:=zfW;have q3:=zfX;have q4:=zfY
  go_enter Tryz.func207,Tryz.ntmps207
  go_wp2;go_ret;exact ⟨rfl,(Below.refl _ w).alloc (Nat.le_refl _) _⟩
 | cond =>
  unfold zbq;simp only
  have q0:=zh6;have q1:=zh7;have q2:=zfZ;have q3:=zg0;have q4:=zg1
  go_enter Tryz.func207,Tryz.ntmps207
  go_wp2;go_ret;exact ⟨rfl,(Below.refl _ w).alloc (Nat.le_refl _) _⟩
 | call p f a =>
  unfold zbq;simp only
  have q0:=zh8;have q1:=zh9;have q2:=zg2;have q3:=zg3;have q4:=zg4
  go_enter Tryz.func207,Tryz.ntmps207
  go_wp2;go_ret;exact ⟨rfl,(Below.refl _ w).alloc (Nat.le_refl _) _⟩
 | no =>
  unfold zbq;simp only
  have q0:=zkd;have q1:=zke;have q2:=zi1;have q3:=zi2;have q4:=zi3
  go_enter Tryz.func207,Tryz.ntmps207
  go_wp2;go_ret;exact ⟨rfl,Below.refl _ w⟩
theorem zbr (s:Sh) (w:World) (hl:∀ p f a,s=.call p f a→p.length≤1048576∧f.length≤1048576):Calls Tryz.prog 209 #[zbq s] w fun e w'=>e=.returned (.bool (shOk s))∧Below w.heap.size w w':=by
 cases s with
 | num a =>
  unfold zbq;simp only
  have q0:=zhZ;have q1:=zi0;have q2:=zh3;have q3:=zh4;have q4:=zh5
  go_enter Tryz.func209,Tryz.ntmps209
  go_wp2_with fail
  refine (zkQ _ _).mono ?_;rintro e w1 ⟨rfl,rfl⟩;go_wp2;go_ret;exact ⟨rfl,(Below.refl _ w).alloc (Nat.le_refl _) _⟩
 | arg a =>
  unfold zbq;simp only
  have q0:=zi4;have q1:=zi5;have q2:=zha;have q3:=zhb;have q4:=zhc;have HO:Hid (shOk (.arg a)=inB a 0 2):=by exact (rfl:shOk (.arg a)=inB a 0 2)
  by_cases h1:0≤a
  ·
   by_cases h2:a≤2
   ·
    have HB:Hid (inB a 0 2=true):=zdO _ _ _ h1 h2
    go_enter Tryz.func209,Tryz.ntmps209
    go_wp2;go_ret;exact ⟨by rw [HO.out,HB.out];rfl,(Below.refl _ w).alloc (Nat.le_refl _) _⟩
   ·
    have HB:Hid (inB a 0 2=false):=zcx _ _ _ (by omega)
    go_enter Tryz.func209,Tryz.ntmps209
    go_wp2;go_ret;exact ⟨by rw [HO.out,HB.out];rfl,(Below.refl _ w).alloc (Nat.le_refl _) _⟩
  ·
   have HB:Hid (inB a 0 2=false):=zcx _ _ _ (by omega)
   go_enter Tryz.func209,Tryz.ntmps209
   go_wp2;go_ret;exact ⟨by rw [HO.out,HB.out];rfl,(Below.refl _ w).alloc (Nat.le_refl _) _⟩
 | pair k =>
  unfold zbq;simp only
  have q0:=zh1;have q1:=zh2;have q2:=zfW;have q3:=zfX;have q4:=zfY
  go_enter Tryz.func209,Tryz.ntmps209
  go_wp2;go_ret;exact ⟨rfl,Below.refl _ w⟩
 | cond =>
  unfold zbq;simp only
  have q0:=zh6;have q1:=zh7;have q2:=zfZ;have q3:=zg0;have q4:=zg1
  go_enter Tryz.func209,Tryz.ntmps209
  go_wp2;go_ret;exact ⟨rfl,Below.refl _ w⟩
 | call p f a =>
  unfold zbq;simp only
  have q0:=zh8;have q1:=zh9;have q2:=zg2;have q3:=zg3;have q4:=zg4;obtain ⟨hp,hf⟩:=hl p f a rfl;have HO:Hid (shOk (.call p f a)=(inB a 0 3 && (zaE p && zaE f))):=by exact (rfl:shOk (.call p f a)=(inB a 0 3 && (zaE p && zaE f)))
  by_cases h1:0≤a
  ·
   by_cases h2:a≤3
   ·
    have HB:Hid (inB a 0 3=true):=zdO _ _ _ h1 h2;rcases hn:zaE p with _ | _
    ·
     have HN:Hid (zaE p=false):=hn;clear hn
     go_enter Tryz.func209,Tryz.ntmps209
     go_wp2_with fail
     refine (zbV p _ hp).mono ?_;rintro e w1 ⟨rfl,rfl⟩;rw [HN.out];go_wp2;go_ret;exact ⟨by rw [HO.out,HB.out,HN.out];rfl,(Below.refl _ w).alloc (Nat.le_refl _) _⟩
    ·
     have HN:Hid (zaE p=true):=hn;clear hn
     go_enter Tryz.func209,Tryz.ntmps209
     go_wp2_with fail
     refine (zbV p _ hp).mono ?_;rintro e w1 ⟨rfl,rfl⟩;rw [HN.out];go_wp2_with fail
     refine (zbV f _ hf).mono ?_;rintro e w1 ⟨rfl,rfl⟩;go_wp2;go_ret;exact ⟨by rw [HO.out,HB.out,HN.out];rfl,(Below.refl _ w).alloc (Nat.le_refl _) _⟩
   ·
    have HB:Hid (inB a 0 3=false):=zcx _ _ _ (by omega)
    go_enter Tryz.func209,Tryz.ntmps209
    go_wp2;go_ret;exact ⟨by rw [HO.out,HB.out];rfl,(Below.refl _ w).alloc (Nat.le_refl _) _⟩
  ·
   have HB:Hid (inB a 0 3=false):=zcx _ _ _ (by omega)
   go_enter Tryz.func209,Tryz.ntmps209
   go_wp2;go_ret;exact ⟨by rw [HO.out,HB.out];rfl,(Below.refl _ w).alloc (Nat.le_refl _) _⟩
 | no =>
  unfold zbq;simp only
  have q0:=zkd;have q1:=zke;have q2:=zi1;have q3:=zi2;have q4:=zi3
  go_enter Tryz.func209,Tryz.ntmps209
  go_wp2;go_ret;exact ⟨rfl,Below.refl _ w⟩
theorem node_num (a:Int) (w:World):Calls Tryz.prog 251 #[.agg #[.int .i64 a]] w fun e w'=>e=.returned (za9 (zaN (.num a)))∧Below w.heap.size w w':=by
 go_enter Tryz.func251,Tryz.ntmps251
 go_wp2;refine bodyPost_ret (v:=.agg #[.int .i64 1,.int .i64 a,.string ⟨#[]⟩,.string ⟨#[]⟩]) (by simp [results,Tryz.results251,go_sem]) rfl ?_;exact ⟨rfl,((Below.refl _ w).alloc (Nat.le_refl _) _).alloc (by simp) _⟩
theorem node_arg (a:Int) (w:World):Calls Tryz.prog 252 #[.agg #[.int .i64 a]] w fun e w'=>e=.returned (za9 (zaN (.arg a)))∧Below w.heap.size w w':=by
 go_enter Tryz.func252,Tryz.ntmps252
 go_wp2;refine bodyPost_ret (v:=.agg #[.int .i64 2,.int .i64 a,.string ⟨#[]⟩,.string ⟨#[]⟩]) (by simp [results,Tryz.results252,go_sem]) rfl ?_;exact ⟨rfl,((Below.refl _ w).alloc (Nat.le_refl _) _).alloc (by simp) _⟩
theorem zok (k:Int) (w:World):Calls Tryz.prog 253 #[.agg #[.int .i64 k]] w fun e w'=>e=.returned (za9 (zaN (.pair k)))∧Below w.heap.size w w':=by
 go_enter Tryz.func253,Tryz.ntmps253
 go_wp2;refine bodyPost_ret (v:=.agg #[.int .i64 k,.int .i64 0,.string ⟨#[]⟩,.string ⟨#[]⟩]) (by simp [results,Tryz.results253,go_sem]) rfl ?_;exact ⟨rfl,((Below.refl _ w).alloc (Nat.le_refl _) _).alloc (by simp) _⟩
theorem zol  (w:World):Calls Tryz.prog 254 #[.agg #[]] w fun e w'=>e=.returned (za9 (zaN (.cond)))∧Below w.heap.size w w':=by
 go_enter Tryz.func254,Tryz.ntmps254
 go_wp2;refine bodyPost_ret (v:=.agg #[.int .i64 7,.int .i64 0,.string ⟨#[]⟩,.string ⟨#[]⟩]) (by simp [results,Tryz.results254,go_sem]) rfl ?_;exact ⟨rfl,((Below.refl _ w).alloc (Nat.le_refl _) _).alloc (by simp) _⟩
theorem zom (p:List UInt8) (f:List UInt8) (a:Int) (w:World):Calls Tryz.prog 255 #[.agg #[.string ⟨p.toArray⟩,.string ⟨f.toArray⟩,.int .i64 a]] w fun e w'=>e=.returned (za9 (zaN (.call p f a)))∧Below w.heap.size w w':=by
 go_enter Tryz.func255,Tryz.ntmps255
 go_wp2;refine bodyPost_ret (v:=.agg #[.int .i64 8,.int .i64 a,.string ⟨p.toArray⟩,.string ⟨f.toArray⟩]) (by simp [results,Tryz.results255,go_sem]) rfl ?_;exact ⟨rfl,((Below.refl _ w).alloc (Nat.le_refl _) _).alloc (by simp) _⟩
end Go.Proofs.YtponeoijfaepnaaGreatDoor
