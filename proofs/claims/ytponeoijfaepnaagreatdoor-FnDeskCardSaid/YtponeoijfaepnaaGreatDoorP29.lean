/-
  Parts of one proof, one behind the other: LendJ, LentJ, FrameI, Math6I.
-/
import Derived.Test.YtponeoijfaepnaaGreatDoorP28
namespace Go.Proofs.YtponeoijfaepnaaGreatDoor
open Go.RowKit
set_option maxHeartbeats 4000000
set_option maxRecDepth 100000
theorem zf5 (a na:Option Addr) (len cap nc:Nat) (ts:List Ta) (ns:List Int) (w:World) (hin:zat w a len ts) (hns:AsIn w na ns) (hnl:ns.length≤1048576) (hlen:len≤1048576) (hnd:∀ q,q<ns.length→0≤ns.getD q 0∧ns.getD q 0<len) :
 Calls Tryz.prog 57 #[.slice a len cap,.slice na ns.length nc] w fun e w'=>e=.returned (.bool (decide (∀ i,i<ns.length→(ts.getD (ns.getD i 0).toNat ta0).2.2.1=2)))∧w'=w:=by
 obtain rfl:ts.length=len:=hin.1;have HI:Hid (zat w a ts.length ts):=hin;have HM:Hid (AsIn w na ns):=hns;have HD:Hid (∀ q,q<ns.length→0≤ns.getD q 0∧ns.getD q 0<ts.length):=hnd;have HN:Hid (∀ i,i<ns.length→(ts.getD (ns.getD i 0).toNat ta0).2.2.1≠2→decide (∀ i,i<ns.length→(ts.getD (ns.getD i 0).toNat ta0).2.2.1=2)=false):=fun i hi h=>decide_eq_false (fun e=>h (e i hi))
 have HY:Hid ((∀ i,i<ns.length→(ts.getD (ns.getD i 0).toNat ta0).2.2.1=2)→decide (∀ i,i<ns.length→(ts.getD (ns.getD i 0).toNat ta0).2.2.1=2)=true):=fun h=>decide_eq_true h
 generalize decide (∀ i,i<ns.length→(ts.getD (ns.getD i 0).toNat ta0).2.2.1=2)=res at HN HY ⊢;clear hin hns hnd
 go_enter Tryz.func57,Tryz.ntmps57
 go_wp2
 go_loopw [9] (fun iv wr=>∃ i:Nat,iv=.int .i64 (i:Int)∧i≤ns.length∧Hid (∀ q,q<i→(ts.getD (ns.getD q 0).toNat ta0).2.2.1=2)∧wr=w) (fun iv _=>ns.length-(intOf iv).toNat)
 case atStart=>exact ⟨0,rfl,Nat.zero_le _,(fun q hq=>absurd hq (Nat.not_lt_zero _)),rfl⟩
 case round =>
  obtain ⟨i,rfl,hi,HA,hwr⟩:=hrel;obtain rfl:=hwr.symm;by_cases hlt:(i:Int)<(ns.length:Int)
  ·
   obtain ⟨nb,no,rfl,_,d0⟩:=HM.out i (by omega);obtain ⟨h0,h1⟩:=HD.out i (by omega);have HNi:Hid (_):=HN.out i (by omega);obtain ⟨y,hy⟩:∃ y,ns.getD i 0=y:=⟨_,rfl⟩
   rw [hy] at d0 h0 h1 HNi;obtain ⟨m,rfl⟩:∃ m:Nat,y=(m:Int):=⟨y.toNat,by omega⟩
   obtain ⟨b,off,rfl,hbl,_,_,c2,_⟩:=HI.out.2 m (by omega);rw [Int.toNat_natCast] at HNi;obtain ⟨x,hx⟩:∃ x,(ts.getD m ta0).2.2.1=x:=⟨_,rfl⟩
   rw [hx] at c2 HNi;by_cases h2:x=2
   ·
    have HR:Hid (∀ q,q<i+1→(ts.getD (ns.getD q 0).toNat ta0).2.2.1=2):=fun q hq=>by
     rcases Nat.lt_or_ge q i with g | g
     ·exact HA.out q g
     ·
      obtain rfl:q=i:=by omega
      rw [hy,Int.toNat_natCast,hx];exact h2
    clear HA hx hy HNi;subst h2;go_wp2;go_roundw
    case rel=>exact ⟨i+1,by go_num,by omega,HR,trivial⟩
    case measure=>simp [intOf];omega
   ·
    have HF:Hid (res=false):=HNi.out h2;have hxb:(x !=2)=true:=by simp [h2]
    clear HA hx hy HN HY HNi;go_wp2;go_ret;exact ⟨by rw [HF.out];rfl,rfl⟩
  ·have HF:Hid (res=true):=HY.out (fun q hq=>HA.out q (by omega));clear HA HN HY;go_wp2;go_ret;exact ⟨by rw [HF.out];rfl,rfl⟩
def zdR (d:Dk):Int:=match zdE d with | some i=>(i:Int) | none=>-1
theorem zoJ (a:Option Addr) (len cap:Nat) (ts:List Ta) (ep nw:Int) (jr:List UInt8) (w:World) (hin:zat w a len ts) (hsh:za1 ts) (hd:zac (ts,ep,nw,jr)=true) :
 Calls Tryz.prog 27 #[.agg #[.slice a len cap,.int .i64 ep,.int .i64 nw,.string ⟨jr.toArray⟩]] w fun e w'=>e=.returned (.int .i64 (zdR (ts,ep,nw,jr)))∧Below w.heap.size w w':=by
 obtain rfl:ts.length=len:=hin.1;have hP:=zao.1 hd;have hn8:=hP.n;simp only at hn8;have hln:ts.length≤1048576:=by omega
 obtain ⟨W,hW⟩:∃ W,w.alloc (.cells #[.slice a ts.length cap,.int .i64 ep,.int .i64 nw,.string ⟨jr.toArray⟩] 26)=W:=⟨_,rfl⟩
 have hbW:Below w.heap.size w W:=by rw [←hW];exact (Below.refl _ _).alloc (Nat.le_refl _) _
 have bD:=B4.new w (.slice a ts.length cap) (.int .i64 ep) (.int .i64 nw) (.string ⟨jr.toArray⟩) 26;rw [hW] at bD;have HB:Hid (∀ Z,Below W.heap.size W Z→Below w.heap.size w Z):=fun Z hz=>hbW.trans (hz.mono hbW.size)
 obtain ⟨D,hD⟩:∃ D,w.heap.size=D:=⟨_,rfl⟩
 have hsW:W.heap.size=D+1:=by rw [←hW,←hD];simp
 rw [hD] at bD;have HK:Hid (∀ Z,Below W.heap.size W Z→B4 Z D (.slice a ts.length cap) (.int .i64 ep) (.int .i64 nw) (.string ⟨jr.toArray⟩)∧zat Z a ts.length ts):=fun Z hz=>⟨bD.below hz,(hin.below hbW).below hz⟩
 have HS:Hid (za1 ts):=hsh;have HNe:Hid (∀ p,p<ts.length→_):=fun p hp=>ze3 hP (p:=p) hp
 have HSts:Hid (∀ p,p<ts.length→(ts.getD p ta0).2.2.1≠0→(ts.getD p ta0).2.2.1≠2→(ts.getD p ta0).2.2.1=1):=fun p hp h0 h2=>by
  obtain ⟨_,h,_⟩:=hP.one p hp;unfold zc1 zcv at h;rw [Bool.and_eq_true] at h;have h:=h.2;simp only at h;rw [if_neg h0] at h;by_cases h1:(ts.getD p ta0).2.2.1=1
  ·exact h1
  ·rw [if_neg h1,if_neg h2] at h;cases h
 have HV:Hid (∀ i,i<ts.length→zcq (ts,ep,nw,jr) i→(∀ q,q<i→¬zcq (ts,ep,nw,jr) q)→zdR (ts,ep,nw,jr)=(i:Int)):=fun i hi hc hq=>by
  have e:zdE (ts,ep,nw,jr)=some i:=zgF (Nat.zero_le _) (by simpa using hi) hc (fun q _ h2=>hq q h2);unfold zdR;rw [e]
 have HVn:Hid ((∀ q,q<ts.length→¬zcq (ts,ep,nw,jr) q)→zdR (ts,ep,nw,jr)=-1):=fun hq=>by
  have e:zdE (ts,ep,nw,jr)=none:=zd5 (fun q _ h2=>hq q (by simpa using h2));unfold zdR;rw [e]
 generalize zdR (ts,ep,nw,jr)=res at HV HVn ⊢;have HB0:Hid (Below W.heap.size W W):=Below.refl _ _;have d0:=bD.c0;clear hin hsh hd hP bD hbW
 go_enter Tryz.func27,Tryz.ntmps27
 go_wp2
 go_step3
 go_wp2
 go_step3
 go_wp2
 go_loopw [3,9] (fun rv iv wr=>∃ i:Nat,iv=.int .i64 (i:Int)∧rv=.int .i64 (-1)∧i≤ts.length∧Hid (∀ q,q<i→¬zcq (ts,ep,nw,jr) q)∧Hid (Below W.heap.size W wr)) (fun _ iv _=>ts.length-(intOf iv).toNat)
 case atStart=>exact ⟨0,rfl,rfl,Nat.zero_le _,(fun q hq=>absurd hq (Nat.not_lt_zero _)),HB0⟩
 case round =>
  obtain ⟨i,rfl,rfl,hi,HA,HBr⟩:=hrel;clear HB0 d0;by_cases hlt:(i:Int)<(ts.length:Int)
  rotate_left
  ·
   have HR:Hid (res=-1):=HVn.out (fun q hq=>HA.out q (by omega));clear HV HVn HA;go_wp2
   (try rw [Exit.noGoto_ret])
   go_ret;exact ⟨by rw [HR.out];rfl,HB.out _ HBr.out⟩
  have hi2:i<ts.length:=by omega
  have hin:=(HK.out wr HBr.out).2;have hsi:=(HS.out i).2;have HCan:Hid (zcq (ts,ep,nw,jr) i↔(ts.getD i ta0).2.2.1≠2∧decide (∀ q,q<(ts.getD i ta0).2.1.length→(ts.getD ((ts.getD i ta0).2.1.getD q 0).toNat ta0).2.2.1=2)=true∧¬((ts.getD i ta0).2.2.1=1∧nw<(ts.getD i ta0).2.2.2.2.1)):=Iff.rfl;have hnd:=HNe.out i hi2
  (try simp only at hnd)
  have hst:=(HSts.out i hi2)
  have HNext:Hid (¬zcq (ts,ep,nw,jr) i→∀ q,q<i+1→¬zcq (ts,ep,nw,jr) q):=fun h q hq=>by
   rcases Nat.lt_or_ge q i with k | k
   ·exact HA.out q k
   ·
    obtain rfl:q=i:=by omega
    exact h
  have HSome:Hid (_):=fun h=>HV.out i hi2 h HA.out
  obtain ⟨b,off,e,hbl,c0,⟨na,nc,c1,hn1⟩,c2,c3,c4,c5⟩:=hin.2 i hi2;obtain ⟨x,hx⟩:∃ x,ts.getD i ta0=x:=⟨_,rfl⟩
  rw [hx] at c0 c1 c2 c3 c4 c5 hn1 hsi HCan hnd hst;obtain ⟨nm,ns,st,wk,un,ke⟩:=x;simp only at c0 c1 c2 c3 c4 c5 hn1 hsi HCan hnd;subst e;obtain ⟨Y,hY⟩:∃ Y,wr.alloc (.cells #[.string ⟨nm.toArray⟩,.slice na ns.length nc,.int .i64 st,.int .i64 wk,.int .i64 un,.int .i64 ke] 42)=Y:=⟨_,rfl⟩
  have hbY:Below wr.heap.size wr Y:=by rw [←hY];exact (Below.refl _ _).alloc (Nat.le_refl _) _
  have bE:=B6.new wr (.string ⟨nm.toArray⟩) (.slice na ns.length nc) (.int .i64 st) (.int .i64 wk) (.int .i64 un) (.int .i64 ke) 42;rw [hY] at bE;have HBY:Hid (Below W.heap.size W Y):=HBr.out.trans (hbY.mono HBr.out.size);have HN:Hid (_):=zf5 (some ⟨b,off,none⟩) na ts.length cap nc ts ns Y (HK.out Y HBY.out).2 (hn1.below hbY) hsi hln hnd;obtain ⟨E,hE⟩:∃ E,wr.heap.size=E:=⟨_,rfl⟩
  rw [hE] at bE;have y0:=bE.c0;have y1:=bE.c1;have y2:=bE.c2;have y4:=bE.c4;have bD:=(HK.out Y HBY.out).1;have d0:=bD.c0;have d2:=bD.c2;have dr:=(HK.out wr HBr.out).1.c0;generalize decide (∀ q,q<ns.length→(ts.getD (ns.getD q 0).toNat ta0).2.2.1=2)=fr at HN HCan;have HSt:Hid (st≠0→st≠2→st=1):=hst;clear hin hx hn1 hnd hst bE bD HA HV HVn hbY;by_cases h2:st=2
  ·
   have HNx:Hid (_):=HNext.out (fun h=>(HCan.out.1 h).1 h2);subst h2;clear HNext HSome HCan HN;go_wp2;go_roundw
   case rel=>exact ⟨i+1,by go_num,rfl,by omega,HNx,HBY⟩
   case measure=>simp [intOf];omega
  have h2b:(st==2)=false:=beq_eq_false_iff_ne.2 h2;rcases fr with _ | _
  ·
   have HNx:Hid (_):=HNext.out (fun h=>by cases (HCan.out.1 h).2.1);clear HNext HSome HCan
   go_wp2_with (go_at_call 57;refine Calls.mono HN.out ?_;rintro e wn ⟨rfl,rfl⟩)
   go_roundw
   case rel=>exact ⟨i+1,by go_num,rfl,by omega,HNx,HBY⟩
   case measure=>simp [intOf];omega
  by_cases h0:st=0
  ·
   subst h0;have HR:Hid (_):=HSome.out (HCan.out.2 ⟨h2,rfl,fun h=>by omega⟩);clear HNext HSome HCan
   go_wp2_with (go_at_call 57;refine Calls.mono HN.out ?_;rintro e wn ⟨rfl,rfl⟩)
   (try rw [Exit.noGoto_ret])
   go_ret;exact ⟨by rw [HR.out];rfl,HB.out _ HBY.out⟩
  have h0b:(st==0)=false:=beq_eq_false_iff_ne.2 h0;obtain rfl:st=1:=HSt.out h0 h2;by_cases hu:un≤nw
  ·
   have HR:Hid (_):=HSome.out (HCan.out.2 ⟨h2,rfl,fun h=>by omega⟩);clear HNext HSome HCan
   go_wp2_with (go_at_call 57;refine Calls.mono HN.out ?_;rintro e wn ⟨rfl,rfl⟩)
   (try rw [Exit.noGoto_ret])
   go_ret;exact ⟨by rw [HR.out];rfl,HB.out _ HBY.out⟩
  ·
   have HNx:Hid (_):=HNext.out (fun h=>(HCan.out.1 h).2.2 ⟨rfl,by omega⟩);clear HNext HSome HCan
   go_wp2_with (go_at_call 57;refine Calls.mono HN.out ?_;rintro e wn ⟨rfl,rfl⟩)
   go_roundw
   case rel=>exact ⟨i+1,by go_num,rfl,by omega,HNx,HBY⟩
   case measure=>simp [intOf];omega
theorem zjM (nm:List UInt8) (na:Option Addr) (nl nc:Nat) (st wk un ke w2 u2:Int) (w:World) :
 Calls Tryz.prog 28 #[.agg #[.string ⟨nm.toArray⟩,.slice na nl nc,.int .i64 st,.int .i64 wk,.int .i64 un,.int .i64 ke],.int .i64 w2,.int .i64 u2] w fun e w'=>e=.returned (.agg #[.string ⟨nm.toArray⟩,.slice na nl nc,.int .i64 1,.int .i64 w2,.int .i64 u2,.int .i64 0])∧Below w.heap.size w w':=by
 obtain ⟨D,hD⟩:∃ D,w.heap.size=D:=⟨_,rfl⟩
 obtain ⟨W1,hW1⟩:∃ W,w.alloc (.cells #[.string ⟨nm.toArray⟩,.slice na nl nc,.int .i64 st,.int .i64 wk,.int .i64 un,.int .i64 ke] 42)=W:=⟨_,rfl⟩
 obtain ⟨W2,hW2⟩:∃ W,W1.alloc (.cells #[.string ⟨#[]⟩,.slice none 0 0,.int .i64 0,.int .i64 0,.int .i64 0,.int .i64 0] 42)=W:=⟨_,rfl⟩
 have hs1:W1.heap.size=D+1:=by rw [←hW1,←hD];simp
 have hb1:Below D w W1:=by rw [←hW1,←hD];exact (Below.refl _ _).alloc (Nat.le_refl _) _
 have hb12:Below W1.heap.size W1 W2:=by rw [←hW2];exact (Below.refl _ _).alloc (Nat.le_refl _) _
 have HB:Hid (Below D w W2):=hb1.trans (hb12.mono (by omega));have bD:=B6.new w (.string ⟨nm.toArray⟩) (.slice na nl nc) (.int .i64 st) (.int .i64 wk) (.int .i64 un) (.int .i64 ke) 42;rw [hW1,hD] at bD;have bR:=B6.new W1 (.string ⟨#[]⟩) (.slice none 0 0) (.int .i64 0) (.int .i64 0) (.int .i64 0) (.int .i64 0) 42;rw [hW2,hs1] at bR;have bD2:=bD.below hb12;have d0:=bD2.c0;have d1:=bD2.c1;have r0:=bR.c0;have r1:=bR.c1;have r2:=bR.c2;have r3:=bR.c3;have r4:=bR.c4;have r5:=bR.c5;have f0:=bR.fr 0;have f1:=bR.fr 1;have f2:=bR.fr 2;have f3:=bR.fr 3;have f4:=bR.fr 4;have f5:=bR.fr 5;obtain ⟨X,hX,y0,y1,y2,y3,y4,y5,hg⟩:=set6 (.string ⟨nm.toArray⟩) (.slice na nl nc) (.int .i64 1) (.int .i64 w2) (.int .i64 u2) (.int .i64 0) r0 r1 r2 r3 r4 r5;have HG:Hid (W2.grownBy X (some (D+1))∧D+1≤W2.heap.size):=⟨hg,by have:=bR.lt;omega⟩;clear bD bR bD2 hb1 hb12 hg
 go_enter Tryz.func28,Tryz.ntmps28
 go_wp2;refine bodyPost_ret (v:=.agg #[.string ⟨nm.toArray⟩,.slice na nl nc,.int .i64 1,.int .i64 w2,.int .i64 u2,.int .i64 0]) (by simp [results,Tryz.results28,go_sem,y0,y1,y2,y3,y4,y5]) rfl ?_;exact ⟨rfl,by rw [hD];exact HB.out.grown HG.out.1 (by have:=HG.out.2;omega) (fun k e=>by injection e with e;omega)⟩
theorem key_of {d:Dk} (h:znt d) {i:Nat} (hi:i<d.1.length) (hc:(d.1.getD i ta0).2.2.1≠2):(d.1.getD i ta0).2.2.2.2.2=0:=by
  obtain ⟨_,hk,_⟩:=h.one i hi;unfold zc1 at hk;rw [Bool.and_eq_true] at hk;have hst:=hk.2;unfold zcv at hst
  split at hst
  · exact (of_decide_eq_true hst).2.2
  · split at hst
    · rw [Bool.and_eq_true] at hst;exact of_decide_eq_true hst.2
    · first
        | (cases hst;done)
        | (split at hst
           · rename_i e;exact absurd e hc
           · cases hst)
theorem implLent (a:Option Addr) (len cap:Nat) (ts:List Ta) (ep nw:Int) (jr:List UInt8) (n:Int) (w:World) (hin:zaF w a len cap ts) (hsh:za1 ts) (hlen:len≤1048576) (hj:jr.length≤1048576) (hc:len≤cap) :
    Calls Tryz.prog 6 #[.agg #[.slice a len cap,.int .i64 ep,.int .i64 nw,.string ⟨jr.toArray⟩],.int .i64 n] w
      fun e w'=>∃ v,e=.returned (.tuple #[v,.int .i64 (zbd (ts,ep,nw,jr) n).2])∧zbQ w w' v (zbd (ts,ep,nw,jr) n).1:=by
  obtain rfl:ts.length=len:=hin.1;obtain ⟨D,hD⟩:∃ D,w.heap.size=D:=⟨_,rfl⟩
  obtain ⟨W1,hW1⟩:∃ W,w.alloc (.cells #[.slice a ts.length cap,.int .i64 ep,.int .i64 nw,.string ⟨jr.toArray⟩] 26)=W:=⟨_,rfl⟩
  obtain ⟨W2,hW2⟩:∃ W,W1.alloc (.cells #[.slice none 0 0,.int .i64 0,.int .i64 0,.string ⟨#[]⟩] 26)=W:=⟨_,rfl⟩
  have hs1:W1.heap.size=D+1:=by rw [←hW1,←hD];simp
  have hs2:W2.heap.size=D+2:=by rw [←hW2];simp [hs1]
  have hb1:Below D w W1:=by rw [←hW1,←hD];exact (Below.refl _ _).alloc (Nat.le_refl _) _
  have hb12:Below W1.heap.size W1 W2:=by rw [←hW2];exact (Below.refl _ _).alloc (Nat.le_refl _) _
  have hb2:Below D w W2:=hb1.trans (hb12.mono (by omega));have bD:=B4.new w (.slice a ts.length cap) (.int .i64 ep) (.int .i64 nw) (.string ⟨jr.toArray⟩) 26;rw [hW1,hD] at bD;have bR:=B4.new W1 (.slice none 0 0) (.int .i64 0) (.int .i64 0) (.string ⟨#[]⟩) 26;rw [hW2,hs1] at bR
  have HD:Hid (∀ Z,Below W2.heap.size W2 Z→B4 Z D (.slice a ts.length cap) (.int .i64 ep) (.int .i64 nw) (.string ⟨jr.toArray⟩)∧B4 Z (D+1) (.slice none 0 0) (.int .i64 0) (.int .i64 0) (.string ⟨#[]⟩)∧zaF Z a ts.length cap ts∧Below D w Z):=fun Z hz =>
    ⟨(bD.below hb12).below hz,bR.below hz,(hin.below (by rw [hD];exact hb2)).below hz,hb2.trans (hz.mono (by omega))⟩
  have HK:Hid (_):=zbw a ts.length cap ts ep nw jr W2 (hin.in.below (by rw [hD];exact hb2)) hc hsh hlen;have HCp:Hid (∀ Z,zaF Z a ts.length cap ts→_):=fun Z hz=>zgL a ts.length cap ts ep nw jr Z hz hsh hlen hj
  have HV0:Hid (zac (ts,ep,nw,jr)=false→zbd (ts,ep,nw,jr) n=(dk0,-1)):=fun h=>by unfold zbd;rw [h];rfl
  have HV1:Hid (zac (ts,ep,nw,jr)=true→inB n 0 3=false→zbd (ts,ep,nw,jr) n=((ts,ep,nw,jr),-1)):=fun h h2=>by unfold zbd zbm;rw [if_pos h,h2];rfl
  have HVn:Hid (zac (ts,ep,nw,jr)=true→inB n 0 3=true→zdE (ts,ep,nw,jr)=none→zbd (ts,ep,nw,jr) n=((ts,ep,nw,jr),-1)):=fun h h2 h3=>by unfold zbd zbm;rw [if_pos h,if_pos h2,h3]
  have HVs:Hid (∀ i,zac (ts,ep,nw,jr)=true→inB n 0 3=true→zdE (ts,ep,nw,jr)=some i→zbd (ts,ep,nw,jr) n=((ts.set i (zbT (ts,ep,nw,jr) n (ts.getD i ta0)),ep,nw,jr),(i:Int))):=fun i h h2 h3=>by unfold zbd zbm;rw [if_pos h,if_pos h2,h3]
  have HP:Hid (zac (ts,ep,nw,jr)=true→znt (ts,ep,nw,jr)):=fun h=>zao.1 h
  have HFst:Hid (zac (ts,ep,nw,jr)=true→∀ (a:Option Addr) (c:Nat) (Z:World),zat Z a ts.length ts→Calls Tryz.prog 27 #[.agg #[.slice a ts.length c,.int .i64 ep,.int .i64 nw,.string ⟨jr.toArray⟩]] Z fun e w'=>e=.returned (.int .i64 (zdR (ts,ep,nw,jr)))∧Below Z.heap.size Z w'):=fun h a c Z hz=>zoJ a ts.length c ts ep nw jr Z hz hsh h
  have HWk:Hid (∀ Z,_):=fun Z=>zfO n Z
  obtain ⟨d0,d1,d2,d3⟩:W2.cell? ⟨D,0,none⟩=some (.slice a ts.length cap)∧W2.cell? ⟨D,1,none⟩=some (.int .i64 ep)∧W2.cell? ⟨D,2,none⟩=some (.int .i64 nw)∧W2.cell? ⟨D,3,none⟩=some (.string ⟨jr.toArray⟩):=by have h:=(HD.out W2 (Below.refl _ _)).1;exact ⟨h.c0,h.c1,h.c2,h.c3⟩
  generalize zbd (ts,ep,nw,jr) n=res at HV0 HV1 HVn HVs ⊢;generalize zac (ts,ep,nw,jr)=b1 at HK HV0 HV1 HVn HVs HP HFst;clear hin hsh bD bR hb1 hb12 hb2;rcases b1 with _ | _
  · have HR:Hid (res=(dk0,-1)):=HV0.out rfl
    clear HV0 HV1 HVn HVs HP HFst HCp HWk
    go_enter Tryz.func6,Tryz.ntmps6
    go_wp2_with fail
    refine Calls.mono HK.out ?_;rintro e w1 ⟨rfl,hb1⟩;obtain ⟨_,br,_,hbD⟩:=HD.out w1 hb1;have r0:=br.c0;have r1:=br.c1;have r2:=br.c2;have r3:=br.c3;have f0:=br.fr 0;have f1:=br.fr 1;have f2:=br.fr 2;have f3:=br.fr 3;have HBD:Hid (Below D w w1):=hbD;clear hbD br hb1 d0 d1 d2 d3;go_wp2;obtain ⟨X,hX,y0,y1,y2,y3,hg⟩:=set4 (.slice none 0 0) (.int .i64 0) (.int .i64 0) (.string ⟨#[]⟩) r0 r1 r2 r3;rw [hX];refine bodyPost_ret (v:=.tuple #[.agg #[.slice none 0 0,.int .i64 0,.int .i64 0,.string ⟨#[]⟩],.int .i64 (-1)]) (by simp [results,Tryz.results6,go_sem,y0,y1,y2,y3]) rfl ?_;rw [HR.out];exact ⟨_,rfl,zbQ.zero (by rw [hD];exact HBD.out.grown hg (by have:=HBD.out.size;omega) (fun k e=>by injection e with e;omega))⟩
  · have HV1b:Hid (_):=HV1.out rfl
    have HVnb:Hid (_):=HVn.out rfl;have HVsb:Hid (_):=fun i=>HVs.out i rfl
    have HPb:Hid (_):=HP.out rfl;have HFb:Hid (_):=HFst.out rfl;clear HV0 HV1 HVn HVs HP HFst
    go_enter Tryz.func6,Tryz.ntmps6
    go_wp2_with fail
    refine Calls.mono HK.out ?_;rintro e w1 ⟨rfl,hb1⟩;have HB1:Hid (Below W2.heap.size W2 w1):=hb1;clear d0 d1 d2 d3 hb1 HK;obtain ⟨bd,_,hok1,_⟩:=HD.out w1 HB1.out;have d0:=bd.c0;have d1:=bd.c1;have d2:=bd.c2;have d3:=bd.c3;have HC1:Hid (_):=HCp.out w1 hok1;clear bd hok1 HCp;go_wp2_with fail
    refine Calls.mono HC1.out ?_;rintro e w2 ⟨va,vc,xs,rfl,hx,ho,hap,hb2⟩;have hB2:=HB1.out.trans (hb2.mono HB1.out.size);obtain ⟨Q,hQ⟩:∃ Q,w2.heap.size=Q:=⟨_,rfl⟩
    obtain ⟨w3,hw3⟩:∃ W,w2.alloc (.cells #[.slice va ts.length vc,.int .i64 ep,.int .i64 nw,.string ⟨jr.toArray⟩] 26)=W:=⟨_,rfl⟩
    have bQ:=B4.new w2 (.slice va ts.length vc) (.int .i64 ep) (.int .i64 nw) (.string ⟨jr.toArray⟩) 26;have hb3:Below w2.heap.size w2 w3:=by rw [←hw3];exact (Below.refl _ _).alloc (Nat.le_refl _) _
    have hs3:w3.heap.size=Q+1:=by rw [←hw3,←hQ];simp
    rw [hw3,hQ] at bQ;have hB3:Below W2.heap.size W2 w3:=hB2.trans (hb3.mono hB2.size);have hw1:D+2≤w1.heap.size:=by have:=HB1.out.size;omega
    have hQl:w1.heap.size≤Q:=by rw [←hQ];exact hb2.size
    have HO3:Hid (za2 w3 w1.heap.size (.slice va ts.length vc) xs∧xs.map (·.1)=ts∧zai (xs.map tvT)):=⟨ho.below hb3,hx,hap⟩
    have hO3:∀ k,(Value.slice va ts.length vc).ownBlock=some k∨(∃ x∈xs,(tvT x).ownBlock=some k)→k<Q:=by
      intro k hk;rw [←hQ];rcases hk with e | ⟨x,hx,e⟩
      · exact (ho.row.lt k e).2
      · exact ((ho.trees x hx).lt k e).2
    have HO3l:Hid (_):=hO3;have HBQ:Hid (B4 w3 Q (.slice va ts.length vc) (.int .i64 ep) (.int .i64 nw) (.string ⟨jr.toArray⟩)):=bQ;have HB3:Hid (Below W2.heap.size W2 w3):=hB3;clear d0 d1 d2 d3 hb2 ho hap hx hb3 bQ hB3 hB2 hO3 HC1
    have HIn3:Hid (∀ Z,Below w3.heap.size w3 Z→zat Z va ts.length ts):=fun Z hz=>by
      have hxl:xs.length=ts.length:=by rw [←HO3.out.2.1,List.length_map]
      obtain ⟨a7,c7,e7,hok7⟩:=(HO3.out.1.below hz).ok;rw [HO3.out.2.1,hxl] at hok7;rw [hxl] at e7;injection e7 with e7 _ _;subst e7;exact hok7.in
    have q0:=HBQ.out.c0;have q1:=HBQ.out.c1;have q2:=HBQ.out.c2;have q3:=HBQ.out.c3;rcases hbb:inB n 0 3 with _ | _
    · have HR:Hid (res=((ts,ep,nw,jr),-1)):=HV1b.out hbb
      rw [hbb] at HWk;clear HV1b HVnb HVsb hbb HPb HFb;obtain ⟨_,br,_,hbD⟩:=HD.out w3 (HB3.out);have r0:=br.c0;have r1:=br.c1;have r2:=br.c2;have r3:=br.c3;have f0:=br.fr 0;have f1:=br.fr 1;have f2:=br.fr 2;have f3:=br.fr 3;have HBD:Hid (Below D w w3):=hbD;clear hbD br
      go_wp2_with (go_at_call 26;refine Calls.mono (HWk.out _) ?_;rintro e w4 ⟨rfl,hw4⟩;obtain rfl:=hw4.symm;clear hw4)
      obtain ⟨X,hX,y0,y1,y2,y3,hg⟩:=set4 (.slice va ts.length vc) (.int .i64 ep) (.int .i64 nw) (.string ⟨jr.toArray⟩) r0 r1 r2 r3;rw [hX];refine bodyPost_ret (v:=.tuple #[.agg #[.slice va ts.length vc,.int .i64 ep,.int .i64 nw,.string ⟨jr.toArray⟩],.int .i64 (-1)]) (by simp [results,Tryz.results6,go_sem,y0,y1,y2,y3]) rfl ?_;rw [HR.out];have hk:=(HO3.out.1).kept hg (za8 (HO3.out.1).row (by omega)) (fun y hy=>za8 ((HO3.out.1).trees y hy) (by omega));exact ⟨_,rfl,va,vc,xs,rfl,HO3.out.2.1,hk.base (by omega),HO3.out.2.2,by rw [hD];exact HBD.out.grown hg (by have:=HBD.out.size;omega) (fun k e=>by injection e with e;omega)⟩
    rw [hbb] at HWk;have HF3:Hid (_):=HFb.out va vc w3 (HIn3.out w3 (Below.refl _ _));rcases hla:zdE (ts,ep,nw,jr) with _ | i
    · have HR:Hid (res=((ts,ep,nw,jr),-1)):=HVnb.out hbb hla
      have hfv:zdR (ts,ep,nw,jr)=-1:=by unfold zdR;rw [hla]
      rw [hfv] at HF3;clear HV1b HVnb HVsb hbb hla hfv HPb HFb
      go_wp2_with (first | (go_at_call 26;refine Calls.mono (HWk.out _) ?_;rintro e w4 ⟨rfl,hw4⟩;obtain rfl:=hw4.symm;clear hw4) | (go_at_call 27;refine Calls.mono HF3.out ?_;rintro e w4 ⟨rfl,hb4⟩;replace q0:=(HBQ.out.below hb4).c0;replace q1:=(HBQ.out.below hb4).c1;replace q2:=(HBQ.out.below hb4).c2;replace q3:=(HBQ.out.below hb4).c3;have hb43:=hb4;clear hb4;obtain ⟨_,br,_,hbD⟩:=HD.out w4 (HB3.out.trans (hb43.mono HB3.out.size));have r0:=br.c0;have r1:=br.c1;have r2:=br.c2;have r3:=br.c3;have f0:=br.fr 0;have f1:=br.fr 1;have f2:=br.fr 2;have f3:=br.fr 3;have HBD:Hid (Below D w w4):=hbD;clear hbD br))
      obtain ⟨X,hX,y0,y1,y2,y3,hg⟩:=set4 (.slice va ts.length vc) (.int .i64 ep) (.int .i64 nw) (.string ⟨jr.toArray⟩) r0 r1 r2 r3;rw [hX];refine bodyPost_ret (v:=.tuple #[.agg #[.slice va ts.length vc,.int .i64 ep,.int .i64 nw,.string ⟨jr.toArray⟩],.int .i64 (-1)]) (by simp [results,Tryz.results6,go_sem,y0,y1,y2,y3]) rfl ?_;rw [HR.out];have ho4:=HO3.out.1.below hb43;have hk:=ho4.kept hg (za8 ho4.row (by omega)) (fun y hy=>za8 (ho4.trees y hy) (by omega));exact ⟨_,rfl,va,vc,xs,rfl,HO3.out.2.1,hk.base (by omega),HO3.out.2.2,by rw [hD];exact HBD.out.grown hg (by have:=HBD.out.size;omega) (fun k e=>by injection e with e;omega)⟩
    have HR:Hid (res=_):=HVsb.out i hbb hla;have hfv:zdR (ts,ep,nw,jr)=(i:Int):=by unfold zdR;rw [hla]
    rw [hfv] at HF3;obtain ⟨_,hi2,hcan,_⟩:=zdx hla;simp only [Nat.zero_add] at hi2;have HCan:Hid (zcq (ts,ep,nw,jr) i):=hcan;have hP:=HPb.out;obtain ⟨g,cp,he⟩:=zaw HO3.out.1.row (by have:=HO3.out.2.1;rw [←this,List.length_map] at hi2;omega);injection he with e1 e2 e3;subst e1;have HXL:Hid (xs.length=ts.length):=e2.symm;have hgQ:g<Q:=HO3l.out g (Or.inl rfl);have HKey:Hid ((ts.getD i ta0).2.2.2.2.2=0):=key_of hP hi2 hcan.1;have hnow:=hP.t;simp only at hnow
    have HRow:Hid (∀ Z,Below w3.heap.size w3 Z→Z.ownsRow w1.heap.size 42 6 (.slice (some ⟨g,0,none⟩) ts.length vc) ts.length (tksV xs)):=fun Z hz=>by
      have h:=(HO3.out.1.below hz).row;rw [HXL.out] at h;exact h
    have hix:i<xs.length:=by have:=HXL.out;omega
    have HT:Hid (_):=zdp xs i hix;have hxi:=zes HO3.out.2.1 hix;have hgx:xs.getD i tv0=xs[i]:=by simp [List.getD,hix]
    have HXI:Hid (∃ h:i<xs.length,xs[i]=(ts.getD i ta0,xs[i].2)):=⟨hix,by rw [←hxi]⟩;rw [hgx] at HT;obtain ⟨tv,htv⟩:∃ tv,xs[i]=tv:=⟨_,rfl⟩
    rw [htv] at HT hxi;have HTV:Hid (∃ h:i<xs.length,xs[i]=tv):=⟨hix,htv⟩;obtain ⟨⟨nm,ns,st,wk,un,ke⟩,na,nc⟩:=tv;simp only [tvT] at HT;simp only at hxi;have HXi:Hid ((nm,ns,st,wk,un,ke)=ts.getD i ta0):=hxi
    have HCe:Hid (∀ Z,Below w3.heap.size w3 Z→Z.cell? ⟨g,i*6,none⟩=some (.string ⟨nm.toArray⟩)∧Z.cell? ⟨g,i*6+1,none⟩=some (.slice na ns.length nc)∧Z.cell? ⟨g,i*6+2,none⟩=some (.int .i64 st)∧Z.cell? ⟨g,i*6+3,none⟩=some (.int .i64 wk)∧Z.cell? ⟨g,i*6+4,none⟩=some (.int .i64 un)∧Z.cell? ⟨g,i*6+5,none⟩=some (.int .i64 ke)):=fun Z hz=>by
      obtain ⟨v0,v1,v2,v3,v4,v5⟩:=HT.out;have hr:=HRow.out Z hz;exact ⟨(hr.cellAt _ (by omega)).trans v0,(hr.cellAt _ (by omega)).trans v1,(hr.cellAt _ (by omega)).trans v2,(hr.cellAt _ (by omega)).trans v3,(hr.cellAt _ (by omega)).trans v4,(hr.cellAt _ (by omega)).trans v5⟩
    have HQb:Hid (∀ Z,Below w3.heap.size w3 Z→_):=fun Z hz=>HBQ.out.below hz
    have HAs:Hid (∀ Z,_):=fun (u2:Int) Z=>zjM nm na ns.length nc st wk un ke n u2 Z
    have hii:((i:Int) !=-1)=true:=by simp
    have HMin:Hid (min (IntKind.i64.wrap (nw+10)) 1000000=(if nw+10≤1000000 then nw+10 else 1000000:Int)):=by exact (by rw [IntKind.wrap_i64];split<;>omega:min (IntKind.i64.wrap (nw+10)) 1000000=(if nw+10≤1000000 then nw+10 else 1000000:Int))
    clear HV1b HVnb HVsb hbb hla hfv HPb HFb hcan hP e2 e3 hxi hgx htv hix HXI
    go_wp2_with (first | (go_at_call 26;refine Calls.mono (HWk.out _) ?_;rintro e w4 ⟨rfl,hw4⟩;obtain rfl:=hw4.symm;clear hw4) | (go_at_call 27;refine Calls.mono HF3.out ?_;rintro e w4 ⟨rfl,hb4⟩;have HB4:Hid (Below w3.heap.size w3 w4):=hb4;have HB4d:Hid (Below w3.heap.size w3 w4.drew):=hb4.trans ⟨rfl,rfl,rfl,Nat.le_refl _,fun _ _=>rfl⟩;replace q0:=(HBQ.out.below hb4).c0;replace q1:=(HBQ.out.below hb4).c1;replace q2:=(HBQ.out.below hb4).c2;replace q3:=(HBQ.out.below hb4).c3;clear hb4;obtain ⟨c0,c1,c2,c3,c4,c5⟩:=HCe.out w4 HB4.out))
    refine Till.region (S:=(fun Z=>Z.cell? ⟨Q,0,none⟩=some (.slice (some ⟨g,0,none⟩) ts.length vc)∧Z.cell? ⟨Q,1,none⟩=some (.int .i64 ep)∧Z.cell? ⟨Q,2,none⟩=some (.int .i64 nw)∧Z.cell? ⟨Q,3,none⟩=some (.string ⟨jr.toArray⟩)∧Z.cell? ⟨g,i*6,none⟩=some (.string ⟨nm.toArray⟩)∧Z.cell? ⟨g,i*6+1,none⟩=some (.slice na ns.length nc)∧Z.cell? ⟨g,i*6+2,none⟩=some (.int .i64 st)∧Z.cell? ⟨g,i*6+3,none⟩=some (.int .i64 wk)∧Z.cell? ⟨g,i*6+4,none⟩=some (.int .i64 un)∧Z.cell? ⟨g,i*6+5,none⟩=some (.int .i64 ke))) (E:=[15]) (by kernel_rfl) ?_ (fun hHeld hSh=>?_)
    · exact ⟨q0,q1,q2,q3,c0,c1,c2,c3,c4,c5⟩
    refine tkO [(0,22),(1,23),(2,24),(3,25),(4,26),(5,27),(6,28),(7,29),(8,30),(9,31),(10,32),(11,33),(12,34)] ?_
    repeat (refine tlY ?_ rfl (by rfl) ?_ (fun hSh2=>?_);rotate_left;(focus (intro wq hSw;(try dsimp only at hSw);first | (go_simp;done) | (go_simp;with_reducible rfl)));clear hSh;rename zaI _ _ _=>hSh;simp only [zP])
    refine tkZ ?_;refine Till.one (i:=13) (by kernel_rfl) rfl hSh (fun K hK=>?_);clear hSh;go_simp
    (go_at_call 28;refine Calls.mono (HAs.out _ _) ?_;rintro e w6 ⟨rfl,hb6⟩;have HB6:Hid (Below w3.heap.size w3 w6):=HB4d.out.trans (hb6.mono HB4d.out.size);clear hb6;replace q0:=(HQb.out w6 HB6.out).c0;replace q1:=(HQb.out w6 HB6.out).c1;replace q2:=(HQb.out w6 HB6.out).c2;replace q3:=(HQb.out w6 HB6.out).c3;clear c0 c1 c2 c3 c4 c5;obtain ⟨c0,c1,c2,c3,c4,c5⟩:=HCe.out w6 HB6.out)
    refine hK.out _ _ ?_ (fun hHeld hSh=>?_)
    · exact ⟨q0,q1,q2,q3,c0,c1,c2,c3,c4,c5⟩
    clear hK K;obtain ⟨mm,hmm⟩:∃ m:Int,min (IntKind.i64.wrap (nw+10)) 1000000=m:=⟨_,rfl⟩
    rw [hmm];rw [hmm] at HMin;clear hmm;refine tkO [(14,36)] ?_
    repeat (refine tlY ?_ rfl (by rfl) ?_ (fun hSh2=>?_);rotate_left;(focus (intro wq hSw;(try dsimp only at hSw);first | (go_simp;done) | (go_simp;with_reducible rfl)));clear hSh;rename zaI _ _ _=>hSh;simp only [zP])
    refine tkZ ?_;have hr0:=HRow.out w6 HB6.out;have e0:=hr0.frozenAt (i*6);have hs0:=hr0.stored (i*6) (.string ⟨nm.toArray⟩);have e1:=hr0.frozenAt (i*6+1);have hs1:=hs0.1.stored (i*6+1) (.slice na ns.length nc);have e2:=hr0.frozenAt (i*6+2);have hs2:=hs1.1.stored (i*6+2) (.int .i64 1);have e3:=hr0.frozenAt (i*6+3);have hs3:=hs2.1.stored (i*6+3) (.int .i64 n);have e4:=hr0.frozenAt (i*6+4);have hs4:=hs3.1.stored (i*6+4) (.int .i64 mm);have e5:=hr0.frozenAt (i*6+5);have hs5:=hs4.1.stored (i*6+5) (.int .i64 0);obtain ⟨V,hV⟩:∃ V,((((((w6.setCell ⟨g,i*6,none⟩ (.string ⟨nm.toArray⟩)).setCell ⟨g,i*6+1,none⟩ (.slice na ns.length nc)).setCell ⟨g,i*6+2,none⟩ (.int .i64 1)).setCell ⟨g,i*6+3,none⟩ (.int .i64 n)).setCell ⟨g,i*6+4,none⟩ (.int .i64 mm)).setCell ⟨g,i*6+5,none⟩ (.int .i64 0))=V:=⟨_,rfl⟩
    have hgV:w6.grownBy V (some g):=by rw [←hV];exact ((((hs0.2.trans hs1.2).trans hs2.2).trans hs3.2).trans hs4.2).trans hs5.2
    have hrV:=hs5.1;have hset:=zi8 xs i ((nm,ns,1,n,mm,0),na,nc);simp only [tvT] at hset;rw [hset,hV] at hrV;have bQV:=(HQb.out w6 HB6.out).grown hgV (by intro e;injection e with e;omega);have HBV:Hid (Below W2.heap.size W2 V):=(HB3.out.trans (HB6.out.mono HB3.out.size)).grown hgV (Nat.le_trans HB3.out.size HB6.out.size) (fun k e=>by injection e with e;have h1:=HB1.out.size;have h2:=(HO3.out.1.row.lt g rfl).1;omega)
    have HOV:Hid (∃ h:i<xs.length,za2 V w1.heap.size (.slice (some ⟨g,0,none⟩) ts.length vc) (xs.set i ((nm,ns,1,n,mm,0),na,nc))∧zai ((xs.set i ((nm,ns,1,n,mm,0),na,nc)).map tvT)):=by obtain ⟨h,e⟩:=HTV.out;exact ⟨h,(HO3.out.1.below HB6.out).put h _ hgV (by rw [HXL.out];exact hrV) (by rw [e]) (by rw [e]),zdn h _ (by rw [e]) (by rw [e]) HO3.out.2.2⟩
    obtain ⟨_,br,_,hbD⟩:=HD.out V HBV.out;have r0:=br.c0;have r1:=br.c1;have r2:=br.c2;have r3:=br.c3;have f0:=br.fr 0;have f1:=br.fr 1;have f2:=br.fr 2;have f3:=br.fr 3;have p0:=bQV.c0;have p1:=bQV.c1;have p2:=bQV.c2;have p3:=bQV.c3;have HBD:Hid (Below D w V):=hbD;have hsV:D+2≤V.heap.size:=by have:=HBV.out.size;omega
    clear hs0 hs1 hs2 hs3 hs4 hs5 hr0 hrV hset hbD br bQV hgV;refine Till.last (i:=15) (by kernel_rfl) rfl (by decide) (fun K hK=>?_);go_simp;refine hK.out _ _ ?_;clear hK K
    (try rw [hV])
    refine Till.done (by kernel_rfl) ?_ _;go_wp2;obtain ⟨X,hX,y0,y1,y2,y3,hg⟩:=set4 (.slice (some ⟨g,0,none⟩) ts.length vc) (.int .i64 ep) (.int .i64 nw) (.string ⟨jr.toArray⟩) r0 r1 r2 r3;rw [hX];refine bodyPost_ret (v:=.tuple #[.agg #[.slice (some ⟨g,0,none⟩) ts.length vc,.int .i64 ep,.int .i64 nw,.string ⟨jr.toArray⟩],.int .i64 (i:Int)]) (by simp [results,Tryz.results6,go_sem,y0,y1,y2,y3]) rfl ?_;rw [HR.out];obtain ⟨hix,hoV,hapV⟩:=HOV.out;have hk:=hoV.kept hg (za8 hoV.row (by omega)) (fun y hy=>za8 (hoV.trees y hy) (by omega));refine ⟨_,rfl,some ⟨g,0,none⟩,vc,_,by simp only [List.length_set],?_,by simp only [List.length_set];exact hk.base (by omega),hapV,by rw [hD];exact HBD.out.grown hg (by omega) (fun k e=>by injection e with e;omega)⟩;rw [List.map_set,HO3.out.2.1]
    show ts.set i _=ts.set i _
    congr 1
    unfold zbT;rw [←HXi.out,HMin.out];have hke:ke=0:=by have h:=HKey.out;rw [←HXi.out] at h;exact h
    rw [hke]
theorem zfx (l:List UInt8) (w:World) (hl:l.length≤1048576) :
 Calls Tryz.prog 59 #[.string ⟨l.toArray⟩] w fun e w'=>e=.returned (.string ⟨(zd7 l).toArray⟩)∧Below w.heap.size w w':=by
 by_cases h:20000<(l.length:Int)
 ·
  have HS:Hid (zd7 l=[]):=znh l (by omega)
  go_enter Tryz.func59,Tryz.ntmps59
  go_wp2;go_ret;exact ⟨zlM (by rw [HS.out]),Below.refl _ _⟩
 ·
  have HS:Hid (zd7 l=zbH l):=zcd l (by omega);have hd:=zgc l
  go_enter Tryz.func59,Tryz.ntmps59
  go_wp2_with fail
  refine (zhJ _ (hexL l.length) _ (by rw [ze6 _ (by omega) (by omega),Int.toNat_natCast])).mono ?_;rintro e w1 ⟨rfl,hb1⟩;go_wp2_with fail
  refine (zjK l _ hl).mono ?_;rintro e w2 ⟨rfl,rfl⟩;go_wp2_with fail
  refine (zhJ _ (hexL (zbZ l).toNat) _ (ze6 _ (by omega) (by omega))).mono ?_;rintro e w3 ⟨rfl,hb3⟩;have h8:∀ n,(hexL n).length=8:=fun _=>rfl
  have hcat:=zc7;go_wp2;go_ret;exact ⟨zlM (by rw [HS.out];rfl),hb1.trans (hb3.mono hb1.size)⟩
theorem zoL (l:List UInt8) (w:World) (hl:l.length≤1048576) :
 Calls Tryz.prog 118 #[.string ⟨l.toArray⟩] w fun e w'=>e=.returned (.tuple #[.string ⟨(zax l).toArray⟩,.bool (zb1 l)])∧w'=w:=by
 have hext:=zd1;have htk:∀ u,List.take (l.length-u) (List.drop u l)=List.drop u l:=fun u=>List.take_of_length_le (by rw [List.length_drop];omega)
 by_cases h16:(l.length:Int)<16
 ·
  have HF:Hid (zax l=[]∧zcn l=0∧zb1 l=false):=zco l (by omega)
  go_enter Tryz.func118,Tryz.ntmps118
  go_wp2
  go_ret2
  exact ⟨zgr HF.out.1.symm HF.out.2.2.symm,rfl⟩
 ·
  obtain ⟨k,hk⟩:∃ k:Nat,zbg (l.take 8)=(k:Int):=Int.eq_ofNat_of_zero_le (ze8 (l.take 8)).1
  obtain ⟨h,hh⟩:∃ h:Int,zbg ((l.drop 8).take 8)=h:=⟨_,rfl⟩
  obtain ⟨one,hone⟩:∃ b:Bool,zc4 (l.take 8)=b:=⟨_,rfl⟩
  obtain ⟨two,htwo⟩:∃ b:Bool,zc4 ((l.drop 8).take 8)=b:=⟨_,rfl⟩
  have hkb:(k:Int)≤4294967295:=by rw [←hk];exact (ze8 (l.take 8)).2
  have HK:Hid (zbg (l.take 8)=(k:Int)):=hk;have HH:Hid (zbg ((l.drop 8).take 8)=h):=hh;have H1:Hid (zc4 (l.take 8)=one):=hone;have H2:Hid (zc4 ((l.drop 8).take 8)=two):=htwo;clear hk hh hone htwo;have hdl:(l.drop 16).length=l.length-16:=List.length_drop;obtain ⟨r,hr⟩:∃ r,l.drop 16=r:=⟨_,rfl⟩
  have hr16:=htk 16;rw [hr] at hr16;have HR:Hid (l.drop 16=r):=hr;have hrl:r.length=l.length-16:=by rw [←hr];exact hdl
  go_enter Tryz.func118,Tryz.ntmps118
  go_wp2_with fail
  refine (zfQ (l.take 8) k one _ HK.out H1.out).mono ?_;rintro e w1 ⟨rfl,rfl⟩;go_wp2_with fail
  refine (zfQ ((l.drop 8).take 8) h two _ HH.out H2.out).mono ?_;rintro e w2 ⟨rfl,rfl⟩;by_cases hall:one=true∧two=true∧(k:Int)≤20000∧16+(k:Int)≤(l.length:Int)
  ·
   obtain ⟨rfl,rfl,hk2,hk3⟩:=hall;have hk4:(k:Int)≤(r.length:Int):=by omega
   go_wp2_with fail
   refine (zjK (r.take k) _ (by have:=List.length_take_le k r;omega)).mono ?_;rintro e w3 ⟨rfl,rfl⟩;by_cases hq:zbZ (r.take k)=h
   ·
    have HF:Hid (zax l=r.take k∧zcn l=16+(k:Int)∧zb1 l=true):=by have:=zfA l (by rw [HK.out,HH.out,H1.out,H2.out,HR.out];exact ⟨by omega,rfl,rfl,hk2,hk3,by simpa using hq⟩);rw [HK.out,Int.toNat_natCast,HR.out] at this;exact this
    have hqb:(zbZ (r.take k) !=h)=false:=by rw [hq];simp
    clear hq;go_wp2
    go_ret2
    exact ⟨zgr HF.out.1.symm HF.out.2.2.symm,rfl⟩
   ·
    have HF:Hid (zax l=[]∧zcn l=0∧zb1 l=false):=zco l (by
     rw [HK.out,HH.out,H1.out,H2.out,HR.out];rintro ⟨_,_,_,_,_,a⟩;exact hq (by simpa using a))
    have hqb:(zbZ (r.take k) !=h)=true:=bne_iff_ne.2 hq;clear hq;go_wp2
    go_ret2
    exact ⟨zgr HF.out.1.symm HF.out.2.2.symm,rfl⟩
  ·
   have HF:Hid (zax l=[]∧zcn l=0∧zb1 l=false):=zco l (by
    rw [HK.out,HH.out,H1.out,H2.out];rintro ⟨_,a,b,c,d,_⟩;exact hall ⟨a,b,c,d⟩)
   rcases one with _ | _
   ·
    go_wp2
    go_ret2
    exact ⟨zgr HF.out.1.symm HF.out.2.2.symm,rfl⟩
   ·
    rcases two with _ | _
    ·
     go_wp2
     go_ret2
     exact ⟨zgr HF.out.1.symm HF.out.2.2.symm,rfl⟩
    ·
     by_cases hk2:20000<(k:Int)
     ·
      go_wp2
      go_ret2
      exact ⟨zgr HF.out.1.symm HF.out.2.2.symm,rfl⟩
     ·
      have hk3:(r.length:Int)<(k:Int):=by
       by_cases h1:(l.length:Int)<16+(k:Int)
       ·omega
       ·exact absurd ⟨rfl,rfl,by omega,by omega⟩ hall
      clear hall;go_wp2
      go_ret2
      exact ⟨zgr HF.out.1.symm HF.out.2.2.symm,rfl⟩
theorem zhK (l t:List UInt8) (b:Bool) (w:World) (hl:l.length≤1048576) (ht:zax l=t) (hb:zb1 l=b) :
 Calls Tryz.prog 118 #[.string ⟨l.toArray⟩] w fun e w'=>e=.returned (.tuple #[.string ⟨t.toArray⟩,.bool b])∧w'=w:=by
 subst ht hb;exact zoL l w hl
inductive Sh where
 | num (a:Int)
 | arg (a:Int)
 | pair (k:Int)
 | cond
 | call (p f:List UInt8) (a:Int)
 | no
def shOf (n:Nd):Sh :=
 if n.1=1 then .num n.2.1
 else if n.1=2 then .arg n.2.1
 else if 3≤n.1∧n.1≤6 then .pair n.1
 else if n.1=7 then .cond
 else if n.1=8 then .call n.2.2.1 n.2.2.2 n.2.1
 else .no
def zaN:Sh→Nd
 | .num a=>(1,a,[],[])
 | .arg a=>(2,a,[],[])
 | .pair k=>(k,0,[],[])
 | .cond=>(7,0,[],[])
 | .call p f a=>(8,a,p,f)
 | .no=>(0,0,[],[])
def shOk:Sh→Bool
 | .num a=>inB a (-2147483648) 2147483647
 | .arg a=>inB a 0 2
 | .pair _=>true
 | .cond=>true
 | .call p f a=>inB a 0 3 && (zaE p && zaE f)
 | .no=>false
def zlG:Sh→Int
 | .num _=>0
 | .arg _=>0
 | .pair _=>2
 | .cond=>3
 | .call _ _ a=>a
 | .no=>-1
theorem zdY (n:Nd):(n.1=1∧shOf n=.num n.2.1)∨(n.1=2∧shOf n=.arg n.2.1)∨((3≤n.1∧n.1≤6)∧shOf n=.pair n.1)∨(n.1=7∧shOf n=.cond)∨(n.1=8∧shOf n=.call n.2.2.1 n.2.2.2 n.2.1)∨((n.1<1∨8<n.1)∧shOf n=.no):=by
 by_cases h1:n.1=1
 ·exact Or.inl ⟨h1,if_pos h1⟩
 by_cases h2:n.1=2
 ·exact Or.inr (Or.inl ⟨h2,by unfold shOf;rw [if_neg h1,if_pos h2]⟩)
 by_cases h3:3≤n.1∧n.1≤6
 ·exact Or.inr (Or.inr (Or.inl ⟨h3,by unfold shOf;rw [if_neg h1,if_neg h2,if_pos h3]⟩))
 by_cases h7:n.1=7
 ·exact Or.inr (Or.inr (Or.inr (Or.inl ⟨h7,by unfold shOf;rw [if_neg h1,if_neg h2,if_neg h3,if_pos h7]⟩)))
 by_cases h8:n.1=8
 ·exact Or.inr (Or.inr (Or.inr (Or.inr (Or.inl ⟨h8,by unfold shOf;rw [if_neg h1,if_neg h2,if_neg h3,if_neg h7,if_pos h8]⟩))))
 ·exact Or.inr (Or.inr (Or.inr (Or.inr (Or.inr ⟨by omega,by unfold shOf;rw [if_neg h1,if_neg h2,if_neg h3,if_neg h7,if_neg h8]⟩))))
theorem zdt (n:Nd):zaM n=(shOk (shOf n) && decide (zaN (shOf n)=n)):=by
 rw [Bool.eq_iff_iff,zdL,Bool.and_eq_true,decide_eq_true_iff];obtain ⟨k,a,p,f⟩:=n;rcases zdY (k,a,p,f) with ⟨h,e⟩ | ⟨h,e⟩ | ⟨h,e⟩ | ⟨h,e⟩ | ⟨h,e⟩ | ⟨h,e⟩
 ·
  rw [e];simp only at h;subst h
  unfold zdu shOk zaN inB;simp [@eq_comm (List UInt8) [] p,@eq_comm (List UInt8) [] f]
 ·
  rw [e];simp only at h;subst h
  unfold zdu shOk zaN inB;simp [@eq_comm (List UInt8) [] p,@eq_comm (List UInt8) [] f]
 ·
  rw [e];simp only at h
  unfold zdu shOk zaN;simp only [Prod.mk.injEq,true_and];constructor
  ·
   rintro (⟨h1,_⟩ | ⟨h1,_⟩ | ⟨_,h2,h3,h4⟩ | ⟨h1,_⟩)
   ·omega
   ·omega
   ·exact ⟨h2.symm,h3.symm,h4.symm⟩
   ·omega
  ·rintro ⟨h2,h3,h4⟩;exact Or.inr (Or.inr (Or.inl ⟨by omega,h2.symm,h3.symm,h4.symm⟩))
 ·
  rw [e];simp only at h;subst h
  unfold zdu shOk zaN;simp [@eq_comm (List UInt8) [] p,@eq_comm (List UInt8) [] f,@eq_comm Int 0 a]
 ·
  rw [e];simp only at h;subst h
  unfold zdu shOk zaN inB;simp
 ·
  rw [e];simp only at h
  unfold zdu shOk zaN;simp;omega
theorem kids_sh {n:Nd} (h:zaM n=true):zlG (shOf n)=zbu n:=by
 unfold zbu;rcases zdY n with ⟨h,e⟩ | ⟨h,e⟩ | ⟨h,e⟩ | ⟨h,e⟩ | ⟨h,e⟩ | ⟨h1,e⟩
 ·rw [e,if_neg (by omega),if_neg (by omega),if_neg (by omega)];rfl
 ·rw [e,if_neg (by omega),if_neg (by omega),if_neg (by omega)];rfl
 ·rw [e,if_pos h];rfl
 ·rw [e,if_neg (by omega),if_pos h];rfl
 ·rw [e,if_neg (by omega),if_neg (by omega),if_pos h];rfl
 ·have:=zdL.1 h;unfold zdu at this;omega
theorem zme:∀ u:Nat,Lib.decDigits u=digL u:=by
 intro u
 induction u using Nat.strongRecOn with
 | ind u ih =>
  rw [Lib.decDigits,digL];by_cases h:u<10
  ·rw [dif_pos h,if_pos h];unfold zc6;rw [Nat.mod_eq_of_lt h]
  ·rw [dif_neg h,if_neg h,ih (u / 10) (by omega)];rfl
theorem zlY (a:Int):Lib.itoa a=intL a:=by
 unfold Lib.itoa intL
 split
 ·rw [zme]
 ·rw [zme];congr 1;omega
end Go.Proofs.YtponeoijfaepnaaGreatDoor
