/-
  Parts of one proof, one behind the other: TaskI2.
-/
import Derived.Test.YtponeoijfaepnaaGreatDoorP27
namespace Go.Proofs.YtponeoijfaepnaaGreatDoor
open Go.RowKit
set_option maxHeartbeats 2000000
set_option maxRecDepth 100000
theorem zlc (a:Option Addr) (len cap:Nat) (ts:List Ta) (ep nw:Int) (jr:List UInt8) (w:World) (hin:zat w a len ts) (hc:len≤cap) (hsh:za1 ts) (hlen:len≤1048576) :
 Calls Tryz.prog 17 #[.agg #[.slice a len cap,.int .i64 ep,.int .i64 nw,.string ⟨jr.toArray⟩]] w fun e w'=>e=.returned (.bool (zdC (ts,ep,nw,jr)))∧Below w.heap.size w w':=by
 obtain rfl:ts.length=len:=hin.1;obtain ⟨W,hW⟩:∃ W,w.alloc (.cells #[.slice a ts.length cap,.int .i64 ep,.int .i64 nw,.string ⟨jr.toArray⟩] 26)=W:=⟨_,rfl⟩
 have hbW:Below w.heap.size w W:=by rw [←hW];exact (Below.refl _ _).alloc (Nat.le_refl _) _
 have hA:W.heap[w.heap.size]?=some (.cells #[.slice a ts.length cap,.int .i64 ep,.int .i64 nw,.string ⟨jr.toArray⟩] 26):=by rw [←hW];exact heap_alloc_new w _
 have hsW:W.heap.size=w.heap.size+1:=by rw [←hW];simp
 have HT:Hid (_):=zbw a ts.length cap ts ep nw jr W (hin.below hbW) hc hsh hlen;have HI:Hid (∀ Z,Below W.heap.size W Z→zat Z a ts.length ts):=fun Z hz=>(hin.below hbW).below hz
 have HB:Hid (Below w.heap.size w W):=hbW;obtain ⟨D,hD⟩:∃ D,w.heap.size=D:=⟨_,rfl⟩
 rw [hD] at hA HB hsW ⊢;have HC:Hid (∀ Z,Below W.heap.size W Z→_):=fun Z hz=>(fourF hz (by omega) hA).1
 obtain ⟨k0,k1,k2,k3⟩:=HC.out W (Below.refl _ _);have HV:Hid (zdC (ts,ep,nw,jr)=(zac (ts,ep,nw,jr) && zg8 (ts,ep,nw,jr))):=rfl;have HN:Hid (∀ i,i<ts.length→(ts.getD i ta0).2.2.1≠2→zg8 (ts,ep,nw,jr)=false):=fun i hi h=>zm9 (d:=(ts,ep,nw,jr)) hi h
 have HY:Hid ((∀ i,i<ts.length→(ts.getD i ta0).2.2.1=2)→zg8 (ts,ep,nw,jr)=true):=fun h=>zk0 (d:=(ts,ep,nw,jr)) h
 generalize zdC (ts,ep,nw,jr)=res at HV ⊢;generalize zg8 (ts,ep,nw,jr)=b2 at HN HY HV;generalize zac (ts,ep,nw,jr)=b1 at HT HV;clear hin hsh hbW hA
 go_enter Tryz.func17,Tryz.ntmps17
 go_wp2_with fail
 refine Calls.mono HT.out ?_;rintro e w1 ⟨rfl,hb1⟩;rcases b1 with _ | _
 ·have HR:Hid (res=false):=HV.out;go_wp2;go_ret;exact ⟨by rw [HR.out];rfl,HB.out.trans (hb1.mono (by omega))⟩
 ·
  have HR:Hid (res=b2):=by exact (by rw [HV.out,Bool.true_and]:res=b2)
  have HB1:Hid (Below W.heap.size W w1):=hb1;clear k0 k1 k2 k3 hb1;obtain ⟨k0,-,-,-⟩:=HC.out w1 HB1.out;clear HT HV;go_wp2
  go_loopw [11] (fun iv wr=>∃ i:Nat,iv=.int .i64 (i:Int)∧i≤ts.length∧Hid (∀ q,q<i→(ts.getD q ta0).2.2.1=2)∧Hid (Below W.heap.size W wr)) (fun iv _=>ts.length-(intOf iv).toNat)
  case atStart=>exact ⟨0,rfl,by omega,(fun q hq=>by omega),HB1⟩
  case round =>
   obtain ⟨i,rfl,hi,HA,HBr⟩:=hrel;clear HB1 k0;by_cases hlt:(i:Int)<(ts.length:Int)
   ·
    obtain ⟨b,off,rfl,hbl,c0,⟨na,nc,c1,hn1⟩,c2,c3,c4,c5⟩:=(HI.out wr HBr.out).2 i (by omega);have HNo:Hid (_):=HN.out i (by omega)
    have hst:(ts.getD i ta0).2.2.1=2→∀ q,q<i+1→(ts.getD q ta0).2.2.1=2:=fun h q hq=>by
     rcases Nat.lt_or_ge q i with g | g
     ·exact HA.out q g
     ·
      obtain rfl:q=i:=by omega
      exact h
    obtain ⟨f,hf⟩:∃ f,ts.getD i ta0=f:=⟨_,rfl⟩
    rw [hf] at c0 c1 c2 c3 c4 c5 HNo hst;obtain ⟨nm,ns,st,wk,un,ke⟩:=f;simp only at c0 c1 c2 c3 c4 c5 HNo hst;obtain ⟨Y,hY⟩:∃ Y,wr.alloc (.cells #[.string ⟨nm.toArray⟩,.slice na ns.length nc,.int .i64 st,.int .i64 wk,.int .i64 un,.int .i64 ke] 42)=Y:=⟨_,rfl⟩
    have hb:Below wr.heap.size wr Y:=by rw [←hY];exact (Below.refl _ _).alloc (Nat.le_refl _) _
    have hsY:Y.heap.size=wr.heap.size+1:=by rw [←hY];simp
    have hR:Y.heap[wr.heap.size]?=some (.cells #[.string ⟨nm.toArray⟩,.slice na ns.length nc,.int .i64 st,.int .i64 wk,.int .i64 un,.int .i64 ke] 42):=by rw [←hY];exact heap_alloc_new wr _
    have HBY:Hid (Below W.heap.size W Y):=HBr.out.trans (hb.mono HBr.out.size);obtain ⟨⟨-,-,y2,-,-,-⟩,-⟩:=sixF (Below.refl _ Y) (by omega) hR;clear hf hn1 hb hR;by_cases h2:st=2
    ·
     have HA2:Hid (_):=hst h2;clear HNo hst HA;subst h2;go_wp2;go_roundw
     case rel=>exact ⟨i+1,by go_num,by omega,HA2,HBY⟩
     case measure=>simp [intOf];omega
    ·
     have HF:Hid (b2=false):=HNo.out h2;have h2b:(st !=2)=true:=by simp [h2]
     clear HNo hst HA;go_wp2;go_ret;exact ⟨by rw [HR.out,HF.out];rfl,HB.out.trans (HBY.out.mono (by omega))⟩
   ·have HF:Hid (b2=true):=HY.out (fun q hq=>HA.out q (by omega));clear HA HN HY;go_wp2;go_ret;exact ⟨by rw [HR.out,HF.out];rfl,HB.out.trans (HBr.out.mono (by omega))⟩
end Go.Proofs.YtponeoijfaepnaaGreatDoor
