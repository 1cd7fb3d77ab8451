/-
  Parts of one proof, one behind the other: TaskI.
-/
import Derived.Test.YtponeoijfaepnaaGreatDoorP26
namespace Go.Proofs.YtponeoijfaepnaaGreatDoor
open Go.RowKit
set_option maxHeartbeats 4000000
set_option maxRecDepth 100000
theorem zlb (n:Int) (w:World):Calls Tryz.prog 39 #[.int .i64 n] w fun e w'=>e=.returned (.bool (inB n 1 1000))∧w'=w:=by
 by_cases h0:1≤n
 ·
  by_cases h1:n≤1000
  ·
   have HR:Hid (inB n 1 1000=true):=by exact (by unfold inB;simp [h0,h1]:inB n 1 1000=true)
   go_enter Tryz.func39,Tryz.ntmps39
   go_wp2;go_ret;exact ⟨by rw [HR.out];rfl,rfl⟩
  ·
   have HR:Hid (inB n 1 1000=false):=by exact (by unfold inB;simp [h1]:inB n 1 1000=false)
   go_enter Tryz.func39,Tryz.ntmps39
   go_wp2;go_ret;exact ⟨by rw [HR.out];rfl,rfl⟩
 ·
  have HR:Hid (inB n 1 1000=false):=by exact (by unfold inB;simp [h0]:inB n 1 1000=false)
  go_enter Tryz.func39,Tryz.ntmps39
  go_wp2;go_ret;exact ⟨by rw [HR.out];rfl,rfl⟩
theorem zhI (n:Int) (w:World):Calls Tryz.prog 40 #[.int .i64 n] w fun e w'=>e=.returned (.bool (inB n 0 1000000))∧w'=w:=by
 by_cases h0:0≤n
 ·
  by_cases h1:n≤1000000
  ·
   have HR:Hid (inB n 0 1000000=true):=by exact (by unfold inB;simp [h0,h1]:inB n 0 1000000=true)
   go_enter Tryz.func40,Tryz.ntmps40
   go_wp2;go_ret;exact ⟨by rw [HR.out];rfl,rfl⟩
  ·
   have HR:Hid (inB n 0 1000000=false):=by exact (by unfold inB;simp [h1]:inB n 0 1000000=false)
   go_enter Tryz.func40,Tryz.ntmps40
   go_wp2;go_ret;exact ⟨by rw [HR.out];rfl,rfl⟩
 ·
  have HR:Hid (inB n 0 1000000=false):=by exact (by unfold inB;simp [h0]:inB n 0 1000000=false)
  go_enter Tryz.func40,Tryz.ntmps40
  go_wp2;go_ret;exact ⟨by rw [HR.out];rfl,rfl⟩
theorem zfO (n:Int) (w:World):Calls Tryz.prog 26 #[.int .i64 n] w fun e w'=>e=.returned (.bool (inB n 0 3))∧w'=w:=by
 by_cases h0:0≤n
 ·
  by_cases h1:n≤3
  ·
   have HR:Hid (inB n 0 3=true):=by exact (by unfold inB;simp [h0,h1]:inB n 0 3=true)
   go_enter Tryz.func26,Tryz.ntmps26
   go_wp2;go_ret;exact ⟨by rw [HR.out];rfl,rfl⟩
  ·
   have HR:Hid (inB n 0 3=false):=by exact (by unfold inB;simp [h1]:inB n 0 3=false)
   go_enter Tryz.func26,Tryz.ntmps26
   go_wp2;go_ret;exact ⟨by rw [HR.out];rfl,rfl⟩
 ·
  have HR:Hid (inB n 0 3=false):=by exact (by unfold inB;simp [h0]:inB n 0 3=false)
  go_enter Tryz.func26,Tryz.ntmps26
  go_wp2;go_ret;exact ⟨by rw [HR.out];rfl,rfl⟩
theorem zjI (n:Int) (w:World):Calls Tryz.prog 62 #[.int .i64 n] w fun e w'=>e=.returned (.bool (inB n 0 2147483646))∧w'=w:=by
 by_cases h0:0≤n
 ·
  by_cases h1:n≤2147483646
  ·
   have HR:Hid (inB n 0 2147483646=true):=by exact (by unfold inB;simp [h0,h1]:inB n 0 2147483646=true)
   go_enter Tryz.func62,Tryz.ntmps62
   go_wp2;go_ret;exact ⟨by rw [HR.out];rfl,rfl⟩
  ·
   have HR:Hid (inB n 0 2147483646=false):=by exact (by unfold inB;simp [h1]:inB n 0 2147483646=false)
   go_enter Tryz.func62,Tryz.ntmps62
   go_wp2;go_ret;exact ⟨by rw [HR.out];rfl,rfl⟩
 ·
  have HR:Hid (inB n 0 2147483646=false):=by exact (by unfold inB;simp [h0]:inB n 0 2147483646=false)
  go_enter Tryz.func62,Tryz.ntmps62
  go_wp2;go_ret;exact ⟨by rw [HR.out];rfl,rfl⟩
theorem zf6 (n:Nat) (w:World):Calls Tryz.prog 41 #[.int .i64 (n:Int)] w fun e w'=>e=.returned (.bool (decide (n≤60000)))∧w'=w:=by
 by_cases h:n≤60000
 ·
  have h2:(n:Int)≤60000:=by omega
  have HR:Hid (decide (n≤60000)=true):=decide_eq_true h;generalize decide (n≤60000)=res at HR ⊢
  go_enter Tryz.func41,Tryz.ntmps41
  go_wp2;go_ret;exact ⟨by rw [HR.out];rfl,rfl⟩
 ·
  have h2:¬(n:Int)≤60000:=by omega
  have HR:Hid (decide (n≤60000)=false):=decide_eq_false h;generalize decide (n≤60000)=res at HR ⊢
  go_enter Tryz.func41,Tryz.ntmps41
  go_wp2;go_ret;exact ⟨by rw [HR.out];rfl,rfl⟩
def zgG (ns:List Int) (k:Nat):Int:=if k=0 then -1 else ns.getD (k-1) 0
theorem zkL {own:Int} {ns:List Int} {k:Nat} (h:∀ q,q<k→zbl own ns q):zbl own ns k↔zgG ns k<ns.getD k 0∧ns.getD k 0<own:=by
 unfold zgG;rcases Nat.eq_zero_or_pos k with rfl | hk
 ·rw [if_pos rfl];unfold zbl;exact ⟨fun ⟨a,b,_⟩=>⟨by omega,b⟩,fun ⟨a,b⟩=>⟨by omega,b,fun h=>by omega⟩⟩
 ·rw [if_neg (by omega)];have hp:=(h (k-1) (by omega)).1;unfold zbl;exact ⟨fun ⟨_,b,c⟩=>⟨c hk,b⟩,fun ⟨a,b⟩=>⟨by omega,b,fun _=>a⟩⟩
theorem zl0 (a:Option Addr) (nc:Nat) (ns:List Int) (own:Int) (w:World) (hin:AsIn w a ns) (hlen:ns.length≤1048576) :
 Calls Tryz.prog 75 #[.slice a ns.length nc,.int .i64 own] w fun e w'=>e=.returned (.bool (zcL own ns))∧w'=w:=by
 have HI:Hid (AsIn w a ns):=hin;have HY:Hid ((∀ i,i<ns.length→zbl own ns i)→zcL own ns=true):=zfr;have HN:Hid (∀ i,i<ns.length→¬zbl own ns i→zcL own ns=false):=fun i hi h=>zjv hi h
 generalize zcL own ns=res at HY HN ⊢;clear hin
 go_enter Tryz.func75,Tryz.ntmps75
 go_wp2
 go_loopw [5,10] (fun lv iv wr=>∃ k:Nat,iv=.int .i64 (k:Int)∧lv=.int .i64 (zgG ns k)∧k≤ns.length∧Hid (∀ q,q<k→zbl own ns q)∧wr=w) (fun _ iv _=>ns.length-(intOf iv).toNat)
 case atStart=>exact ⟨0,rfl,rfl,Nat.zero_le _,fun q hq=>absurd hq (Nat.not_lt_zero _),rfl⟩
 case round =>
  obtain ⟨k,rfl,rfl,hk,HA,hwr⟩:=hrel;obtain rfl:=hwr.symm;by_cases hlt:(k:Int)<(ns.length:Int)
  ·
   obtain ⟨b,off,rfl,hbl,c0⟩:=HI.out k (by omega);have HS:Hid (_):=zkL HA.out;have HL:Hid (zgG ns (k+1)=ns.getD k 0):=by exact (by unfold zgG;rw [if_neg (by omega),Nat.add_sub_cancel]:zgG ns (k+1)=ns.getD k 0)
   obtain ⟨x,hx⟩:∃ x,ns.getD k 0=x:=⟨_,rfl⟩
   rw [hx] at c0 HS HL;generalize zgG ns k=l at HS ⊢;have HNo:Hid (_):=HN.out k (by omega);clear hx HN HY;by_cases h1:x≤l
   ·have HR:Hid (res=false):=HNo.out (fun h=>by have:=(HS.out.1 h).1;omega);clear HNo HS HL HA;go_wp2;go_ret;exact ⟨by rw [HR.out];rfl,rfl⟩
   ·
    by_cases h2:own≤x
    ·have HR:Hid (res=false):=HNo.out (fun h=>by have:=(HS.out.1 h).2;omega);clear HNo HS HL HA;go_wp2;go_ret;exact ⟨by rw [HR.out];rfl,rfl⟩
    ·
     have HA2:Hid (∀ q,q<k+1→zbl own ns q):=fun q hq=>by
      rcases Nat.lt_or_ge q k with g | g
      ·exact HA.out q g
      ·
       obtain rfl:q=k:=by omega
       exact HS.out.2 ⟨by omega,by omega⟩
     clear HNo HS HA;go_wp2;go_roundw
     case rel=>exact ⟨k+1,by go_num,by rw [HL.out],by omega,HA2,trivial⟩
     case measure=>simp [intOf];omega
  ·have HR:Hid (res=true):=HY.out (fun i hi=>HA.out i (by omega));clear HY HN HA;go_wp2;go_ret;exact ⟨by rw [HR.out];rfl,rfl⟩
theorem six18 {X W:World} {R:Nat} {u0 u1 u2 u3 u4 u5:Value} {T:TypeId} (hX:Below W.heap.size W X) (hlt:R<W.heap.size) (hR:W.heap[R]?=some (.cells #[u0,u1,u2,u3,u4,u5] T)) :
 X.cell? ⟨R,0,none⟩=some u0∧X.cell? ⟨R,1,none⟩=some u1∧X.cell? ⟨R,2,none⟩=some u2∧X.cell? ⟨R,3,none⟩=some u3∧X.cell? ⟨R,4,none⟩=some u4∧X.cell? ⟨R,5,none⟩=some u5:=by
 have e:=(hX.block R hlt).trans hR;clear hX hR;exact ⟨by simp [World.cell?,e],by simp [World.cell?,e],by simp [World.cell?,e],by simp [World.cell?,e],by simp [World.cell?,e],by simp [World.cell?,e]⟩
theorem zkU (nm:List UInt8) (na:Option Addr) (nl nc:Nat) (ns:List Int) (st wk un ke:Int) (w:World) :
 Calls Tryz.prog 76 #[.agg #[.string ⟨nm.toArray⟩,.slice na nl nc,.int .i64 st,.int .i64 wk,.int .i64 un,.int .i64 ke]] w fun e w'=>e=.returned (.bool (zcv (nm,ns,st,wk,un,ke)))∧Below w.heap.size w w':=by
 obtain ⟨W,hW⟩:∃ W,w.alloc (.cells #[.string ⟨nm.toArray⟩,.slice na nl nc,.int .i64 st,.int .i64 wk,.int .i64 un,.int .i64 ke] 42)=W:=⟨_,rfl⟩
 have hbW:Below w.heap.size w W:=by rw [←hW];exact (Below.refl _ _).alloc (Nat.le_refl _) _
 have hsW:W.heap.size=w.heap.size+1:=by rw [←hW];simp
 have hA:W.heap[w.heap.size]?=some (.cells #[.string ⟨nm.toArray⟩,.slice na nl nc,.int .i64 st,.int .i64 wk,.int .i64 un,.int .i64 ke] 42):=by rw [←hW];exact heap_alloc_new w _
 have HB:Hid (Below w.heap.size w W):=hbW;obtain ⟨D,hD⟩:∃ D,w.heap.size=D:=⟨_,rfl⟩
 rw [hD] at hA HB hsW ⊢;obtain ⟨-,-,k2,k3,k4,k5⟩:=six18 (Below.refl _ W) (by omega) hA;have HQ:Hid (zcv (nm,ns,st,wk,un,ke)=if st=0 then decide (wk=0∧un=0∧ke=0) else if st=1 then inB wk 0 3 && inB un 0 1000000 && decide (ke=0) else if st=2 then decide (wk=0∧un=0) && zbi ke else false):=rfl;generalize zcv (nm,ns,st,wk,un,ke)=res at HQ ⊢;clear hbW hA;by_cases h0:st=0
 ·
  subst h0;by_cases hw:wk=0
  ·
   subst hw;by_cases hu:un=0
   ·
    subst hu;by_cases hk:ke=0
    ·
     subst hk;have HR:Hid (res=true):=by exact (by rw [HQ.out];simp:res=true)
     clear HQ
     go_enter Tryz.func76,Tryz.ntmps76
     go_wp2;go_ret;exact ⟨by rw [HR.out];rfl,HB.out⟩
    ·
     have HR:Hid (res=false):=by exact (by rw [HQ.out];simp [hk]:res=false)
     have hkb:(ke==0)=false:=beq_eq_false_iff_ne.2 hk;clear HQ
     go_enter Tryz.func76,Tryz.ntmps76
     go_wp2;go_ret;exact ⟨by rw [HR.out];rfl,HB.out⟩
   ·
    have HR:Hid (res=false):=by exact (by rw [HQ.out];simp [hu]:res=false)
    have hub:(un==0)=false:=beq_eq_false_iff_ne.2 hu;clear HQ
    go_enter Tryz.func76,Tryz.ntmps76
    go_wp2;go_ret;exact ⟨by rw [HR.out];rfl,HB.out⟩
  ·
   have HR:Hid (res=false):=by exact (by rw [HQ.out];simp [hw]:res=false)
   have hwb:(wk==0)=false:=beq_eq_false_iff_ne.2 hw;clear HQ
   go_enter Tryz.func76,Tryz.ntmps76
   go_wp2;go_ret;exact ⟨by rw [HR.out];rfl,HB.out⟩
 ·
  have h0b:(st==0)=false:=beq_eq_false_iff_ne.2 h0;by_cases h1:st=1
  ·
   subst h1;have HW:Hid (_):=zfO wk W;have HU:Hid (_):=zhI un W;have HQ1:Hid (res=(inB wk 0 3 && inB un 0 1000000 && decide (ke=0))):=by exact (by rw [HQ.out];simp:res=(inB wk 0 3 && inB un 0 1000000 && decide (ke=0)))
   generalize inB wk 0 3=b1 at HW HQ1;generalize inB un 0 1000000=b2 at HU HQ1;clear HQ;rcases b1 with _ | _
   ·
    have HR:Hid (res=false):=HQ1.out
    go_enter Tryz.func76,Tryz.ntmps76
    go_wp2_with (go_at_call 26;refine Calls.mono HW.out ?_;rintro e w1 ⟨rfl,rfl⟩)
    go_ret;exact ⟨by rw [HR.out];rfl,HB.out⟩
   ·
    rcases b2 with _ | _
    ·
     have HR:Hid (res=false):=HQ1.out
     go_enter Tryz.func76,Tryz.ntmps76
     go_wp2_with (first | (go_at_call 26;refine Calls.mono HW.out ?_;rintro e w1 ⟨rfl,rfl⟩) | (go_at_call 40;refine Calls.mono HU.out ?_;rintro e w1 ⟨rfl,rfl⟩))
     go_ret;exact ⟨by rw [HR.out];rfl,HB.out⟩
    ·
     by_cases hk:ke=0
     ·
      subst hk;have HR:Hid (res=true):=by exact (by rw [HQ1.out];simp:res=true)
      go_enter Tryz.func76,Tryz.ntmps76
      go_wp2_with (first | (go_at_call 26;refine Calls.mono HW.out ?_;rintro e w1 ⟨rfl,rfl⟩) | (go_at_call 40;refine Calls.mono HU.out ?_;rintro e w1 ⟨rfl,rfl⟩))
      go_ret;exact ⟨by rw [HR.out];rfl,HB.out⟩
     ·
      have HR:Hid (res=false):=by exact (by rw [HQ1.out];simp [hk]:res=false)
      have hkb:(ke==0)=false:=beq_eq_false_iff_ne.2 hk
      go_enter Tryz.func76,Tryz.ntmps76
      go_wp2_with (first | (go_at_call 26;refine Calls.mono HW.out ?_;rintro e w1 ⟨rfl,rfl⟩) | (go_at_call 40;refine Calls.mono HU.out ?_;rintro e w1 ⟨rfl,rfl⟩))
      go_ret;exact ⟨by rw [HR.out];rfl,HB.out⟩
  ·
   have h1b:(st==1)=false:=beq_eq_false_iff_ne.2 h1;by_cases h2:st=2
   ·
    subst h2;by_cases hw:wk=0
    ·
     subst hw;by_cases hu:un=0
     ·
      subst hu;have HK:Hid (_):=zjI ke W;have HR:Hid (res=inB ke 0 2147483646):=by exact (by rw [HQ.out];unfold zbi;simp:res=inB ke 0 2147483646)
      generalize inB ke 0 2147483646=b at HK HR;clear HQ
      go_enter Tryz.func76,Tryz.ntmps76
      go_wp2_with (go_at_call 62;refine Calls.mono HK.out ?_;rintro e w1 ⟨rfl,rfl⟩)
      go_ret;exact ⟨by rw [HR.out];rfl,HB.out⟩
     ·
      have HR:Hid (res=false):=by exact (by rw [HQ.out];simp [hu]:res=false)
      have hub:(un==0)=false:=beq_eq_false_iff_ne.2 hu;clear HQ
      go_enter Tryz.func76,Tryz.ntmps76
      go_wp2;go_ret;exact ⟨by rw [HR.out];rfl,HB.out⟩
    ·
     have HR:Hid (res=false):=by exact (by rw [HQ.out];simp [hw]:res=false)
     have hwb:(wk==0)=false:=beq_eq_false_iff_ne.2 hw;clear HQ
     go_enter Tryz.func76,Tryz.ntmps76
     go_wp2;go_ret;exact ⟨by rw [HR.out];rfl,HB.out⟩
   ·
    have h2b:(st==2)=false:=beq_eq_false_iff_ne.2 h2;have HR:Hid (res=false):=by exact (by rw [HQ.out,if_neg h0,if_neg h1,if_neg h2]:res=false)
    clear HQ
    go_enter Tryz.func76,Tryz.ntmps76
    go_wp2;go_ret;exact ⟨by rw [HR.out];rfl,HB.out⟩
theorem implHas1 (x:List UInt8) (B:Nat) (nm:List UInt8) (na:Option Addr) (nl nc:Nat) (st wk un ke:Int) (w:World) (hB:w.cell? ⟨B,0,none⟩=some (.string ⟨x.toArray⟩)) :
 Calls Tryz.prog 100 #[.agg #[.string ⟨nm.toArray⟩,.slice na nl nc,.int .i64 st,.int .i64 wk,.int .i64 un,.int .i64 ke],.pointer (some ⟨B,0,none⟩)] w fun e w'=>e=.returned (.bool (decide (nm=x)))∧Below w.heap.size w w':=by
 obtain ⟨W,hW⟩:∃ W,w.alloc (.cells #[.string ⟨nm.toArray⟩,.slice na nl nc,.int .i64 st,.int .i64 wk,.int .i64 un,.int .i64 ke] 42)=W:=⟨_,rfl⟩
 have hbW:Below w.heap.size w W:=by rw [←hW];exact (Below.refl _ _).alloc (Nat.le_refl _) _
 have hsW:W.heap.size=w.heap.size+1:=by rw [←hW];simp
 have hA:W.heap[w.heap.size]?=some (.cells #[.string ⟨nm.toArray⟩,.slice na nl nc,.int .i64 st,.int .i64 wk,.int .i64 un,.int .i64 ke] 42):=by rw [←hW];exact heap_alloc_new w _
 have HB:Hid (Below w.heap.size w W):=hbW;have k9:W.cell? ⟨B,0,none⟩=some (.string ⟨x.toArray⟩):=(hbW.cell (p:=⟨B,0,none⟩) (World.block_lt_of_cell? w ⟨B,0,none⟩ hB)).trans hB;obtain ⟨D,hD⟩:∃ D,w.heap.size=D:=⟨_,rfl⟩
 rw [hD] at hA HB hsW ⊢;obtain ⟨k0,-,-,-,-,-⟩:=six18 (Below.refl _ W) (by omega) hA;have HR:Hid (decide (nm=x)=(nm==x)):=by exact (by rcases h:(nm==x) with _ | _<;>simp_all:decide (nm=x)=(nm==x))
 generalize decide (nm=x)=res at HR ⊢;clear hbW hA hB
 go_enter Tryz.func100,Tryz.ntmps100
 go_wp2;go_ret;exact ⟨by rw [HR.out];rfl,HB.out⟩
theorem zn7 (a:Option Addr) (len n c:Nat) (ts:List Ta) (x:List UInt8) (B:Nat) (w:World) (hin:zat w a len ts) (hn:n≤len) (hl:len≤1048576) (hB:w.cell? ⟨B,0,none⟩=some (.string ⟨x.toArray⟩)) :
 Calls Tryz.prog 121 #[.slice a n c,.func (.func 100) #[] #[.pointer (some ⟨B,0,none⟩)]] w fun e w'=>∃ y:Int,e=.returned (.int .i64 y)∧Hid (0≤y↔∃ k,k<n∧(ts.getD k ta0).1=x)∧Below w.heap.size w w':=by
 have HI:Hid (zat w a len ts):=hin;have hBl:=World.block_lt_of_cell? w ⟨B,0,none⟩ hB;have HB:Hid (∀ Z,Below w.heap.size w Z→Z.cell? ⟨B,0,none⟩=some (.string ⟨x.toArray⟩)):=fun Z hz=>(hz.cell (p:=⟨B,0,none⟩) hBl).trans hB
 have HB0:Hid (Below w.heap.size w w):=Below.refl _ _;clear hin hB hBl
 go_enter Tryz.func121,Tryz.ntmps121
 go_wp2
 go_loopw [8] (fun iv wr=>∃ k:Nat,iv=.int .i64 (k:Int)∧k≤n∧Hid (∀ i,i<k→(ts.getD i ta0).1≠x)∧Hid (Below w.heap.size w wr)) (fun iv _=>n-(intOf iv).toNat)
 case atStart=>exact ⟨0,rfl,Nat.zero_le _,fun i hi=>absurd hi (Nat.not_lt_zero _),HB0⟩
 case round =>
  obtain ⟨k,rfl,hk,HA,HBr⟩:=hrel;clear HB0;by_cases hlt:(k:Int)<(n:Int)
  ·
   obtain ⟨b,off,rfl,hbl,c0,⟨na,nc,c1,hn1⟩,c2,c3,c4,c5⟩:=(HI.out.below HBr.out).2 k (by omega);obtain ⟨f,hf⟩:∃ f,ts.getD k ta0=f:=⟨_,rfl⟩
   have HF:Hid ((ts.getD k ta0).1=f.1):=by exact (by rw [hf]:(ts.getD k ta0).1=f.1)
   rw [hf] at c0 c1 c2 c3 c4 c5;obtain ⟨nm,ns,st,wk,un,ke⟩:=f;simp only at c0 c1 c2 c3 c4 c5;have HC:Hid (_):=implHas1 x B nm na ns.length nc st wk un ke wr (HB.out _ HBr.out);clear hf hn1;by_cases hx:nm=x
   ·
    have HM:Hid (0≤(k:Int)↔∃ k,k<n∧(ts.getD k ta0).1=x):=⟨fun _=>⟨k,by omega,HF.out.trans hx⟩,fun _=>by omega⟩;rw [decide_eq_true hx] at HC;clear HA hx HF
    go_wp2_with (go_at_call 100;refine Calls.mono HC.out ?_;rintro e w1 ⟨rfl,hb1⟩)
    go_ret;exact ⟨_,rfl,HM,HBr.out.trans (hb1.mono HBr.out.size)⟩
   ·
    have HA2:Hid (∀ i,i<k+1→(ts.getD i ta0).1≠x):=fun i hi=>by
     rcases Nat.lt_or_ge i k with g | g
     ·exact HA.out i g
     ·
      obtain rfl:i=k:=by omega
      rw [HF.out];exact hx
    rw [decide_eq_false hx] at HC;clear HA hx HF
    go_wp2_with (go_at_call 100;refine Calls.mono HC.out ?_;rintro e w1 ⟨rfl,hb1⟩)
    go_roundw
    case rel=>exact ⟨k+1,by go_num,by omega,HA2,HBr.out.trans (hb1.mono HBr.out.size)⟩
    case measure=>simp [intOf];omega
  ·have HM:Hid (0≤(-1:Int)↔∃ k,k<n∧(ts.getD k ta0).1=x):=⟨fun h=>by omega,fun ⟨i,hi,e⟩=>absurd e (HA.out i (by omega))⟩;clear HA;go_wp2;go_ret;exact ⟨_,rfl,HM,HBr.out⟩
def zlg (ts:List Ta) (n:Nat) (x:List UInt8):Bool:=decide (∃ k,k<n∧(ts.getD k ta0).1=x)
theorem zl4 (a:Option Addr) (len n c:Nat) (ts:List Ta) (x:List UInt8) (w:World) (hin:zat w a len ts) (hn:n≤len) (hl:len≤1048576) :
 Calls Tryz.prog 74 #[.slice a n c,.string ⟨x.toArray⟩] w fun e w'=>e=.returned (.bool (zlg ts n x))∧Below w.heap.size w w':=by
 obtain ⟨W,hW⟩:∃ W,w.alloc (.cells #[.string ⟨x.toArray⟩] 9)=W:=⟨_,rfl⟩
 have hbW:Below w.heap.size w W:=by rw [←hW];exact (Below.refl _ _).alloc (Nat.le_refl _) _
 have hA:W.heap[w.heap.size]?=some (.cells #[.string ⟨x.toArray⟩] 9):=by rw [←hW];exact heap_alloc_new w _
 have hsW:W.heap.size=w.heap.size+1:=by rw [←hW];simp
 have HB:Hid (Below w.heap.size w W):=hbW;obtain ⟨D,hD⟩:∃ D,w.heap.size=D:=⟨_,rfl⟩
 rw [hD] at hA HB hsW ⊢;have k0:W.cell? ⟨D,0,none⟩=some (.string ⟨x.toArray⟩):=by simp [World.cell?,hA]
 have HC:Hid (_):=zn7 a len n c ts x D W (hin.below hbW) hn hl k0;have HR:Hid (∀ y:Int,(0≤y↔∃ k,k<n∧(ts.getD k ta0).1=x)→zlg ts n x=decide (0≤y)):=fun y h=>by unfold zlg;exact (decide_eq_decide.2 h).symm
 generalize zlg ts n x=res at HR ⊢;clear hin hbW hA k0
 have HX:Hid (Calls Tryz.prog 99 #[.slice a n c,.func (.func 100) #[] #[.pointer (some ⟨D,0,none⟩)]] W fun e w'=>e=.returned (.bool res)∧Below W.heap.size W w'):=by
  show Calls _ _ _ _ _
  go_enter Tryz.func99,Tryz.ntmps99
  go_wp2_with fail
  refine Calls.mono HC.out ?_;rintro e w1 ⟨y,rfl,hy,hb1⟩;have HR2:Hid (res=decide (0≤y)):=HR.out y hy.out;clear hy;go_wp2;go_ret;exact ⟨by rw [HR2.out];rfl,hb1⟩
 go_enter Tryz.func74,Tryz.ntmps74
 go_wp2_with fail
 refine Calls.mono HX.out ?_;rintro e w1 ⟨rfl,hb1⟩;go_wp2;go_ret;exact ⟨rfl,HB.out.trans (hb1.mono (by omega))⟩
def zcW (ts:List Ta):Bool:=decide (1≤ts.length∧ts.length≤8) && decide (∀ i,i<ts.length→zcA ts i)
theorem zmr {ts:List Ta} (h:¬(1≤ts.length∧ts.length≤8)):zcW ts=false:=by unfold zcW;rw [decide_eq_false h];rfl
theorem znD {ts:List Ta} {i:Nat} (hi:i<ts.length) (h:¬zcA ts i):zcW ts=false:=by
 unfold zcW;rw [decide_eq_false (p:=∀ i,i<ts.length→zcA ts i) (fun k=>h (k i hi)),Bool.and_false]
theorem zmq {ts:List Ta} (h1:1≤ts.length∧ts.length≤8) (h:∀ i,i<ts.length→zcA ts i):zcW ts=true:=by
 unfold zcW;rw [decide_eq_true h1,decide_eq_true h]
 rfl
theorem deskB_eq (ts:List Ta) (e n:Int) (j:List UInt8):zac (ts,e,n,j)=(((zcW ts && inB e 1 1000) && inB n 0 1000000) && decide (j.length≤60000)):=by
 rw [Bool.eq_iff_iff,zao];unfold zcW inB;simp only [Bool.and_eq_true,decide_eq_true_eq];exact ⟨fun h=>⟨⟨⟨⟨h.n,h.one⟩,h.e⟩,h.t⟩,h.j⟩,fun ⟨⟨⟨⟨h1,h2⟩,h3⟩,h4⟩,h5⟩=>⟨h1,h3,h4,h5,h2⟩⟩
theorem one18_of {ts:List Ta} {i:Nat} {nm:List UInt8} {ns:List Int} {st wk un ke:Int} (hx:ts.getD i ta0=(nm,ns,st,wk,un,ke)) :
 zcA ts i↔zaE nm=true∧zlg ts i nm=false∧zcL i ns=true∧zcv (nm,ns,st,wk,un,ke)=true:=by
 unfold zcA zlg zc1;rw [hx,Bool.and_eq_true,decide_eq_false_iff_not];exact ⟨fun ⟨a,⟨b,c⟩,d⟩=>⟨a,fun ⟨k,hk,e⟩=>d k hk e,b,c⟩,fun ⟨a,d,b,c⟩=>⟨a,⟨b,c⟩,fun k hk e=>d ⟨k,hk,e⟩⟩⟩
theorem zkS (a:Option Addr) (len cap:Nat) (ts:List Ta) (w:World) (h:zat w a len ts) (hc:len≤cap) (hs:za1 ts) (hlen:len≤1048576) :
 Calls Tryz.prog 38 #[.slice a len cap] w fun e w'=>e=.returned (.bool (zcW ts))∧Below w.heap.size w w':=by
 obtain rfl:ts.length=len:=h.1;have HI:Hid (zat w a ts.length ts):=h;have HSh:Hid (za1 ts):=hs;have HFew:Hid (¬(1≤ts.length∧ts.length≤8)→zcW ts=false):=zmr;have HNo:Hid (∀ k,k<ts.length→¬zcA ts k→zcW ts=false):=fun k hk e=>znD hk e
 have HAll:Hid (1≤ts.length∧ts.length≤8→(∀ i,i<ts.length→zcA ts i)→zcW ts=true):=zmq;have HB0:Hid (Below w.heap.size w w):=Below.refl _ w;obtain ⟨n,hnn⟩:∃ n,ts.length=n:=⟨_,rfl⟩
 have HN:Hid (ts.length=n):=hnn;rw [hnn] at HI HFew HNo HAll hlen hc ⊢;generalize zcW ts=res at HFew HNo HAll ⊢;clear h hnn hs;by_cases h1:(n:Int)<1
 ·
  have HR:Hid (res=false):=HFew.out (by omega)
  go_enter Tryz.func38,Tryz.ntmps38
  go_wp2;go_ret;exact ⟨by rw [HR.out];rfl,HB0.out⟩
 by_cases h2:8<(n:Int)
 ·
  have HR:Hid (res=false):=HFew.out (by omega)
  go_enter Tryz.func38,Tryz.ntmps38
  go_wp2;go_ret;exact ⟨by rw [HR.out];rfl,HB0.out⟩
 have HL:Hid (1≤n∧n≤8):=⟨by omega,by omega⟩
 go_enter Tryz.func38,Tryz.ntmps38
 go_wp2
 go_loopw [15] (fun iv wr=>∃ k:Nat,iv=.int .i64 (k:Int)∧k≤n∧Hid (∀ q,q<k→zcA ts q)∧Hid (Below w.heap.size w wr)) (fun iv _=>n-(intOf iv).toNat)
 case atStart=>exact ⟨0,rfl,Nat.zero_le _,fun q hq=>absurd hq (Nat.not_lt_zero _),HB0⟩
 case round =>
  obtain ⟨k,rfl,hk,HA,HB⟩:=hrel;clear HB0;by_cases hlt:(k:Int)<(n:Int)
  ·
   have hIr:=HI.out.below HB.out;obtain ⟨b,off,rfl,hbl,c0,⟨na,nc,c1,hn1⟩,c2,c3,c4,c5⟩:=hIr.2 k (by omega);have hsh:=HSh.out k;have hno:=HNo.out k (by omega)
   have hfull:zcA ts k→∀ q,q<k+1→zcA ts q:=fun h q hq=>by
    rcases Nat.lt_or_ge q k with g | g
    ·exact HA.out q g
    ·
     obtain rfl:q=k:=by omega
     exact h
   obtain ⟨f,hf⟩:∃ f,ts.getD k ta0=f:=⟨_,rfl⟩
   rw [hf] at c0 c1 c2 c3 c4 c5 hsh hn1;obtain ⟨nm,ns,st,wk,un,ke⟩:=f;simp only at c0 c1 c2 c3 c4 c5 hsh hn1;have h18:=one18_of hf;obtain ⟨Y,hY⟩:∃ Y,wr.alloc (.cells #[.string ⟨nm.toArray⟩,.slice na ns.length nc,.int .i64 st,.int .i64 wk,.int .i64 un,.int .i64 ke] 42)=Y:=⟨_,rfl⟩
   have hb:Below wr.heap.size wr Y:=by rw [←hY];exact (Below.refl _ _).alloc (Nat.le_refl _) _
   have hsY:Y.heap.size=wr.heap.size+1:=by rw [←hY];simp
   have hR:Y.heap[wr.heap.size]?=some (.cells #[.string ⟨nm.toArray⟩,.slice na ns.length nc,.int .i64 st,.int .i64 wk,.int .i64 un,.int .i64 ke] 42):=by rw [←hY];exact heap_alloc_new wr _
   have HBY:Hid (Below w.heap.size w Y):=HB.out.trans (hb.mono HB.out.size);obtain ⟨E,hE⟩:∃ E,wr.heap.size=E:=⟨_,rfl⟩
   have HHas:Hid (∀ Z,Below Y.heap.size Y Z→_):=fun Z hz=>zl4 (some ⟨b,off,none⟩) n k cap ts nm Z ((hIr.below hb).below hz) (by omega) hlen
   have HNe:Hid (∀ Z,Below Y.heap.size Y Z→_):=fun Z hz=>zl0 na nc ns k Z ((hn1.below hb).below hz) hsh.2
   have HSt:Hid (∀ Z,_):=fun Z=>zkU nm na ns.length nc ns st wk un ke Z
   have HNm:Hid (∀ Z,_):=fun Z=>zbV nm Z hsh.1
   rw [hE] at hR hsY;have HY6:Hid (∀ Z,Below Y.heap.size Y Z→_):=fun Z hz=>six18 hz (by omega) hR
   have HdY:Hid (Below Y.heap.size Y Y.drew):=⟨rfl,rfl,rfl,Nat.le_refl _,fun _ _=>rfl⟩;obtain ⟨y0,y1,y2,y3,y4,y5⟩:=six18 (Below.refl _ Y) (by omega) hR;generalize zaE nm=b1 at HNm h18;generalize zlg ts k nm=b2 at HHas h18;generalize zcL k ns=b3 at HNe h18;generalize zcv (nm,ns,st,wk,un,ke)=b4 at HSt h18;clear hf hn1 hsh hb hIr hR;rcases b1 with _ | _
   ·
    have HR:Hid (res=false):=hno (fun h=>by cases (h18.1 h).1);clear hno hfull h18 HA HSt HNe HHas;go_wp2;refine wp_region_held_drew (S:=(fun Z=>Z.cell? ⟨E,0,none⟩=some (.string ⟨nm.toArray⟩)∧Z.cell? ⟨E,1,none⟩=some (.slice na ns.length nc)∧Z.cell? ⟨E,2,none⟩=some (.int .i64 st)∧Z.cell? ⟨E,3,none⟩=some (.int .i64 wk)∧Z.cell? ⟨E,4,none⟩=some (.int .i64 un)∧Z.cell? ⟨E,5,none⟩=some (.int .i64 ke))) (by kernel_rfl) ?_ (fun hHeld=>?_)
    ·exact ⟨y0,y1,y2,y3,y4,y5⟩
    refine tkO [(0,20),(1,21)] ?_
    repeat (refine tkY ?_ rfl (by rfl) ?_ ?_;rotate_left;(focus (intro wq hSw;(try dsimp only at hSw);first | (go_simp;done) | (go_simp;with_reducible rfl)));simp only [zP])
    refine tkZ ?_;refine zR 2 rfl (fun K hK=>?_);go_simp
    (go_at_call 73;refine Calls.mono (HNm.out _) ?_;rintro e wn ⟨rfl,rfl⟩)
    refine hK.out _ _ ?_ (fun hHeld=>?_)
    ·exact ⟨y0,y1,y2,y3,y4,y5⟩
    clear hK K;refine tkO [(3,23),(4,24),(5,25),(6,26),(7,27),(8,28),(9,29),(10,30),(11,31)] ?_
    repeat ((first | (refine tkY ?_ rfl (by rfl) ?_ ?_;rotate_left;(focus (intro wq hSw;(try dsimp only at hSw);first | (go_simp;done) | (go_simp;with_reducible rfl)))) | refine tkN rfl (by rfl) ?_);simp only [zP])
    refine tkZ ?_;refine wpAnyH_done (by kernel_rfl) ?_ _;go_wp2;go_ret;exact ⟨by rw [HR.out];rfl,HBY.out.trans (HdY.out.mono HBY.out.size)⟩
   ·
    rcases b2 with _ | _
    rotate_left
    ·
     have HR:Hid (res=false):=hno (fun h=>by cases (h18.1 h).2.1);clear hno hfull h18 HA HSt HNe;go_wp2;refine wp_region_held_drew (S:=(fun Z=>Z.cell? ⟨E,0,none⟩=some (.string ⟨nm.toArray⟩)∧Z.cell? ⟨E,1,none⟩=some (.slice na ns.length nc)∧Z.cell? ⟨E,2,none⟩=some (.int .i64 st)∧Z.cell? ⟨E,3,none⟩=some (.int .i64 wk)∧Z.cell? ⟨E,4,none⟩=some (.int .i64 un)∧Z.cell? ⟨E,5,none⟩=some (.int .i64 ke))) (by kernel_rfl) ?_ (fun hHeld=>?_)
     ·exact ⟨y0,y1,y2,y3,y4,y5⟩
     refine tkO [(0,20),(1,21)] ?_
     repeat (refine tkY ?_ rfl (by rfl) ?_ ?_;rotate_left;(focus (intro wq hSw;(try dsimp only at hSw);first | (go_simp;done) | (go_simp;with_reducible rfl)));simp only [zP])
     refine tkZ ?_;refine zR 2 rfl (fun K hK=>?_);go_simp
     (go_at_call 73;refine Calls.mono (HNm.out _) ?_;rintro e wn ⟨rfl,rfl⟩)
     refine hK.out _ _ ?_ (fun hHeld=>?_)
     ·exact ⟨y0,y1,y2,y3,y4,y5⟩
     clear hK K;refine tkO [(3,23),(4,24)] ?_
     repeat (refine tkY ?_ rfl (by rfl) ?_ ?_;rotate_left;(focus (intro wq hSw;(try dsimp only at hSw);first | (go_simp;done) | (go_simp;with_reducible rfl)));simp only [zP])
     refine tkZ ?_;refine tkO [(5,25),(6,26),(7,27),(8,28),(9,29)] ?_
     repeat (refine tkY ?_ rfl (by rfl) ?_ ?_;rotate_left;(focus (intro wq hSw;(try dsimp only at hSw);first | (go_simp;done) | (go_simp;with_reducible rfl) | (go_simp;rw [if_pos (by omega)])));simp only [zP])
     refine tkZ ?_;refine zR 10 rfl (fun K hK=>?_);go_simp
     (go_at_call 74;refine Calls.mono (HHas.out _ HdY.out) ?_;rintro e w2 ⟨rfl,hb2⟩;obtain ⟨y0,y1,y2,y3,y4,y5⟩:=HY6.out w2 (HdY.out.trans (hb2.mono HdY.out.size)))
     refine hK.out _ _ ?_ (fun hHeld=>?_)
     ·exact ⟨y0,y1,y2,y3,y4,y5⟩
     clear hK K;refine tkO [(11,31)] ?_
     repeat (refine tkY ?_ rfl (by rfl) ?_ ?_;rotate_left;(focus (intro wq hSw;(try dsimp only at hSw);first | (go_simp;done) | (go_simp;with_reducible rfl)));simp only [zP])
     refine tkZ ?_;refine wpAnyH_done (by kernel_rfl) ?_ _;have HB2:Hid (Below w.heap.size w w2):=HBY.out.trans ((HdY.out.trans (hb2.mono HdY.out.size)).mono HBY.out.size);go_wp2;go_ret;exact ⟨by rw [HR.out];rfl,HB2.out⟩
    ·
     go_wp2;refine wp_region_held_drew (S:=(fun Z=>Z.cell? ⟨E,0,none⟩=some (.string ⟨nm.toArray⟩)∧Z.cell? ⟨E,1,none⟩=some (.slice na ns.length nc)∧Z.cell? ⟨E,2,none⟩=some (.int .i64 st)∧Z.cell? ⟨E,3,none⟩=some (.int .i64 wk)∧Z.cell? ⟨E,4,none⟩=some (.int .i64 un)∧Z.cell? ⟨E,5,none⟩=some (.int .i64 ke))) (by kernel_rfl) ?_ (fun hHeld=>?_)
     ·exact ⟨y0,y1,y2,y3,y4,y5⟩
     refine tkO [(0,20),(1,21)] ?_
     repeat (refine tkY ?_ rfl (by rfl) ?_ ?_;rotate_left;(focus (intro wq hSw;(try dsimp only at hSw);first | (go_simp;done) | (go_simp;with_reducible rfl)));simp only [zP])
     refine tkZ ?_;refine zR 2 rfl (fun K hK=>?_);go_simp
     (go_at_call 73;refine Calls.mono (HNm.out _) ?_;rintro e wn ⟨rfl,rfl⟩)
     refine hK.out _ _ ?_ (fun hHeld=>?_)
     ·exact ⟨y0,y1,y2,y3,y4,y5⟩
     clear hK K;refine tkO [(3,23),(4,24)] ?_
     repeat (refine tkY ?_ rfl (by rfl) ?_ ?_;rotate_left;(focus (intro wq hSw;(try dsimp only at hSw);first | (go_simp;done) | (go_simp;with_reducible rfl)));simp only [zP])
     refine tkZ ?_;refine tkO [(5,25),(6,26),(7,27),(8,28),(9,29)] ?_
     repeat (refine tkY ?_ rfl (by rfl) ?_ ?_;rotate_left;(focus (intro wq hSw;(try dsimp only at hSw);first | (go_simp;done) | (go_simp;with_reducible rfl) | (go_simp;rw [if_pos (by omega)])));simp only [zP])
     refine tkZ ?_;refine zR 10 rfl (fun K hK=>?_);go_simp
     (go_at_call 74;refine Calls.mono (HHas.out _ HdY.out) ?_;rintro e w2 ⟨rfl,hb2⟩;obtain ⟨y0,y1,y2,y3,y4,y5⟩:=HY6.out w2 (HdY.out.trans (hb2.mono HdY.out.size)))
     refine hK.out _ _ ?_ (fun hHeld=>?_)
     ·exact ⟨y0,y1,y2,y3,y4,y5⟩
     clear hK K;refine tkO [(11,31)] ?_
     repeat (refine tkY ?_ rfl (by rfl) ?_ ?_;rotate_left;(focus (intro wq hSw;(try dsimp only at hSw);first | (go_simp;done) | (go_simp;with_reducible rfl)));simp only [zP])
     refine tkZ ?_;refine wpAnyH_done (by kernel_rfl) ?_ _;have HD2:Hid (Below Y.heap.size Y w2):=HdY.out.trans (hb2.mono HdY.out.size);clear hb2;rcases b3 with _ | _
     ·
      have HR:Hid (res=false):=hno (fun h=>by cases (h18.1 h).2.2.1);clear hno hfull h18 HA HSt HHas HNm
      go_wp2_with (go_at_call 75;refine Calls.mono (HNe.out _ HD2.out) ?_;rintro e w3 ⟨rfl,rfl⟩)
      go_ret;exact ⟨by rw [HR.out];rfl,HBY.out.trans (HD2.out.mono HBY.out.size)⟩
     ·
      rcases b4 with _ | _
      ·
       have HR:Hid (res=false):=hno (fun h=>by cases (h18.1 h).2.2.2);clear hno hfull h18 HA HHas HNm
       go_wp2_with (first | (go_at_call 75;refine Calls.mono (HNe.out _ HD2.out) ?_;rintro e w3 ⟨rfl,rfl⟩) | (go_at_call 76;refine Calls.mono (HSt.out _) ?_;rintro e w4 ⟨rfl,hb4⟩))
       go_ret;exact ⟨by rw [HR.out];rfl,HBY.out.trans ((HD2.out.trans (hb4.mono HD2.out.size)).mono HBY.out.size)⟩
      ·
       have HA2:Hid (∀ q,q<k+1→zcA ts q):=hfull (h18.2 (by simp));clear hno hfull h18 HA HHas HNm
       go_wp2_with (first | (go_at_call 75;refine Calls.mono (HNe.out _ HD2.out) ?_;rintro e w3 ⟨rfl,rfl⟩) | (go_at_call 76;refine Calls.mono (HSt.out _) ?_;rintro e w4 ⟨rfl,hb4⟩))
       have HB4:Hid (Below w.heap.size w w4):=HBY.out.trans ((HD2.out.trans (hb4.mono HD2.out.size)).mono HBY.out.size);clear hb4;go_roundw
       case rel=>exact ⟨k+1,by go_num,by omega,HA2,HB4⟩
       case measure=>simp [intOf];omega
  ·
   obtain rfl:k=n:=by omega
   have HR:Hid (res=true):=HAll.out HL.out HA.out;clear HNo HFew HAll HA;go_wp2;go_ret;exact ⟨by rw [HR.out];rfl,HB.out⟩
theorem zbw (a:Option Addr) (len cap:Nat) (ts:List Ta) (ep nw:Int) (jr:List UInt8) (w:World) (hin:zat w a len ts) (hc:len≤cap) (hsh:za1 ts) (hlen:len≤1048576) :
 Calls Tryz.prog 15 #[.agg #[.slice a len cap,.int .i64 ep,.int .i64 nw,.string ⟨jr.toArray⟩]] w fun e w'=>e=.returned (.bool (zac (ts,ep,nw,jr)))∧Below w.heap.size w w':=by
 obtain ⟨W,hW⟩:∃ W,w.alloc (.cells #[.slice a len cap,.int .i64 ep,.int .i64 nw,.string ⟨jr.toArray⟩] 26)=W:=⟨_,rfl⟩
 have hbW:Below w.heap.size w W:=by rw [←hW];exact (Below.refl _ _).alloc (Nat.le_refl _) _
 have hA:W.heap[w.heap.size]?=some (.cells #[.slice a len cap,.int .i64 ep,.int .i64 nw,.string ⟨jr.toArray⟩] 26):=by rw [←hW];exact heap_alloc_new w _
 have hsW:W.heap.size=w.heap.size+1:=by rw [←hW];simp
 have HT:Hid (_):=zkS a len cap ts W (hin.below hbW) hc hsh hlen;have HE:Hid (∀ Z,_):=fun Z=>zlb ep Z
 have HM:Hid (∀ Z,_):=fun Z=>zhI nw Z
 have HJ:Hid (∀ Z,_):=fun Z=>zf6 jr.length Z
 have HB:Hid (Below w.heap.size w W):=hbW;obtain ⟨D,hD⟩:∃ D,w.heap.size=D:=⟨_,rfl⟩
 rw [hD] at hA HB hsW ⊢
 have HC:Hid (∀ Z,Below W.heap.size W Z→Z.cell? ⟨D,0,none⟩=some (.slice a len cap)∧Z.cell? ⟨D,1,none⟩=some (.int .i64 ep)∧Z.cell? ⟨D,2,none⟩=some (.int .i64 nw)∧Z.cell? ⟨D,3,none⟩=some (.string ⟨jr.toArray⟩)):=fun Z hz=>by
  have e:=(hz.block D (by omega)).trans hA;exact ⟨by simp [World.cell?,e],by simp [World.cell?,e],by simp [World.cell?,e],by simp [World.cell?,e]⟩
 obtain ⟨k0,-,-,-⟩:=HC.out W (Below.refl _ _);have HQ:Hid (_):=deskB_eq ts ep nw jr;generalize zac (ts,ep,nw,jr)=res at HQ ⊢;generalize zcW ts=b1 at HQ HT;generalize inB ep 1 1000=b2 at HQ HE;generalize inB nw 0 1000000=b3 at HQ HM;generalize decide (jr.length≤60000)=b4 at HQ HJ;clear hin hsh hbW hA
 go_enter Tryz.func15,Tryz.ntmps15
 go_wp2_with fail
 refine Calls.mono HT.out ?_;rintro e w1 ⟨rfl,hb1⟩;obtain ⟨-,k1,k2,k3⟩:=HC.out w1 hb1;have HB1:Hid (Below D w w1):=HB.out.trans (hb1.mono (by omega));clear hb1 k0;rcases b1 with _ | _
 ·have HR:Hid (res=false):=HQ.out;go_wp2;go_ret;exact ⟨by rw [HR.out];rfl,HB1.out⟩
 rcases b2 with _ | _
 ·
  have HR:Hid (res=false):=HQ.out
  go_wp2_with (go_at_call 39;refine Calls.mono (HE.out _) ?_;rintro e wn ⟨rfl,rfl⟩)
  go_ret;exact ⟨by rw [HR.out];rfl,HB1.out⟩
 rcases b3 with _ | _
 ·
  have HR:Hid (res=false):=HQ.out
  go_wp2_with (first | (go_at_call 39;refine Calls.mono (HE.out _) ?_;rintro e wn ⟨rfl,rfl⟩) | (go_at_call 40;refine Calls.mono (HM.out _) ?_;rintro e wn ⟨rfl,rfl⟩))
  go_ret;exact ⟨by rw [HR.out];rfl,HB1.out⟩
 ·
  have HR:Hid (res=b4):=HQ.out
  go_wp2_with (first | (go_at_call 39;refine Calls.mono (HE.out _) ?_;rintro e wn ⟨rfl,rfl⟩) | (go_at_call 40;refine Calls.mono (HM.out _) ?_;rintro e wn ⟨rfl,rfl⟩) | (go_at_call 41;refine Calls.mono (HJ.out _) ?_;rintro e wn ⟨rfl,rfl⟩))
  go_ret;exact ⟨by rw [HR.out];rfl,HB1.out⟩
end Go.Proofs.YtponeoijfaepnaaGreatDoor
