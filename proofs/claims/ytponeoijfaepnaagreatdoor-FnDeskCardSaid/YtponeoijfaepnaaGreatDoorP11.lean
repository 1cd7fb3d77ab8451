/-
  Parts of one proof, one behind the other: TaskS2, RtU, TkO, TkL, TkT, TkB.
-/
import Derived.Test.YtponeoijfaepnaaGreatDoorP10
namespace Go.Proofs.YtponeoijfaepnaaGreatDoor
open Go.RowKit
set_option maxHeartbeats 4000000
set_option maxRecDepth 100000
def zat (w:World) (a:Option Addr) (len:Nat) (ts:List Ta):Prop :=
 ts.length=len∧∀ j,j<len→∃ b off,a=some ⟨b,off,none⟩∧b<w.heap.size∧w.cell? ⟨b,off+j*6,none⟩=some (.string ⟨(ts.getD j ta0).1.toArray⟩) ∧
  (∃ na nc,w.cell? ⟨b,off+j*6+1,none⟩=some (.slice na (ts.getD j ta0).2.1.length nc)∧AsIn w na (ts.getD j ta0).2.1) ∧
  w.cell? ⟨b,off+j*6+2,none⟩=some (.int .i64 (ts.getD j ta0).2.2.1)∧w.cell? ⟨b,off+j*6+3,none⟩=some (.int .i64 (ts.getD j ta0).2.2.2.1) ∧
  w.cell? ⟨b,off+j*6+4,none⟩=some (.int .i64 (ts.getD j ta0).2.2.2.2.1)∧w.cell? ⟨b,off+j*6+5,none⟩=some (.int .i64 (ts.getD j ta0).2.2.2.2.2)
theorem zat.below {w w':World} {a:Option Addr} {len:Nat} {ts:List Ta} (h:zat w a len ts) (hb:Below w.heap.size w w'):zat w' a len ts:=by
 refine ⟨h.1,fun j hj=>?_⟩;obtain ⟨b,off,e,hlt,c0,⟨na,nc,c1,hn⟩,c2,c3,c4,c5⟩:=h.2 j hj
 exact ⟨b,off,e,Nat.lt_of_lt_of_le hlt hb.size,(hb.cell (p:=⟨b,off+j*6,none⟩) hlt).trans c0,⟨na,nc,(hb.cell (p:=⟨b,off+j*6+1,none⟩) hlt).trans c1,hn.below hb⟩,
  (hb.cell (p:=⟨b,off+j*6+2,none⟩) hlt).trans c2,(hb.cell (p:=⟨b,off+j*6+3,none⟩) hlt).trans c3,(hb.cell (p:=⟨b,off+j*6+4,none⟩) hlt).trans c4,(hb.cell (p:=⟨b,off+j*6+5,none⟩) hlt).trans c5⟩
def za1 (ts:List Ta):Prop:=∀ j,(ts.getD j ta0).1.length≤1048576∧(ts.getD j ta0).2.1.length≤1048576
theorem zlB (t:Int) (w:World):Calls Tryz.prog 43 #[.int .i64 t] w fun e w'=>e=.returned (.bool (inB t 0 1000000))∧w'=w:=by
 have HI:Hid (_):=zca t 0 1000000 w;generalize inB t 0 1000000=b at HI ⊢
 go_enter Tryz.func43,Tryz.ntmps43
 go_wp2_with (go_at_call 42;refine Calls.mono HI.out ?_;rintro e w1 ⟨rfl,rfl⟩)
 go_ret;exact ⟨rfl,rfl⟩
theorem zko (t:Int) (w:World):Calls Tryz.prog 77 #[.int .i64 t] w fun e w'=>e=.returned (.bool (zbi t))∧w'=w:=by
 unfold zbi;have HI:Hid (_):=zca t 0 2147483646 w;generalize inB t 0 2147483646=b at HI ⊢
 go_enter Tryz.func77,Tryz.ntmps77
 go_wp2_with (go_at_call 42;refine Calls.mono HI.out ?_;rintro e w1 ⟨rfl,rfl⟩)
 go_ret;exact ⟨rfl,rfl⟩
theorem specTask (nm:List UInt8) (na:Option Addr) (nc:Nat) (ns:List Int) (st wk un ke own:Int) (w:World) (hin:AsIn w na ns) (hlen:ns.length≤1048576) :
 Calls Tryz.prog 45 #[.agg #[.string ⟨nm.toArray⟩,.slice na ns.length nc,.int .i64 st,.int .i64 wk,.int .i64 un,.int .i64 ke],.int .i64 own] w
  fun e w'=>e=.returned (.bool (zc1 own (nm,ns,st,wk,un,ke)))∧Below w.heap.size w w':=by
 obtain ⟨W,hW⟩:∃ W,w.alloc (.cells #[.string ⟨nm.toArray⟩,.slice na ns.length nc,.int .i64 st,.int .i64 wk,.int .i64 un,.int .i64 ke] 42)=W:=⟨_,rfl⟩
 have hbW:Below w.heap.size w W:=by rw [←hW];exact (Below.refl _ _).alloc (Nat.le_refl _) _
 have hA:W.heap[w.heap.size]?=some (.cells #[.string ⟨nm.toArray⟩,.slice na ns.length nc,.int .i64 st,.int .i64 wk,.int .i64 un,.int .i64 ke] 42):=by rw [←hW];exact heap_alloc_new w _
 obtain ⟨D,hD⟩:∃ D,w.heap.size=D:=⟨_,rfl⟩
 rw [hD] at hA;have k1:W.cell? ⟨D,1,none⟩=some (.slice na ns.length nc):=by simp [World.cell?,hA]
 have k2:W.cell? ⟨D,2,none⟩=some (.int .i64 st):=by simp [World.cell?,hA]
 have k3:W.cell? ⟨D,3,none⟩=some (.int .i64 wk):=by simp [World.cell?,hA]
 have k4:W.cell? ⟨D,4,none⟩=some (.int .i64 un):=by simp [World.cell?,hA]
 have k5:W.cell? ⟨D,5,none⟩=some (.int .i64 ke):=by simp [World.cell?,hA]
 have hDl:D<W.heap.size:=World.block_lt_of_cell? W ⟨D,1,none⟩ k1;have HI:Hid (∀ Z,Below W.heap.size W Z→AsIn Z na ns):=fun Z hz=>(hin.below hbW).below hz
 have HB:Hid (∀ Z,Below W.heap.size W Z→Below D w Z):=fun Z hz=>hD▸hbW.trans (hz.mono hbW.size)
 have HC:Hid (∀ Z,Below W.heap.size W Z→Z.cell? ⟨D,1,none⟩=some (.slice na ns.length nc)∧Z.cell? ⟨D,2,none⟩=some (.int .i64 st)∧Z.cell? ⟨D,3,none⟩=some (.int .i64 wk)∧Z.cell? ⟨D,4,none⟩=some (.int .i64 un)∧Z.cell? ⟨D,5,none⟩=some (.int .i64 ke)):=fun Z hz =>
  ⟨(hz.cell (p:=⟨D,1,none⟩) hDl).trans k1,(hz.cell (p:=⟨D,2,none⟩) hDl).trans k2,(hz.cell (p:=⟨D,3,none⟩) hDl).trans k3,(hz.cell (p:=⟨D,4,none⟩) hDl).trans k4,(hz.cell (p:=⟨D,5,none⟩) hDl).trans k5⟩
 have HW:Hid (∀ Z,_):=fun Z=>zca wk 0 3 Z
 have HU:Hid (∀ Z,_):=fun Z=>zlB un Z
 have HK:Hid (∀ Z,_):=fun Z=>zko ke Z
 have HB0:Hid (Below W.heap.size W W):=Below.refl _ _;clear hin hbW hA k2 k3 k4 k5 hDl
 go_enter Tryz.func45,Tryz.ntmps45
 go_wp2
 go_loopw [5] (fun iv wr=>∃ j:Nat,iv=.int .i64 (j:Int)∧j≤ns.length∧Hid (∀ q,q<j→zbl own ns q)∧Hid (Below W.heap.size W wr)) (fun iv _=>ns.length-(intOf iv).toNat)
 case atStart=>exact ⟨0,rfl,by omega,fun q hq=>by omega,HB0⟩
 case round =>
  obtain ⟨j,rfl,hj,HA,HBr⟩:=hrel;clear k1;obtain ⟨k1,k2,k3,k4,k5⟩:=HC.out wr HBr.out;have HBd:Hid (Below W.heap.size W wr.drew):=HBr.out.trans (by exact ⟨rfl,rfl,rfl,Nat.le_refl _,fun _ _=>rfl⟩);have HIr:Hid (_):=HI.out wr HBr.out;by_cases hlt:(j:Int)<(ns.length:Int)
  ·
   obtain ⟨b,off,rfl,hbl,c0⟩:=HIr.out j (by omega);obtain ⟨x,hx⟩:∃ x,ns.getD j 0=x:=⟨_,rfl⟩
   rw [hx] at c0
   have hgo:¬zbl own ns j→zc1 own (nm,ns,st,wk,un,ke)=false:=fun hn=>by
    unfold zc1;rw [zjv (by omega) hn]
    rfl
   rcases Nat.eq_zero_or_pos j with hz | hz
   ·
    subst hz;rw [Nat.add_zero] at c0;by_cases hok:zbl own ns 0
    ·
     have hn:=hok;unfold zbl at hn;rw [hx] at hn
     have HR:Hid (∀ q,q<0+1→zbl own ns q):=fun q hq=>by
      obtain rfl:q=0:=by omega
      exact hok
     obtain ⟨h1,h2,_⟩:=hn;clear HA hx hgo hok
     (try have hd1:decide (x<0)=true:=decide_eq_true (by omega))
     (try have hd2:decide (x<0)=false:=decide_eq_false (by omega))
     (try have hd3:decide (own≤x)=true:=decide_eq_true (by omega))
     (try have hd4:decide (own≤x)=false:=decide_eq_false (by omega))
     (try have hd5:decide (x≤y)=true:=decide_eq_true (by omega))
     (try have hd6:decide (x≤y)=false:=decide_eq_false (by omega))
     go_wp2
     go_quiet (fail)
     go_wp2;go_roundw
     case rel=>exact ⟨0+1,by go_num,by omega,HR,below_drewN HBr.out _⟩
     case measure=>simp [intOf];omega
    ·
     have HF:Hid (_):=hgo hok;unfold zbl at hok;rw [hx] at hok;have hno:x<0∨own≤x:=by omega
     clear HA hx hgo hok;rcases Int.lt_or_le x 0 with h1 | h1
     ·
      go_wp2
      go_quiet (fail)
      go_wp2;go_ret;exact ⟨by rw [HF.out];rfl,hD▸HB.out _ (below_drewN HBr.out _)⟩
     ·
      have h2:own≤x:=by omega
      (try have hd1:decide (x<0)=true:=decide_eq_true (by omega))
      (try have hd2:decide (x<0)=false:=decide_eq_false (by omega))
      (try have hd3:decide (own≤x)=true:=decide_eq_true (by omega))
      (try have hd4:decide (own≤x)=false:=decide_eq_false (by omega))
      (try have hd5:decide (x≤y)=true:=decide_eq_true (by omega))
      (try have hd6:decide (x≤y)=false:=decide_eq_false (by omega))
      go_wp2
      go_quiet (fail)
      go_wp2;go_ret;exact ⟨by rw [HF.out];rfl,hD▸HB.out _ (below_drewN HBr.out _)⟩
   ·
    obtain ⟨j,rfl⟩:∃ i,j=i+1:=⟨j-1,by omega⟩
    obtain ⟨b2,off2,e2,hbl2,c1⟩:=HIr.out j (by omega);injection e2 with e2;injection e2 with e3 e4;subst e3 e4;have hwj:IntKind.i64.wrap (j:Int)=(j:Int):=by rw [IntKind.wrap_i64];omega
    obtain ⟨y,hy⟩:∃ y,ns.getD j 0=y:=⟨_,rfl⟩
    rw [hy] at c1;by_cases hok:zbl own ns (j+1)
    ·
     have hn:=hok;unfold zbl at hn;rw [Nat.add_sub_cancel,hx,hy] at hn
     have HR:Hid (∀ q,q<j+1+1→zbl own ns q):=fun q hq=>by
      rcases Nat.lt_or_ge q (j+1) with g | g
      ·exact HA.out q g
      ·
       obtain rfl:q=j+1:=by omega
       exact hok
     obtain ⟨h1,h2,h3⟩:=hn;have h3:=h3 (by omega);clear HA hx hy hgo hok
     (try have hd1:decide (x<0)=true:=decide_eq_true (by omega))
     (try have hd2:decide (x<0)=false:=decide_eq_false (by omega))
     (try have hd3:decide (own≤x)=true:=decide_eq_true (by omega))
     (try have hd4:decide (own≤x)=false:=decide_eq_false (by omega))
     (try have hd5:decide (x≤y)=true:=decide_eq_true (by omega))
     (try have hd6:decide (x≤y)=false:=decide_eq_false (by omega))
     go_wp2
     go_quiet (fail)
     go_wp2;go_roundw
     case rel=>exact ⟨j+1+1,by go_num,by omega,HR,below_drewN HBr.out _⟩
     case measure=>simp [intOf];omega
    ·
     have HF:Hid (_):=hgo hok;unfold zbl at hok;rw [Nat.add_sub_cancel,hx,hy] at hok;clear HA hx hy hgo;rcases Int.lt_or_le x 0 with h1 | h1
     ·
      go_wp2
      go_quiet (fail)
      go_wp2;go_ret;exact ⟨by rw [HF.out];rfl,hD▸HB.out _ (below_drewN HBr.out _)⟩
     ·
      rcases Int.lt_or_le x own with h2 | h2
      ·
       have h3:x≤y:=by
        rcases Int.lt_or_le y x with g | g
        ·exact absurd ⟨h1,h2,fun _=>g⟩ hok
        ·exact g
       clear hok
       (try have hd1:decide (x<0)=true:=decide_eq_true (by omega))
       (try have hd2:decide (x<0)=false:=decide_eq_false (by omega))
       (try have hd3:decide (own≤x)=true:=decide_eq_true (by omega))
       (try have hd4:decide (own≤x)=false:=decide_eq_false (by omega))
       (try have hd5:decide (x≤y)=true:=decide_eq_true (by omega))
       (try have hd6:decide (x≤y)=false:=decide_eq_false (by omega))
       go_wp2
       go_quiet (fail)
       go_wp2;go_ret;exact ⟨by rw [HF.out];rfl,hD▸HB.out _ (below_drewN HBr.out _)⟩
      ·
       clear hok
       (try have hd1:decide (x<0)=true:=decide_eq_true (by omega))
       (try have hd2:decide (x<0)=false:=decide_eq_false (by omega))
       (try have hd3:decide (own≤x)=true:=decide_eq_true (by omega))
       (try have hd4:decide (own≤x)=false:=decide_eq_false (by omega))
       (try have hd5:decide (x≤y)=true:=decide_eq_true (by omega))
       (try have hd6:decide (x≤y)=false:=decide_eq_false (by omega))
       go_wp2
       go_quiet (fail)
       go_wp2;go_ret;exact ⟨by rw [HF.out];rfl,hD▸HB.out _ (below_drewN HBr.out _)⟩
  ·
   have HR:Hid (zcL own ns=true):=zfr (fun q hq=>HA.out q (by omega))
   have HT:Hid (zc1 own (nm,ns,st,wk,un,ke)=zcv (nm,ns,st,wk,un,ke)):=by
    show (zcL own ns && zcv (nm,ns,st,wk,un,ke))=_
    rw [HR.out]
    rfl
   have hT:=HT.out;clear HA HR HT HI HIr HC;unfold zcv at hT;simp only at hT;by_cases h0:st=0
   ·
    rw [if_pos h0] at hT;subst h0;by_cases h3:wk=0
    ·
     by_cases h4:un=0
     ·
      by_cases h5:ke=0
      ·
       have HF:Hid (zc1 own (nm,ns,0,wk,un,ke)=true):=by rw [hT];exact decide_eq_true ⟨h3,h4,h5⟩
       clear hT;subst h3 h4 h5;go_wp2;go_ret;exact ⟨by rw [HF.out];rfl,hD▸HB.out _ HBr.out⟩
      ·
       have HF:Hid (zc1 own (nm,ns,0,wk,un,ke)=false):=by rw [hT];exact decide_eq_false (fun e=>h5 e.2.2)
       clear hT;subst h3 h4;go_wp2;go_ret;exact ⟨(congrArg (fun b=>Ending.returned (Value.bool b)) (decide_eq_false h5)).trans (by rw [HF.out]),hD▸HB.out _ HBr.out⟩
     ·
      have HF:Hid (zc1 own (nm,ns,0,wk,un,ke)=false):=by rw [hT];exact decide_eq_false (fun e=>h4 e.2.1)
      clear hT;subst h3;go_wp2;go_ret;exact ⟨by rw [HF.out];rfl,hD▸HB.out _ HBr.out⟩
    ·
     have HF:Hid (zc1 own (nm,ns,0,wk,un,ke)=false):=by rw [hT];exact decide_eq_false (fun e=>h3 e.1)
     clear hT;go_wp2;go_ret;exact ⟨by rw [HF.out];rfl,hD▸HB.out _ HBr.out⟩
   ·
    rw [if_neg h0] at hT;by_cases h1:st=1
    ·
     rw [if_pos h1] at hT;subst h1;have HWr:Hid (_):=HW.out wr;have HUr:Hid (_):=HU.out wr;generalize inB wk 0 3=b3 at hT HWr;generalize inB un 0 1000000=b4 at hT HUr;clear HW HU HK;rcases b3 with _ | _
     ·
      have HF:Hid (zc1 own (nm,ns,1,wk,un,ke)=false):=hT
      go_wp2_with (go_at_call 42;refine Calls.mono HWr.out ?_;rintro e w1 ⟨rfl,rfl⟩)
      go_ret;exact ⟨by rw [HF.out];rfl,hD▸HB.out _ HBr.out⟩
     ·
      rcases b4 with _ | _
      ·
       have HF:Hid (zc1 own (nm,ns,1,wk,un,ke)=false):=hT
       go_wp2_with (first | (go_at_call 42;refine Calls.mono HWr.out ?_;rintro e w1 ⟨rfl,rfl⟩) | (go_at_call 43;refine Calls.mono HUr.out ?_;rintro e w1 ⟨rfl,rfl⟩))
       go_ret;exact ⟨by rw [HF.out];rfl,hD▸HB.out _ HBr.out⟩
      ·
       by_cases h5:ke=0
       ·
        have HF:Hid (zc1 own (nm,ns,1,wk,un,ke)=true):=by rw [hT,decide_eq_true h5];rfl
        clear hT;subst h5
        go_wp2_with (first | (go_at_call 42;refine Calls.mono HWr.out ?_;rintro e w1 ⟨rfl,rfl⟩) | (go_at_call 43;refine Calls.mono HUr.out ?_;rintro e w1 ⟨rfl,rfl⟩))
        go_ret;exact ⟨by rw [HF.out];rfl,hD▸HB.out _ HBr.out⟩
       ·
        have HF:Hid (zc1 own (nm,ns,1,wk,un,ke)=false):=by rw [hT,decide_eq_false h5];rfl
        clear hT
        go_wp2_with (first | (go_at_call 42;refine Calls.mono HWr.out ?_;rintro e w1 ⟨rfl,rfl⟩) | (go_at_call 43;refine Calls.mono HUr.out ?_;rintro e w1 ⟨rfl,rfl⟩))
        go_ret;exact ⟨(congrArg (fun b=>Ending.returned (Value.bool b)) (decide_eq_false h5)).trans (by rw [HF.out]),hD▸HB.out _ HBr.out⟩
    ·
     rw [if_neg h1] at hT;by_cases h2:st=2
     ·
      rw [if_pos h2] at hT;subst h2;have HKr:Hid (_):=HK.out wr;generalize zbi ke=b5 at hT HKr;clear HW HU HK;by_cases h3:wk=0
      ·
       by_cases h4:un=0
       ·
        have HF:Hid (zc1 own (nm,ns,2,wk,un,ke)=b5):=by rw [hT,decide_eq_true ⟨h3,h4⟩];rfl
        clear hT;subst h3 h4
        go_wp2_with (go_at_call 77;refine Calls.mono HKr.out ?_;rintro e w1 ⟨rfl,rfl⟩)
        go_ret;exact ⟨by rw [HF.out];rfl,hD▸HB.out _ HBr.out⟩
       ·
        have HF:Hid (zc1 own (nm,ns,2,wk,un,ke)=false):=by rw [hT,decide_eq_false (fun e=>h4 e.2)];rfl
        clear hT;subst h3;go_wp2;go_ret;exact ⟨by rw [HF.out];rfl,hD▸HB.out _ HBr.out⟩
      ·
       have HF:Hid (zc1 own (nm,ns,2,wk,un,ke)=false):=by rw [hT,decide_eq_false (fun e=>h3 e.1)];rfl
       clear hT;go_wp2;go_ret;exact ⟨by rw [HF.out];rfl,hD▸HB.out _ HBr.out⟩
     ·rw [if_neg h2] at hT;have HF:Hid (zc1 own (nm,ns,st,wk,un,ke)=false):=hT;clear hT;go_wp2;go_ret;exact ⟨by rw [HF.out];rfl,hD▸HB.out _ HBr.out⟩
structure zb2 (w w':World) (S:Nat→Prop):Prop where
 os:w'.os=w.os
 tape:w'.tape=w.tape
 output:w'.output=w.output
 size:w.heap.size≤w'.heap.size
 block:∀ k,k<w.heap.size→¬S k→w'.heap[k]?=w.heap[k]?
theorem zb2.refl (w:World) (S:Nat→Prop):zb2 w w S:=⟨rfl,rfl,rfl,Nat.le_refl _,fun _ _ _=>rfl⟩
theorem zb2.trans {a b c:World} {S:Nat→Prop} (h:zb2 a b S) (k:zb2 b c S):zb2 a c S :=
 ⟨k.os.trans h.os,k.tape.trans h.tape,k.output.trans h.output,Nat.le_trans h.size k.size,fun i hi hs=>(k.block i (Nat.lt_of_lt_of_le hi h.size) hs).trans (h.block i hi hs)⟩
theorem zb2.mono {w w':World} {S T:Nat→Prop} (h:zb2 w w' S) (hs:∀ k,S k→T k):zb2 w w' T:=⟨h.os,h.tape,h.output,h.size,fun k hk hn=>h.block k hk (fun e=>hn (hs k e))⟩
theorem zb2.of_grown {w w':World} {row:Option Nat} {S:Nat→Prop} (h:w.grownBy w' row) (hs:∀ k,row=some k→S k):zb2 w w' S :=
 ⟨h.os,h.tape,h.output,h.size,fun k hk hn=>h.block k hk (fun e=>hn (hs k e.symm))⟩
theorem zb2.of_below {w w':World} {S:Nat→Prop} (h:Below w.heap.size w w'):zb2 w w' S:=⟨h.os,h.tape,h.output,h.size,fun k hk _=>h.block k hk⟩
theorem zb2.below {w w':World} {S:Nat→Prop} {B:Nat} (h:zb2 w w' S) (hB:B≤w.heap.size) (hs:∀ k,S k→B≤k):Below B w w' :=
 ⟨h.os,h.tape,h.output,h.size,fun k hk=>h.block k (Nat.lt_of_lt_of_le hk hB) (fun e=>by have:=hs k e;omega)⟩
theorem zmN {w w':World} {base e size n:Nat} {v:Value} {xs:List Value} {S:Nat→Prop} (h:w.ownsRow base e size v n xs) (hw:zb2 w w' S) (hv:∀ k,v.ownBlock=some k→¬S k):w'.ownsRow base e size v n xs:=by
 refine ⟨h.1,?_⟩;rcases h.2 with hn | ⟨g,cap,cur,rfl,hb,hgg,rest⟩
 ·exact .inl hn
 ·refine .inr ⟨g,cap,cur,rfl,hb,?_,rest⟩;rw [hw.block g (Array.getElem?_eq_some_iff.1 hgg).1 (hv g rfl)];exact hgg
def zai (vs:List Value):Prop:=vs.Pairwise (fun a b=>a.ownBlock=none∨a.ownBlock≠b.ownBlock)
theorem zai.ne {vs:List Value} (h:zai vs) {i j:Nat} (hi:i<vs.length) (hj:j<vs.length) (hij:i≠j):vs[i].ownBlock=none∨vs[i].ownBlock≠vs[j].ownBlock:=by
 rcases Nat.lt_or_gt_of_ne hij with hl | hl
 ·exact List.pairwise_iff_getElem.1 h i j hi hj hl
 ·
  rcases List.pairwise_iff_getElem.1 h j i hj hi hl with e | e
  ·rw [e];cases vs[i].ownBlock<;>simp
  ·exact Or.inr (fun e2=>e e2.symm)
theorem zai.nil:zai []:=List.Pairwise.nil
theorem zai.snoc {vs:List Value} {u:Value} (h:zai vs) (hu:∀ v∈vs,v.ownBlock=none∨v.ownBlock≠u.ownBlock):zai (vs++[u]) :=
 List.pairwise_append.2 ⟨h,List.pairwise_singleton _ _,fun a ha b hb=>by rw [List.mem_singleton] at hb;subst hb;exact hu a ha⟩
theorem zhz {w w':World} {b1 b2 e1 e2 s1 s2 n1 n2:Nat} {v1 v2:Value} {xs ys:List Value} (h1:w.ownsRow b1 e1 s1 v1 n1 xs) (h2:w'.ownsRow b2 e2 s2 v2 n2 ys) (hb:w.heap.size≤b2):v1.ownBlock=none∨v1.ownBlock≠v2.ownBlock:=by
 cases hv:v1.ownBlock with
 | none=>exact Or.inl rfl
 | some k =>
  refine Or.inr (fun e=>?_);have l1:=(h1.lt k hv).2;have l2:=(h2.lt k e.symm).1;omega
theorem zka {w:World} {a:Addr} {v:Value} (o:Obj) (h:w.cell? a=some v):(w.alloc o).cell? a=some v :=
 (World.cell?_of_block (Below.heap_alloc _ _ _ (World.block_lt_of_cell? w a h))).trans h
theorem za8 {w:World} {base e size n R:Nat} {v:Value} {xs:List Value} (h:w.ownsRow base e size v n xs) (hR:R<base):v.ownBlock=none∨v.ownBlock≠some R:=by
 rcases hv:v.ownBlock with _ | k
 ·exact Or.inl rfl
 ·refine Or.inr (fun e=>?_);have:=(h.lt k hv).1;injection e with e;omega
theorem zba {w:World} {b1 b2 e1 e2 s1 s2 n1 n2:Nat} {v1 v2:Value} {xs ys:List Value} (h1:w.ownsRow b1 e1 s1 v1 n1 xs) (h2:w.ownsRow b2 e2 s2 v2 n2 ys) (he:e1≠e2):v1.ownBlock=none∨v1.ownBlock≠v2.ownBlock:=by
 rcases h1.2 with ⟨rfl,_⟩ | ⟨g,c,cur,rfl,_,hg,_⟩
 ·exact Or.inl rfl
 ·
  rcases h2.2 with ⟨rfl,_⟩ | ⟨g2,c2,cur2,rfl,_,hg2,_⟩
  ·exact Or.inr (by simp [Value.ownBlock])
  ·refine Or.inr (fun e=>?_);simp only [Value.ownBlock,Option.some.injEq] at e;subst e;rw [hg] at hg2;simp only [Option.some.injEq,Obj.cells.injEq] at hg2;exact he hg2.2.1
theorem zfD (b off i:Nat):(⟨b,off,none⟩:Addr).add i=⟨b,off+i,none⟩:=by unfold Addr.add;split<;>simp_all
abbrev TV:=Ta × Option Addr × Nat
def tvT (x:TV):Value:=.slice x.2.1 x.1.2.1.length x.2.2
def tksV:List TV→List Value
 | []=>[]
 | x :: r=>.string ⟨x.1.1.toArray⟩ :: tvT x :: .int .i64 x.1.2.2.1 :: .int .i64 x.1.2.2.2.1 :: .int .i64 x.1.2.2.2.2.1 :: .int .i64 x.1.2.2.2.2.2 :: tksV r
def tv0:TV:=(ta0,none,0)
theorem zlz (xs:List TV):(tksV xs).length=xs.length*6:=by
 induction xs with
 | nil=>rfl
 | cons n r ih=>simp only [tksV,List.length_cons,ih];omega
theorem zkh (x y:List TV):tksV (x++y)=tksV x++tksV y:=by
 induction x with
 | nil=>rfl
 | cons n r ih=>simp [tksV,ih]
theorem zly (xs:List TV):∀ u∈tksV xs,u.oneCell'=true:=by
 induction xs with
 | nil=>intro u hu;cases hu
 | cons n r ih =>
  intro u hu;simp only [tksV,List.mem_cons] at hu;rcases hu with rfl | rfl | rfl | rfl | rfl | rfl | h
  ·rfl
  ·rfl
  ·rfl
  ·rfl
  ·rfl
  ·rfl
  ·exact ih u h
theorem zdp (xs:List TV) (j:Nat) (hj:j<xs.length):(tksV xs)[j*6]?=some (.string ⟨(xs.getD j tv0).1.1.toArray⟩)∧(tksV xs)[j*6+1]?=some (tvT (xs.getD j tv0))∧(tksV xs)[j*6+2]?=some (.int .i64 (xs.getD j tv0).1.2.2.1)∧(tksV xs)[j*6+3]?=some (.int .i64 (xs.getD j tv0).1.2.2.2.1)∧(tksV xs)[j*6+4]?=some (.int .i64 (xs.getD j tv0).1.2.2.2.2.1)∧(tksV xs)[j*6+5]?=some (.int .i64 (xs.getD j tv0).1.2.2.2.2.2):=by
 induction xs generalizing j with
 | nil=>simp at hj
 | cons n r ih =>
  cases j with
  | zero=>simp [tksV]
  | succ j =>
   obtain ⟨h0,h1,h2,h3,h4,h5⟩:=ih j (by simpa using hj);have e:∀ i,(j+1)*6+i=(j*6+i)+1+1+1+1+1+1:=fun i=>by omega
   refine ⟨?_,?_,?_,?_,?_,?_⟩
   ·have:=e 0;rw [Nat.add_zero,Nat.add_zero] at this;rw [this];simpa [tksV] using h0
   ·rw [e 1];simpa [tksV] using h1
   ·rw [e 2];simpa [tksV] using h2
   ·rw [e 3];simpa [tksV] using h3
   ·rw [e 4];simpa [tksV] using h4
   ·rw [e 5];simpa [tksV] using h5
theorem zi8 (xs:List TV) (j:Nat) (y:TV):((((((tksV xs).set (j*6) (.string ⟨y.1.1.toArray⟩)).set (j*6+1) (tvT y)).set (j*6+2) (.int .i64 y.1.2.2.1)).set (j*6+3) (.int .i64 y.1.2.2.2.1)).set (j*6+4) (.int .i64 y.1.2.2.2.2.1)).set (j*6+5) (.int .i64 y.1.2.2.2.2.2)=tksV (xs.set j y):=by
 induction xs generalizing j with
 | nil=>simp [tksV]
 | cons b r ih =>
  cases j with
  | zero=>simp [tksV]
  | succ j=>rw [show (j+1)*6=j*6+1+1+1+1+1+1 by omega];simp [tksV,ih]
structure za2 (w:World) (base:Nat) (v:Value) (xs:List TV):Prop where
 row:w.ownsRow base 42 6 v xs.length (tksV xs)
 trees:∀ x∈xs,w.ownsRow base 2 1 (tvT x) x.1.2.1.length (zaY x.1.2.1)
theorem za2.below {w w':World} {base:Nat} {v:Value} {xs:List TV} (h:za2 w base v xs) (hb:Below w.heap.size w w'):za2 w' base v xs:=⟨za5 h.row hb,fun x hx=>za5 (h.trees x hx) hb⟩
theorem za2.kept {w w':World} {base:Nat} {v:Value} {xs:List TV} {row:Option Nat} (h:za2 w base v xs) (hg:w.grownBy w' row) (h1:v.ownBlock=none∨v.ownBlock≠row) (h2:∀ x∈xs,(tvT x).ownBlock=none∨(tvT x).ownBlock≠row):za2 w' base v xs :=
 ⟨h.row.kept hg h1,fun x hx=>(h.trees x hx).kept hg (h2 x hx)⟩
theorem za2.base {w:World} {base b2:Nat} {v:Value} {xs:List TV} (h:za2 w base v xs) (hb:b2≤base):za2 w b2 v xs:=⟨zaD h.row hb,fun x hx=>zaD (h.trees x hx) hb⟩
theorem za2.nil (w:World) (base:Nat):za2 w base (.slice none 0 0) []:=⟨World.ownsRow_nil w _ _ _,fun x hx=>by cases hx⟩
theorem zet (xs:List TV) (j:Nat):(xs.map (·.1)).getD j ta0=(xs.getD j tv0).1:=by
 rw [List.getD_eq_getElem?_getD,List.getD_eq_getElem?_getD,List.getElem?_map];cases xs[j]?<;>rfl
theorem own_as {w:World} {B n c:Nat} {a:Option Addr} {xs:List Int} (h:w.ownsRow B 2 1 (.slice a n c) n (zaY xs)) (hn:xs.length=n):AsIn w a xs∧(a=none→c=0)∧n≤c:=by
 rcases h.2 with ⟨h',h0,_⟩ | ⟨g,cp,cur,h',_,_,hnc,_⟩
 ·simp only [Value.slice.injEq] at h';obtain ⟨rfl,_,rfl⟩:=h';exact ⟨fun j hj=>absurd hj (by omega),fun _=>rfl,Nat.le_refl _⟩
 ·injection h' with h1 h2 h3;subst h1 h3;exact ⟨zij h hn,(fun e=>by cases e),hnc⟩
def zaF (w:World) (a:Option Addr) (len cap:Nat) (ts:List Ta):Prop :=
 ts.length=len∧(a=none→cap=0)∧∀ j,j<len→∃ b off,a=some ⟨b,off,none⟩∧b<w.heap.size∧w.cell? ⟨b,off+j*6,none⟩=some (.string ⟨(ts.getD j ta0).1.toArray⟩) ∧
  (∃ na nc,w.cell? ⟨b,off+j*6+1,none⟩=some (.slice na (ts.getD j ta0).2.1.length nc)∧AsIn w na (ts.getD j ta0).2.1∧(na=none→nc=0)) ∧
  w.cell? ⟨b,off+j*6+2,none⟩=some (.int .i64 (ts.getD j ta0).2.2.1)∧w.cell? ⟨b,off+j*6+3,none⟩=some (.int .i64 (ts.getD j ta0).2.2.2.1) ∧
  w.cell? ⟨b,off+j*6+4,none⟩=some (.int .i64 (ts.getD j ta0).2.2.2.2.1)∧w.cell? ⟨b,off+j*6+5,none⟩=some (.int .i64 (ts.getD j ta0).2.2.2.2.2)
theorem zaF.in {w:World} {a:Option Addr} {len cap:Nat} {ts:List Ta} (h:zaF w a len cap ts):zat w a len ts:=by
 refine ⟨h.1,fun j hj=>?_⟩;obtain ⟨b,off,e,hlt,c0,⟨na,nc,c1,hn,_⟩,c2,c3,c4,c5⟩:=h.2.2 j hj;exact ⟨b,off,e,hlt,c0,⟨na,nc,c1,hn⟩,c2,c3,c4,c5⟩
theorem zaF.below {w w':World} {a:Option Addr} {len cap:Nat} {ts:List Ta} (h:zaF w a len cap ts) (hb:Below w.heap.size w w'):zaF w' a len cap ts:=by
 refine ⟨h.1,h.2.1,fun j hj=>?_⟩;obtain ⟨b,off,e,hlt,c0,⟨na,nc,c1,hn,hz⟩,c2,c3,c4,c5⟩:=h.2.2 j hj
 exact ⟨b,off,e,Nat.lt_of_lt_of_le hlt hb.size,(hb.cell (p:=⟨b,off+j*6,none⟩) hlt).trans c0,⟨na,nc,(hb.cell (p:=⟨b,off+j*6+1,none⟩) hlt).trans c1,hn.below hb,hz⟩,
  (hb.cell (p:=⟨b,off+j*6+2,none⟩) hlt).trans c2,(hb.cell (p:=⟨b,off+j*6+3,none⟩) hlt).trans c3,(hb.cell (p:=⟨b,off+j*6+4,none⟩) hlt).trans c4,(hb.cell (p:=⟨b,off+j*6+5,none⟩) hlt).trans c5⟩
theorem za2.ok {w:World} {base:Nat} {v:Value} {xs:List TV} (h:za2 w base v xs):∃ a cap,v=.slice a xs.length cap∧zaF w a xs.length cap (xs.map (·.1)):=by
 rcases zaR h.row with ⟨rfl,h0,_⟩ | ⟨g,cp,rfl⟩
 ·exact ⟨none,0,by rw [h0],by simp,fun _=>rfl,fun j hj=>by omega⟩
 ·
  refine ⟨some ⟨g,0,none⟩,cp,rfl,by simp,(fun e=>by cases e),fun j hj=>?_⟩;obtain ⟨v0,v1,v2,v3,v4,v5⟩:=zdp xs j hj;have hc:=fun k (hk:k<xs.length*6)=>World.ownsRow.cellAt h.row k hk
  have hmem:xs.getD j tv0∈xs:=by rw [List.getD_eq_getElem?_getD,List.getElem?_eq_getElem hj];exact List.getElem_mem hj
  obtain ⟨hi,hz,_⟩:=own_as (h.trees _ hmem) rfl;rw [zet];refine ⟨g,0,rfl,(h.row.lt g rfl).2,?_,⟨(xs.getD j tv0).2.1,(xs.getD j tv0).2.2,?_,hi,hz⟩,?_,?_,?_,?_⟩
  ·rw [Nat.zero_add,hc _ (by omega),v0]
  ·rw [Nat.zero_add,hc _ (by omega),v1];rfl
  ·rw [Nat.zero_add,hc _ (by omega),v2]
  ·rw [Nat.zero_add,hc _ (by omega),v3]
  ·rw [Nat.zero_add,hc _ (by omega),v4]
  ·rw [Nat.zero_add,hc _ (by omega),v5]
theorem zm3:(Tryz.prog.info? 42).map (fun i=>(i.zero,i.size,i.bytes))=some (some (.agg #[.string ⟨#[]⟩,.slice none 0 0,.int .i64 0,.int .i64 0,.int .i64 0,.int .i64 0]),6,72):=by kernel_rfl

theorem setO {X:World} {R i j:Nat} {v a:Value} (h:j≠i) (e:X.cell? ⟨R,j,none⟩=some a):(X.setCell ⟨R,i,none⟩ v).cell? ⟨R,j,none⟩=some a :=
 (World.cell?_setCell_other _ _ _ _ (by simp)).trans e
theorem setS {X:World} {R i:Nat} {v a:Value} (e:X.cell? ⟨R,i,none⟩=some a):(X.setCell ⟨R,i,none⟩ v).cell? ⟨R,i,none⟩=some v:=World.cell?_setCell_same _ _ _ e
theorem set6 {X:World} {R:Nat} {a0 a1 a2 a3 a4 a5:Value} (u0 u1 u2 u3 u4 u5:Value) (r0:X.cell? ⟨R,0,none⟩=some a0) (r1:X.cell? ⟨R,1,none⟩=some a1) (r2:X.cell? ⟨R,2,none⟩=some a2) (r3:X.cell? ⟨R,3,none⟩=some a3) (r4:X.cell? ⟨R,4,none⟩=some a4) (r5:X.cell? ⟨R,5,none⟩=some a5) :
 ∃ Y,(((((X.setCell ⟨R,0,none⟩ u0).setCell ⟨R,1,none⟩ u1).setCell ⟨R,2,none⟩ u2).setCell ⟨R,3,none⟩ u3).setCell ⟨R,4,none⟩ u4).setCell ⟨R,5,none⟩ u5=Y∧Y.cell? ⟨R,0,none⟩=some u0∧Y.cell? ⟨R,1,none⟩=some u1∧Y.cell? ⟨R,2,none⟩=some u2∧Y.cell? ⟨R,3,none⟩=some u3∧Y.cell? ⟨R,4,none⟩=some u4∧Y.cell? ⟨R,5,none⟩=some u5∧X.grownBy Y (some R) :=
 ⟨_,rfl,setO (by decide) (setO (by decide) (setO (by decide) (setO (by decide) (setO (by decide) (setS (r0)))))),setO (by decide) (setO (by decide) (setO (by decide) (setO (by decide) (setS (setO (by decide) (r1)))))),setO (by decide) (setO (by decide) (setO (by decide) (setS (setO (by decide) (setO (by decide) (r2)))))),setO (by decide) (setO (by decide) (setS (setO (by decide) (setO (by decide) (setO (by decide) (r3)))))),setO (by decide) (setS (setO (by decide) (setO (by decide) (setO (by decide) (setO (by decide) (r4)))))),setS (setO (by decide) (setO (by decide) (setO (by decide) (setO (by decide) (setO (by decide) (r5)))))),(((((zae _ _ _ _).trans (zae _ _ _ _)).trans (zae _ _ _ _)).trans (zae _ _ _ _)).trans (zae _ _ _ _)).trans (zae _ _ _ _)⟩
theorem set4 {X:World} {R:Nat} {a0 a1 a2 a3:Value} (u0 u1 u2 u3:Value) (r0:X.cell? ⟨R,0,none⟩=some a0) (r1:X.cell? ⟨R,1,none⟩=some a1) (r2:X.cell? ⟨R,2,none⟩=some a2) (r3:X.cell? ⟨R,3,none⟩=some a3) :
 ∃ Y,(((X.setCell ⟨R,0,none⟩ u0).setCell ⟨R,1,none⟩ u1).setCell ⟨R,2,none⟩ u2).setCell ⟨R,3,none⟩ u3=Y∧Y.cell? ⟨R,0,none⟩=some u0∧Y.cell? ⟨R,1,none⟩=some u1∧Y.cell? ⟨R,2,none⟩=some u2∧Y.cell? ⟨R,3,none⟩=some u3∧X.grownBy Y (some R) :=
 ⟨_,rfl,setO (by decide) (setO (by decide) (setO (by decide) (setS (r0)))),setO (by decide) (setO (by decide) (setS (setO (by decide) (r1)))),setO (by decide) (setS (setO (by decide) (setO (by decide) (r2)))),setS (setO (by decide) (setO (by decide) (setO (by decide) (r3)))),(((zae _ _ _ _).trans (zae _ _ _ _)).trans (zae _ _ _ _)).trans (zae _ _ _ _)⟩
theorem sixF {X W:World} {R:Nat} {u0 u1 u2 u3 u4 u5:Value} {T:TypeId} (hX:Below W.heap.size W X) (hlt:R<W.heap.size) (hR:W.heap[R]?=some (.cells #[u0,u1,u2,u3,u4,u5] T)) :
 (X.cell? ⟨R,0,none⟩=some u0∧X.cell? ⟨R,1,none⟩=some u1∧X.cell? ⟨R,2,none⟩=some u2∧X.cell? ⟨R,3,none⟩=some u3∧X.cell? ⟨R,4,none⟩=some u4∧X.cell? ⟨R,5,none⟩=some u5)∧∀ j,X.frozen? ⟨R,j,none⟩=false:=by
 have e:=(hX.block R hlt).trans hR;clear hX hR;exact ⟨⟨by simp [World.cell?,e],by simp [World.cell?,e],by simp [World.cell?,e],by simp [World.cell?,e],by simp [World.cell?,e],by simp [World.cell?,e]⟩,fun j=>by simp [World.frozen?,e]⟩
theorem fourF {X W:World} {R:Nat} {u0 u1 u2 u3:Value} {T:TypeId} (hX:Below W.heap.size W X) (hlt:R<W.heap.size) (hR:W.heap[R]?=some (.cells #[u0,u1,u2,u3] T)) :
 (X.cell? ⟨R,0,none⟩=some u0∧X.cell? ⟨R,1,none⟩=some u1∧X.cell? ⟨R,2,none⟩=some u2∧X.cell? ⟨R,3,none⟩=some u3)∧∀ j,X.frozen? ⟨R,j,none⟩=false:=by
 have e:=(hX.block R hlt).trans hR;clear hX hR;exact ⟨⟨by simp [World.cell?,e],by simp [World.cell?,e],by simp [World.cell?,e],by simp [World.cell?,e]⟩,fun j=>by simp [World.frozen?,e]⟩
structure B4 (Z:World) (k:Nat) (a b c d:Value):Prop where
 lt:k<Z.heap.size
 c0:Z.cell? ⟨k,0,none⟩=some a
 c1:Z.cell? ⟨k,1,none⟩=some b
 c2:Z.cell? ⟨k,2,none⟩=some c
 c3:Z.cell? ⟨k,3,none⟩=some d
 fr:∀ j,Z.frozen? ⟨k,j,none⟩=false
theorem B4.keep {Z Y:World} {k:Nat} {a b c d:Value} (h:B4 Z k a b c d) (hk:Y.heap[k]?=Z.heap[k]?):B4 Y k a b c d :=
 ⟨by obtain ⟨h1,_⟩:=Array.getElem?_eq_some_iff.1 ((hk.trans (Array.getElem?_eq_getElem h.lt)));exact h1,(World.cell?_of_block (a:=⟨k,0,none⟩) hk).trans h.c0,(World.cell?_of_block (a:=⟨k,1,none⟩) hk).trans h.c1,(World.cell?_of_block (a:=⟨k,2,none⟩) hk).trans h.c2,(World.cell?_of_block (a:=⟨k,3,none⟩) hk).trans h.c3,fun j=>by have:=h.fr j;simp only [World.frozen?] at this ⊢;rw [hk];exact this⟩
theorem B4.below {Z Y:World} {k:Nat} {a b c d:Value} (h:B4 Z k a b c d) (hb:Below Z.heap.size Z Y):B4 Y k a b c d:=h.keep (hb.block k h.lt)
theorem B4.grown {Z Y:World} {k:Nat} {row:Option Nat} {a b c d:Value} (h:B4 Z k a b c d) (hg:Z.grownBy Y row) (hn:row≠some k):B4 Y k a b c d:=h.keep (hg.block k h.lt (fun e=>hn e.symm))
theorem B4.new (w:World) (a b c d:Value) (t:TypeId):B4 (w.alloc (.cells #[a,b,c,d] t)) w.heap.size a b c d:=by
 obtain ⟨⟨h0,h1,h2,h3⟩,hf⟩:=fourF (Below.refl _ (w.alloc (.cells #[a,b,c,d] t))) (by simp) (heap_alloc_new w _);exact ⟨by simp,h0,h1,h2,h3,hf⟩
theorem B4.s0 {Z:World} {k:Nat} {a b c d:Value} (h:B4 Z k a b c d) (u:Value):B4 (Z.setCell ⟨k,0,none⟩ u) k u b c d :=
 ⟨by simpa using h.lt,setS h.c0,setO (by decide) h.c1,setO (by decide) h.c2,setO (by decide) h.c3,fun j=>by simpa using h.fr j⟩
theorem B4.s1 {Z:World} {k:Nat} {a b c d:Value} (h:B4 Z k a b c d) (u:Value):B4 (Z.setCell ⟨k,1,none⟩ u) k a u c d :=
 ⟨by simpa using h.lt,setO (by decide) h.c0,setS h.c1,setO (by decide) h.c2,setO (by decide) h.c3,fun j=>by simpa using h.fr j⟩
theorem B4.s2 {Z:World} {k:Nat} {a b c d:Value} (h:B4 Z k a b c d) (u:Value):B4 (Z.setCell ⟨k,2,none⟩ u) k a b u d :=
 ⟨by simpa using h.lt,setO (by decide) h.c0,setO (by decide) h.c1,setS h.c2,setO (by decide) h.c3,fun j=>by simpa using h.fr j⟩
theorem B4.s3 {Z:World} {k:Nat} {a b c d:Value} (h:B4 Z k a b c d) (u:Value):B4 (Z.setCell ⟨k,3,none⟩ u) k a b c u :=
 ⟨by simpa using h.lt,setO (by decide) h.c0,setO (by decide) h.c1,setO (by decide) h.c2,setS h.c3,fun j=>by simpa using h.fr j⟩
structure B6 (Z:World) (k:Nat) (a b c d e f:Value):Prop where
 lt:k<Z.heap.size
 c0:Z.cell? ⟨k,0,none⟩=some a
 c1:Z.cell? ⟨k,1,none⟩=some b
 c2:Z.cell? ⟨k,2,none⟩=some c
 c3:Z.cell? ⟨k,3,none⟩=some d
 c4:Z.cell? ⟨k,4,none⟩=some e
 c5:Z.cell? ⟨k,5,none⟩=some f
 fr:∀ j,Z.frozen? ⟨k,j,none⟩=false
theorem B6.keep {Z Y:World} {k:Nat} {a b c d e f:Value} (h:B6 Z k a b c d e f) (hk:Y.heap[k]?=Z.heap[k]?):B6 Y k a b c d e f :=
 ⟨by obtain ⟨h1,_⟩:=Array.getElem?_eq_some_iff.1 ((hk.trans (Array.getElem?_eq_getElem h.lt)));exact h1,(World.cell?_of_block (a:=⟨k,0,none⟩) hk).trans h.c0,(World.cell?_of_block (a:=⟨k,1,none⟩) hk).trans h.c1,(World.cell?_of_block (a:=⟨k,2,none⟩) hk).trans h.c2,(World.cell?_of_block (a:=⟨k,3,none⟩) hk).trans h.c3,(World.cell?_of_block (a:=⟨k,4,none⟩) hk).trans h.c4,(World.cell?_of_block (a:=⟨k,5,none⟩) hk).trans h.c5,fun j=>by have:=h.fr j;simp only [World.frozen?] at this ⊢;rw [hk];exact this⟩
theorem B6.below {Z Y:World} {k:Nat} {a b c d e f:Value} (h:B6 Z k a b c d e f) (hb:Below Z.heap.size Z Y):B6 Y k a b c d e f:=h.keep (hb.block k h.lt)
theorem B6.grown {Z Y:World} {k:Nat} {row:Option Nat} {a b c d e f:Value} (h:B6 Z k a b c d e f) (hg:Z.grownBy Y row) (hn:row≠some k):B6 Y k a b c d e f:=h.keep (hg.block k h.lt (fun e=>hn e.symm))
theorem B6.new (w:World) (a b c d e f:Value) (t:TypeId):B6 (w.alloc (.cells #[a,b,c,d,e,f] t)) w.heap.size a b c d e f:=by
 obtain ⟨⟨h0,h1,h2,h3,h4,h5⟩,hf⟩:=sixF (Below.refl _ (w.alloc (.cells #[a,b,c,d,e,f] t))) (by simp) (heap_alloc_new w _);exact ⟨by simp,h0,h1,h2,h3,h4,h5,hf⟩
theorem B6.s0 {Z:World} {k:Nat} {a b c d e f:Value} (h:B6 Z k a b c d e f) (u:Value):B6 (Z.setCell ⟨k,0,none⟩ u) k u b c d e f :=
 ⟨by simpa using h.lt,setS h.c0,setO (by decide) h.c1,setO (by decide) h.c2,setO (by decide) h.c3,setO (by decide) h.c4,setO (by decide) h.c5,fun j=>by simpa using h.fr j⟩
theorem B6.s1 {Z:World} {k:Nat} {a b c d e f:Value} (h:B6 Z k a b c d e f) (u:Value):B6 (Z.setCell ⟨k,1,none⟩ u) k a u c d e f :=
 ⟨by simpa using h.lt,setO (by decide) h.c0,setS h.c1,setO (by decide) h.c2,setO (by decide) h.c3,setO (by decide) h.c4,setO (by decide) h.c5,fun j=>by simpa using h.fr j⟩
theorem B6.s2 {Z:World} {k:Nat} {a b c d e f:Value} (h:B6 Z k a b c d e f) (u:Value):B6 (Z.setCell ⟨k,2,none⟩ u) k a b u d e f :=
 ⟨by simpa using h.lt,setO (by decide) h.c0,setO (by decide) h.c1,setS h.c2,setO (by decide) h.c3,setO (by decide) h.c4,setO (by decide) h.c5,fun j=>by simpa using h.fr j⟩
theorem B6.s3 {Z:World} {k:Nat} {a b c d e f:Value} (h:B6 Z k a b c d e f) (u:Value):B6 (Z.setCell ⟨k,3,none⟩ u) k a b c u e f :=
 ⟨by simpa using h.lt,setO (by decide) h.c0,setO (by decide) h.c1,setO (by decide) h.c2,setS h.c3,setO (by decide) h.c4,setO (by decide) h.c5,fun j=>by simpa using h.fr j⟩
theorem B6.s4 {Z:World} {k:Nat} {a b c d e f:Value} (h:B6 Z k a b c d e f) (u:Value):B6 (Z.setCell ⟨k,4,none⟩ u) k a b c d u f :=
 ⟨by simpa using h.lt,setO (by decide) h.c0,setO (by decide) h.c1,setO (by decide) h.c2,setO (by decide) h.c3,setS h.c4,setO (by decide) h.c5,fun j=>by simpa using h.fr j⟩
theorem B6.s5 {Z:World} {k:Nat} {a b c d e f:Value} (h:B6 Z k a b c d e f) (u:Value):B6 (Z.setCell ⟨k,5,none⟩ u) k a b c d e u :=
 ⟨by simpa using h.lt,setO (by decide) h.c0,setO (by decide) h.c1,setO (by decide) h.c2,setO (by decide) h.c3,setO (by decide) h.c4,setS h.c5,fun j=>by simpa using h.fr j⟩
theorem za2.put {w w':World} {base g n c:Nat} {xs:List TV} {i:Nat} (h:za2 w base (.slice (some ⟨g,0,none⟩) n c) xs) (hi:i<xs.length) (y:TV) (hg:w.grownBy w' (some g))
 (hr:w'.ownsRow base 42 6 (.slice (some ⟨g,0,none⟩) n c) xs.length (tksV (xs.set i y))) (ha:y.2=xs[i].2) (hn:y.1.2.1=xs[i].1.2.1):za2 w' base (.slice (some ⟨g,0,none⟩) n c) (xs.set i y):=by
 refine ⟨by rw [List.length_set];exact hr,fun z hz=>?_⟩;have keep:∀ x∈xs,w'.ownsRow base 2 1 (tvT x) x.1.2.1.length (zaY x.1.2.1):=fun x hx=>(h.trees x hx).kept hg (zba (h.trees x hx) h.row (by decide))
 obtain ⟨j,hj,rfl⟩:=List.mem_iff_getElem.1 hz;rw [List.length_set] at hj;rw [List.getElem_set];by_cases hij:i=j
 ·subst hij;rw [if_pos rfl];have:=keep _ (List.getElem_mem hi);unfold tvT at this ⊢;rw [ha,hn];exact this
 ·rw [if_neg hij];exact keep _ (List.getElem_mem hj)
theorem zdn {xs:List TV} {i:Nat} (hi:i<xs.length) (y:TV) (ha:y.2=xs[i].2) (hn:y.1.2.1=xs[i].1.2.1) (h:zai (xs.map tvT)):zai ((xs.set i y).map tvT):=by
 have e:(xs.set i y).map tvT=xs.map tvT:=by
  rw [List.map_set];have hy:tvT y=(xs.map tvT)[i]'(by simpa using hi):=by rw [List.getElem_map];unfold tvT;rw [ha,hn]
  rw [hy,List.set_getElem_self]
 rw [e];exact h
theorem new_tk (w:World) (x:TV) (c:Nat):Src (w.alloc (.cells #[.string ⟨x.1.1.toArray⟩,tvT x,.int .i64 x.1.2.2.1,.int .i64 x.1.2.2.2.1,.int .i64 x.1.2.2.2.2.1,.int .i64 x.1.2.2.2.2.2] 42)) (.slice (some ⟨w.heap.size,0,none⟩) 1 c) 1 6 (tksV [x]):=by
 refine ⟨rfl,zly _,Or.inr ⟨_,c,rfl,fun j u hu=>?_⟩⟩;rw [zfD,Nat.zero_add]
 match j,hu with
 | 0,hu=>simp [tksV] at hu;subst hu;simp
 | 1,hu=>simp [tksV] at hu;subst hu;simp
 | 2,hu=>simp [tksV] at hu;subst hu;simp
 | 3,hu=>simp [tksV] at hu;subst hu;simp
 | 4,hu=>simp [tksV] at hu;subst hu;simp
 | 5,hu=>simp [tksV] at hu;subst hu;simp
 | j+6,hu=>simp [tksV] at hu
theorem zky {X:World} {B:Nat} {v:Value} {xs:List TV} (h:za2 X B v xs) (x:TV) (ht:X.ownsRow B 2 1 (tvT x) x.1.2.1.length (zaY x.1.2.1)) (hb:B≤X.heap.size) (hn:xs.length≤1048576) :
 ∃ v' Y,(Builtin.append_ #[24,24] 24 #[v,.slice (some ⟨X.heap.size,0,none⟩) 1 1]).run Tryz.prog (X.alloc (.cells #[.string ⟨x.1.1.toArray⟩,tvT x,.int .i64 x.1.2.2.1,.int .i64 x.1.2.2.2.1,.int .i64 x.1.2.2.2.2.1,.int .i64 x.1.2.2.2.2.2] 42))=.ok v' Y∧za2 Y B v' (xs++[x])∧X.grownBy Y v.ownBlock:=by
 obtain ⟨i0,hi,hz0,hz1,hz2⟩:=info_parts zm3;obtain ⟨O,hO⟩:∃ O,Obj.cells #[.string ⟨x.1.1.toArray⟩,tvT x,.int .i64 x.1.2.2.1,.int .i64 x.1.2.2.2.1,.int .i64 x.1.2.2.2.2.1,.int .i64 x.1.2.2.2.2.2] 42=O:=⟨_,rfl⟩
 have hs:=new_tk X x 1;rw [hO] at hs ⊢;obtain ⟨v',Y,hrun,hown,hg,_⟩:=zar (P:=Tryz.prog) (X.alloc O) B 24 24 42 i0 _ 6 72 Tryz.underlying24 hi hz0 hz1 hz2 rfl (by decide) _ _ _ (h.row.alloc _) _ 1 (tksV [x]) hs (by unfold maxLen;omega) (by omega) (by simp;omega);refine ⟨v',Y,hrun,⟨?_,fun z hz=>?_⟩,(World.grownBy_alloc X _ _).trans hg⟩
 ·rw [zkh,List.length_append];exact hown
 ·
  have hrow:=h.row.alloc O;rcases List.mem_append.1 hz with h1 | h1
  ·have h2:=(h.trees z h1).alloc O;exact h2.kept hg (zba h2 hrow (by decide))
  ·rw [List.mem_singleton.1 h1];have h2:=ht.alloc O;exact h2.kept hg (zba h2 hrow (by decide))
theorem zjl {w:World} {base e size n R:Nat} {v:Value} {xs:List Value} (h:w.ownsRow base e size v n xs) (hR:w.heap.size≤R):v.ownBlock=none∨v.ownBlock≠some R:=by
 rcases hv:v.ownBlock with _ | k
 ·exact Or.inl rfl
 ·refine Or.inr (fun e=>?_);have:=(h.lt k hv).2;injection e with e;omega
theorem zoe {w:World} {base:Nat} {v:Value} {xs:List TV} (h:za2 w base v xs):∃ a c,v=.slice a xs.length c:=by
 obtain ⟨a,c,e,_⟩:=h.ok;exact ⟨a,c,e⟩
end Go.Proofs.YtponeoijfaepnaaGreatDoor
