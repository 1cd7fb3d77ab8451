/-
  Parts of one proof, one behind the other: TaskS2, RtU, TkO, TkL, TkT.
-/
import Derived.Test.YtdbljnddkbpanaaGreatDoorP14
import Derived.Test.YtdbljnddkbpanaaGreatDoorP6
import Derived.Test.YtdbljnddkbpanaaGreatDoorP2
import Derived.Deep.RegionHeld3
import Derived.Deep.Cut
import Derived.BigQuiet
namespace Go.Proofs.YtdbljnddkbpanaaGreatDoor
open Go.RowKit
def zaK (w:World) (a:Option Addr) (len:Nat) (ts:List Ta):Prop :=
 ts.length=len∧∀ j,j<len→∃ b off,a=some ⟨b,off,none⟩∧b<w.heap.size∧w.cell? ⟨b,off+j*6,none⟩=some (.string ⟨(ts.getD j ta0).1.toArray⟩) ∧
  (∃ na nc,w.cell? ⟨b,off+j*6+1,none⟩=some (.slice na (ts.getD j ta0).2.1.length nc)∧AsIn w na (ts.getD j ta0).2.1) ∧
  w.cell? ⟨b,off+j*6+2,none⟩=some (.int .i64 (ts.getD j ta0).2.2.1)∧w.cell? ⟨b,off+j*6+3,none⟩=some (.int .i64 (ts.getD j ta0).2.2.2.1) ∧
  w.cell? ⟨b,off+j*6+4,none⟩=some (.int .i64 (ts.getD j ta0).2.2.2.2.1)∧w.cell? ⟨b,off+j*6+5,none⟩=some (.int .i64 (ts.getD j ta0).2.2.2.2.2)
theorem zaK.below {w w':World} {a:Option Addr} {len:Nat} {ts:List Ta} (h:zaK w a len ts) (hb:Below w.heap.size w w'):zaK w' a len ts:=by
 refine ⟨h.1,fun j hj=>?_⟩
 obtain ⟨b,off,e,hlt,c0,⟨na,nc,c1,hn⟩,c2,c3,c4,c5⟩:=h.2 j hj
 exact ⟨b,off,e,Nat.lt_of_lt_of_le hlt hb.size,(hb.cell (p:=⟨b,off+j*6,none⟩) hlt).trans c0,⟨na,nc,(hb.cell (p:=⟨b,off+j*6+1,none⟩) hlt).trans c1,hn.below hb⟩,
  (hb.cell (p:=⟨b,off+j*6+2,none⟩) hlt).trans c2,(hb.cell (p:=⟨b,off+j*6+3,none⟩) hlt).trans c3,(hb.cell (p:=⟨b,off+j*6+4,none⟩) hlt).trans c4,(hb.cell (p:=⟨b,off+j*6+5,none⟩) hlt).trans c5⟩
def zav (ts:List Ta):Prop:=∀ j,(ts.getD j ta0).1.length≤1048576∧(ts.getD j ta0).2.1.length≤1048576
theorem zmb (t:Int) (w:World):Calls Tryz.prog 63 #[.int .i64 t] w fun e w'=>e=.returned (.bool (inB t 0 1000000))∧w'=w:=by
 have HI:Hid (_):=zc0 t 0 1000000 w
 generalize inB t 0 1000000=b at HI ⊢
 go_enter Tryz.func63,Tryz.ntmps63
 go_wp2_with (go_at_call 38;refine Calls.mono HI.out ?_;rintro e w1 ⟨rfl,rfl⟩)
 go_ret
 exact ⟨rfl,rfl⟩
theorem zl5 (t:Int) (w:World):Calls Tryz.prog 60 #[.int .i64 t] w fun e w'=>e=.returned (.bool (zbA t))∧w'=w:=by
 unfold zbA
 have HI:Hid (_):=zc0 t 0 2147483646 w
 generalize inB t 0 2147483646=b at HI ⊢
 go_enter Tryz.func60,Tryz.ntmps60
 go_wp2_with (go_at_call 38;refine Calls.mono HI.out ?_;rintro e w1 ⟨rfl,rfl⟩)
 go_ret
 exact ⟨rfl,rfl⟩
set_option maxHeartbeats 4000000 in
set_option maxRecDepth 100000 in
theorem specTask (nm:List UInt8) (na:Option Addr) (nc:Nat) (ns:List Int) (st wk un ke own:Int) (w:World) (hin:AsIn w na ns) (hlen:ns.length≤1048576) :
 Calls Tryz.prog 65 #[.agg #[.string ⟨nm.toArray⟩,.slice na ns.length nc,.int .i64 st,.int .i64 wk,.int .i64 un,.int .i64 ke],.int .i64 own] w
  fun e w'=>e=.returned (.bool (zcd own (nm,ns,st,wk,un,ke)))∧Below w.heap.size w w':=by
 obtain ⟨W,hW⟩:∃ W,w.alloc (.cells #[.string ⟨nm.toArray⟩,.slice na ns.length nc,.int .i64 st,.int .i64 wk,.int .i64 un,.int .i64 ke] 40)=W:=⟨_,rfl⟩
 have hbW:Below w.heap.size w W:=by rw [←hW];exact (Below.refl _ _).alloc (Nat.le_refl _) _
 have hA:W.heap[w.heap.size]?=some (.cells #[.string ⟨nm.toArray⟩,.slice na ns.length nc,.int .i64 st,.int .i64 wk,.int .i64 un,.int .i64 ke] 40):=by rw [←hW];exact heap_alloc_new w _
 obtain ⟨D,hD⟩:∃ D,w.heap.size=D:=⟨_,rfl⟩
 rw [hD] at hA
 have k1:W.cell? ⟨D,1,none⟩=some (.slice na ns.length nc):=by simp [World.cell?,hA]
 have k2:W.cell? ⟨D,2,none⟩=some (.int .i64 st):=by simp [World.cell?,hA]
 have k3:W.cell? ⟨D,3,none⟩=some (.int .i64 wk):=by simp [World.cell?,hA]
 have k4:W.cell? ⟨D,4,none⟩=some (.int .i64 un):=by simp [World.cell?,hA]
 have k5:W.cell? ⟨D,5,none⟩=some (.int .i64 ke):=by simp [World.cell?,hA]
 have hDl:D<W.heap.size:=World.block_lt_of_cell? W ⟨D,1,none⟩ k1
 have HI:Hid (∀ Z,Below W.heap.size W Z→AsIn Z na ns):=fun Z hz=>(hin.below hbW).below hz
 have HB:Hid (∀ Z,Below W.heap.size W Z→Below D w Z):=fun Z hz=>hD▸hbW.trans (hz.mono hbW.size)
 have HC:Hid (∀ Z,Below W.heap.size W Z→Z.cell? ⟨D,1,none⟩=some (.slice na ns.length nc)∧Z.cell? ⟨D,2,none⟩=some (.int .i64 st)∧Z.cell? ⟨D,3,none⟩=some (.int .i64 wk)∧Z.cell? ⟨D,4,none⟩=some (.int .i64 un)∧Z.cell? ⟨D,5,none⟩=some (.int .i64 ke)):=fun Z hz =>
  ⟨(hz.cell (p:=⟨D,1,none⟩) hDl).trans k1,(hz.cell (p:=⟨D,2,none⟩) hDl).trans k2,(hz.cell (p:=⟨D,3,none⟩) hDl).trans k3,(hz.cell (p:=⟨D,4,none⟩) hDl).trans k4,(hz.cell (p:=⟨D,5,none⟩) hDl).trans k5⟩
 have HW:Hid (∀ Z,_):=fun Z=>zc0 wk 0 3 Z
 have HU:Hid (∀ Z,_):=fun Z=>zmb un Z
 have HK:Hid (∀ Z,_):=fun Z=>zl5 ke Z
 have HB0:Hid (Below W.heap.size W W):=Below.refl _ _
 clear hin hbW hA k2 k3 k4 k5 hDl
 go_enter Tryz.func65,Tryz.ntmps65
 go_wp2
 go_loopw [5] (fun iv wr=>∃ j:Nat,iv=.int .i64 (j:Int)∧j≤ns.length∧Hid (∀ q,q<j→zbm own ns q)∧Hid (Below W.heap.size W wr)) (fun iv _=>ns.length-(intOf iv).toNat)
 case atStart=>exact ⟨0,rfl,by omega,fun q hq=>by omega,HB0⟩
 case round =>
  obtain ⟨j,rfl,hj,HA,HBr⟩:=hrel
  clear k1
  obtain ⟨k1,k2,k3,k4,k5⟩:=HC.out wr HBr.out
  have HBd:Hid (Below W.heap.size W wr.drew):=HBr.out.trans (by exact ⟨rfl,rfl,rfl,Nat.le_refl _,fun _ _=>rfl⟩)
  have HIr:Hid (_):=HI.out wr HBr.out
  by_cases hlt:(j:Int)<(ns.length:Int)
  ·
   obtain ⟨b,off,rfl,hbl,c0⟩:=HIr.out j (by omega)
   obtain ⟨x,hx⟩:∃ x,ns.getD j 0=x:=⟨_,rfl⟩
   rw [hx] at c0
   have hgo:¬zbm own ns j→zcd own (nm,ns,st,wk,un,ke)=false:=fun hn=>by
    unfold zcd
    rw [zk2 (by omega) hn]
    rfl
   rcases Nat.eq_zero_or_pos j with hz | hz
   ·
    subst hz
    rw [Nat.add_zero] at c0
    by_cases hok:zbm own ns 0
    ·
     have hn:=hok
     unfold zbm at hn
     rw [hx] at hn
     have HR:Hid (∀ q,q<0+1→zbm own ns q):=fun q hq=>by
      obtain rfl:q=0:=by omega
      exact hok
     obtain ⟨h1,h2,_⟩:=hn
     clear HA hx hgo hok
     (try have hd1:decide (x<0)=true:=decide_eq_true (by omega))
     (try have hd2:decide (x<0)=false:=decide_eq_false (by omega))
     (try have hd3:decide (own≤x)=true:=decide_eq_true (by omega))
     (try have hd4:decide (own≤x)=false:=decide_eq_false (by omega))
     (try have hd5:decide (x≤y)=true:=decide_eq_true (by omega))
     (try have hd6:decide (x≤y)=false:=decide_eq_false (by omega))
     go_wp2
     go_quiet (fail)
     go_wp2
     go_roundw
     case rel=>exact ⟨0+1,by go_num,by omega,HR,below_drewN HBr.out _⟩
     case measure=>simp [intOf];omega
    ·
     have HF:Hid (_):=hgo hok
     unfold zbm at hok
     rw [hx] at hok
     have hno:x<0∨own≤x:=by omega
     clear HA hx hgo hok
     rcases Int.lt_or_le x 0 with h1 | h1
     ·
      go_wp2
      go_quiet (fail)
      go_wp2
      go_ret
      exact ⟨by rw [HF.out];rfl,hD▸HB.out _ (below_drewN HBr.out _)⟩
     ·
      have h2:own≤x:=by omega
      (try have hd1:decide (x<0)=true:=decide_eq_true (by omega))
      (try have hd2:decide (x<0)=false:=decide_eq_false (by omega))
      (try have hd3:decide (own≤x)=true:=decide_eq_true (by omega))
      (try have hd4:decide (own≤x)=false:=decide_eq_false (by omega))
      (try have hd5:decide (x≤y)=true:=decide_eq_true (by omega))
      (try have hd6:decide (x≤y)=false:=decide_eq_false (by omega))
      go_wp2
      go_quiet (fail)
      go_wp2
      go_ret
      exact ⟨by rw [HF.out];rfl,hD▸HB.out _ (below_drewN HBr.out _)⟩
   ·
    obtain ⟨j,rfl⟩:∃ i,j=i+1:=⟨j-1,by omega⟩
    obtain ⟨b2,off2,e2,hbl2,c1⟩:=HIr.out j (by omega)
    injection e2 with e2
    injection e2 with e3 e4
    subst e3 e4
    have hwj:IntKind.i64.wrap (j:Int)=(j:Int):=by rw [IntKind.wrap_i64];omega
    obtain ⟨y,hy⟩:∃ y,ns.getD j 0=y:=⟨_,rfl⟩
    rw [hy] at c1
    by_cases hok:zbm own ns (j+1)
    ·
     have hn:=hok
     unfold zbm at hn
     rw [Nat.add_sub_cancel,hx,hy] at hn
     have HR:Hid (∀ q,q<j+1+1→zbm own ns q):=fun q hq=>by
      rcases Nat.lt_or_ge q (j+1) with g | g
      ·
       exact HA.out q g
      ·
       obtain rfl:q=j+1:=by omega
       exact hok
     obtain ⟨h1,h2,h3⟩:=hn
     have h3:=h3 (by omega)
     clear HA hx hy hgo hok
     (try have hd1:decide (x<0)=true:=decide_eq_true (by omega))
     (try have hd2:decide (x<0)=false:=decide_eq_false (by omega))
     (try have hd3:decide (own≤x)=true:=decide_eq_true (by omega))
     (try have hd4:decide (own≤x)=false:=decide_eq_false (by omega))
     (try have hd5:decide (x≤y)=true:=decide_eq_true (by omega))
     (try have hd6:decide (x≤y)=false:=decide_eq_false (by omega))
     go_wp2
     go_quiet (fail)
     go_wp2
     go_roundw
     case rel=>exact ⟨j+1+1,by go_num,by omega,HR,below_drewN HBr.out _⟩
     case measure=>simp [intOf];omega
    ·
     have HF:Hid (_):=hgo hok
     unfold zbm at hok
     rw [Nat.add_sub_cancel,hx,hy] at hok
     clear HA hx hy hgo
     rcases Int.lt_or_le x 0 with h1 | h1
     ·
      go_wp2
      go_quiet (fail)
      go_wp2
      go_ret
      exact ⟨by rw [HF.out];rfl,hD▸HB.out _ (below_drewN HBr.out _)⟩
     ·
      rcases Int.lt_or_le x own with h2 | h2
      ·
       have h3:x≤y:=by
        rcases Int.lt_or_le y x with g | g
        ·
         exact absurd ⟨h1,h2,fun _=>g⟩ hok
        ·
         exact g
       clear hok
       (try have hd1:decide (x<0)=true:=decide_eq_true (by omega))
       (try have hd2:decide (x<0)=false:=decide_eq_false (by omega))
       (try have hd3:decide (own≤x)=true:=decide_eq_true (by omega))
       (try have hd4:decide (own≤x)=false:=decide_eq_false (by omega))
       (try have hd5:decide (x≤y)=true:=decide_eq_true (by omega))
       (try have hd6:decide (x≤y)=false:=decide_eq_false (by omega))
       go_wp2
       go_quiet (fail)
       go_wp2
       go_ret
       exact ⟨by rw [HF.out];rfl,hD▸HB.out _ (below_drewN HBr.out _)⟩
      ·
       clear hok
       (try have hd1:decide (x<0)=true:=decide_eq_true (by omega))
       (try have hd2:decide (x<0)=false:=decide_eq_false (by omega))
       (try have hd3:decide (own≤x)=true:=decide_eq_true (by omega))
       (try have hd4:decide (own≤x)=false:=decide_eq_false (by omega))
       (try have hd5:decide (x≤y)=true:=decide_eq_true (by omega))
       (try have hd6:decide (x≤y)=false:=decide_eq_false (by omega))
       go_wp2
       go_quiet (fail)
       go_wp2
       go_ret
       exact ⟨by rw [HF.out];rfl,hD▸HB.out _ (below_drewN HBr.out _)⟩
  ·
   have HR:Hid (zcT own ns=true):=zfx (fun q hq=>HA.out q (by omega))
   have HT:Hid (zcd own (nm,ns,st,wk,un,ke)=zcn (nm,ns,st,wk,un,ke)):=by
    show (zcT own ns && zcn (nm,ns,st,wk,un,ke))=_
    rw [HR.out]
    rfl
   have hT:=HT.out
   clear HA HR HT HI HIr HC
   unfold zcn at hT
   simp only at hT
   by_cases h0:st=0
   ·
    rw [if_pos h0] at hT
    subst h0
    by_cases h3:wk=0
    ·
     by_cases h4:un=0
     ·
      by_cases h5:ke=0
      ·
       have HF:Hid (zcd own (nm,ns,0,wk,un,ke)=true):=by rw [hT];exact decide_eq_true ⟨h3,h4,h5⟩
       clear hT
       subst h3 h4 h5
       go_wp2
       go_ret
       exact ⟨by rw [HF.out];rfl,hD▸HB.out _ HBr.out⟩
      ·
       have HF:Hid (zcd own (nm,ns,0,wk,un,ke)=false):=by rw [hT];exact decide_eq_false (fun e=>h5 e.2.2)
       clear hT
       subst h3 h4
       go_wp2
       go_ret
       exact ⟨(congrArg (fun b=>Ending.returned (Value.bool b)) (decide_eq_false h5)).trans (by rw [HF.out]),hD▸HB.out _ HBr.out⟩
     ·
      have HF:Hid (zcd own (nm,ns,0,wk,un,ke)=false):=by rw [hT];exact decide_eq_false (fun e=>h4 e.2.1)
      clear hT
      subst h3
      go_wp2
      go_ret
      exact ⟨by rw [HF.out];rfl,hD▸HB.out _ HBr.out⟩
    ·
     have HF:Hid (zcd own (nm,ns,0,wk,un,ke)=false):=by rw [hT];exact decide_eq_false (fun e=>h3 e.1)
     clear hT
     go_wp2
     go_ret
     exact ⟨by rw [HF.out];rfl,hD▸HB.out _ HBr.out⟩
   ·
    rw [if_neg h0] at hT
    by_cases h1:st=1
    ·
     rw [if_pos h1] at hT
     subst h1
     have HWr:Hid (_):=HW.out wr
     have HUr:Hid (_):=HU.out wr
     generalize inB wk 0 3=b3 at hT HWr
     generalize inB un 0 1000000=b4 at hT HUr
     clear HW HU HK
     rcases b3 with _ | _
     ·
      have HF:Hid (zcd own (nm,ns,1,wk,un,ke)=false):=hT
      go_wp2_with (go_at_call 38;refine Calls.mono HWr.out ?_;rintro e w1 ⟨rfl,rfl⟩)
      go_ret
      exact ⟨by rw [HF.out];rfl,hD▸HB.out _ HBr.out⟩
     ·
      rcases b4 with _ | _
      ·
       have HF:Hid (zcd own (nm,ns,1,wk,un,ke)=false):=hT
       go_wp2_with (first | (go_at_call 38;refine Calls.mono HWr.out ?_;rintro e w1 ⟨rfl,rfl⟩) | (go_at_call 63;refine Calls.mono HUr.out ?_;rintro e w1 ⟨rfl,rfl⟩))
       go_ret
       exact ⟨by rw [HF.out];rfl,hD▸HB.out _ HBr.out⟩
      ·
       by_cases h5:ke=0
       ·
        have HF:Hid (zcd own (nm,ns,1,wk,un,ke)=true):=by rw [hT,decide_eq_true h5];rfl
        clear hT
        subst h5
        go_wp2_with (first | (go_at_call 38;refine Calls.mono HWr.out ?_;rintro e w1 ⟨rfl,rfl⟩) | (go_at_call 63;refine Calls.mono HUr.out ?_;rintro e w1 ⟨rfl,rfl⟩))
        go_ret
        exact ⟨by rw [HF.out];rfl,hD▸HB.out _ HBr.out⟩
       ·
        have HF:Hid (zcd own (nm,ns,1,wk,un,ke)=false):=by rw [hT,decide_eq_false h5];rfl
        clear hT
        go_wp2_with (first | (go_at_call 38;refine Calls.mono HWr.out ?_;rintro e w1 ⟨rfl,rfl⟩) | (go_at_call 63;refine Calls.mono HUr.out ?_;rintro e w1 ⟨rfl,rfl⟩))
        go_ret
        exact ⟨(congrArg (fun b=>Ending.returned (Value.bool b)) (decide_eq_false h5)).trans (by rw [HF.out]),hD▸HB.out _ HBr.out⟩
    ·
     rw [if_neg h1] at hT
     by_cases h2:st=2
     ·
      rw [if_pos h2] at hT
      subst h2
      have HKr:Hid (_):=HK.out wr
      generalize zbA ke=b5 at hT HKr
      clear HW HU HK
      by_cases h3:wk=0
      ·
       by_cases h4:un=0
       ·
        have HF:Hid (zcd own (nm,ns,2,wk,un,ke)=b5):=by rw [hT,decide_eq_true ⟨h3,h4⟩];rfl
        clear hT
        subst h3 h4
        go_wp2_with (go_at_call 60;refine Calls.mono HKr.out ?_;rintro e w1 ⟨rfl,rfl⟩)
        go_ret
        exact ⟨by rw [HF.out];rfl,hD▸HB.out _ HBr.out⟩
       ·
        have HF:Hid (zcd own (nm,ns,2,wk,un,ke)=false):=by rw [hT,decide_eq_false (fun e=>h4 e.2)];rfl
        clear hT
        subst h3
        go_wp2
        go_ret
        exact ⟨by rw [HF.out];rfl,hD▸HB.out _ HBr.out⟩
      ·
       have HF:Hid (zcd own (nm,ns,2,wk,un,ke)=false):=by rw [hT,decide_eq_false (fun e=>h3 e.1)];rfl
       clear hT
       go_wp2
       go_ret
       exact ⟨by rw [HF.out];rfl,hD▸HB.out _ HBr.out⟩
     ·
      rw [if_neg h2] at hT
      have HF:Hid (zcd own (nm,ns,st,wk,un,ke)=false):=hT
      clear hT
      go_wp2
      go_ret
      exact ⟨by rw [HF.out];rfl,hD▸HB.out _ HBr.out⟩
structure zaS (w w':World) (S:Nat→Prop):Prop where
 os:w'.os=w.os
 tape:w'.tape=w.tape
 output:w'.output=w.output
 size:w.heap.size≤w'.heap.size
 block:∀ k,k<w.heap.size→¬S k→w'.heap[k]?=w.heap[k]?
theorem zaS.refl (w:World) (S:Nat→Prop):zaS w w S:=⟨rfl,rfl,rfl,Nat.le_refl _,fun _ _ _=>rfl⟩
theorem zaS.trans {a b c:World} {S:Nat→Prop} (h:zaS a b S) (k:zaS b c S):zaS a c S :=
 ⟨k.os.trans h.os,k.tape.trans h.tape,k.output.trans h.output,Nat.le_trans h.size k.size,fun i hi hs=>(k.block i (Nat.lt_of_lt_of_le hi h.size) hs).trans (h.block i hi hs)⟩
theorem zaS.mono {w w':World} {S T:Nat→Prop} (h:zaS w w' S) (hs:∀ k,S k→T k):zaS w w' T:=⟨h.os,h.tape,h.output,h.size,fun k hk hn=>h.block k hk (fun e=>hn (hs k e))⟩
theorem zaS.of_grown {w w':World} {row:Option Nat} {S:Nat→Prop} (h:w.grownBy w' row) (hs:∀ k,row=some k→S k):zaS w w' S :=
 ⟨h.os,h.tape,h.output,h.size,fun k hk hn=>h.block k hk (fun e=>hn (hs k e.symm))⟩
theorem zaS.of_below {w w':World} {S:Nat→Prop} (h:Below w.heap.size w w'):zaS w w' S:=⟨h.os,h.tape,h.output,h.size,fun k hk _=>h.block k hk⟩
theorem zaS.below {w w':World} {S:Nat→Prop} {B:Nat} (h:zaS w w' S) (hB:B≤w.heap.size) (hs:∀ k,S k→B≤k):Below B w w' :=
 ⟨h.os,h.tape,h.output,h.size,fun k hk=>h.block k (Nat.lt_of_lt_of_le hk hB) (fun e=>by have:=hs k e;omega)⟩
theorem zhY {w w':World} {base e size n:Nat} {v:Value} {xs:List Value} {S:Nat→Prop} (h:w.ownsRow base e size v n xs) (hw:zaS w w' S) (hv:∀ k,v.ownBlock=some k→¬S k):w'.ownsRow base e size v n xs:=by
 refine ⟨h.1,?_⟩
 rcases h.2 with hn | ⟨g,cap,cur,rfl,hb,hgg,rest⟩
 ·
  exact .inl hn
 ·
  refine .inr ⟨g,cap,cur,rfl,hb,?_,rest⟩
  rw [hw.block g (Array.getElem?_eq_some_iff.1 hgg).1 (hv g rfl)]
  exact hgg
def zao (vs:List Value):Prop:=vs.Pairwise (fun a b=>a.ownBlock=none∨a.ownBlock≠b.ownBlock)
theorem zao.ne {vs:List Value} (h:zao vs) {i j:Nat} (hi:i<vs.length) (hj:j<vs.length) (hij:i≠j):vs[i].ownBlock=none∨vs[i].ownBlock≠vs[j].ownBlock:=by
 rcases Nat.lt_or_gt_of_ne hij with hl | hl
 ·
  exact List.pairwise_iff_getElem.1 h i j hi hj hl
 ·
  rcases List.pairwise_iff_getElem.1 h j i hj hi hl with e | e
  ·
   rw [e];cases vs[i].ownBlock<;>simp
  ·
   exact Or.inr (fun e2=>e e2.symm)
theorem zao.nil:zao []:=List.Pairwise.nil
theorem zao.snoc {vs:List Value} {u:Value} (h:zao vs) (hu:∀ v∈vs,v.ownBlock=none∨v.ownBlock≠u.ownBlock):zao (vs++[u]) :=
 List.pairwise_append.2 ⟨h,List.pairwise_singleton _ _,fun a ha b hb=>by rw [List.mem_singleton] at hb;subst hb;exact hu a ha⟩
theorem zpI {w:World} {a:Addr} {v:Value} (o:Obj) (h:w.cell? a=some v):(w.alloc o).cell? a=some v :=
 (World.cell?_of_block (Below.heap_alloc _ _ _ (World.block_lt_of_cell? w a h))).trans h
theorem zcl {w:World} {base e size n R:Nat} {v:Value} {xs:List Value} (h:w.ownsRow base e size v n xs) (hR:R<base):v.ownBlock=none∨v.ownBlock≠some R:=by
 rcases hv:v.ownBlock with _ | k
 ·
  exact Or.inl rfl
 ·
  refine Or.inr (fun e=>?_)
  have:=(h.lt k hv).1
  injection e with e
  omega
theorem zbI {w:World} {b1 b2 e1 e2 s1 s2 n1 n2:Nat} {v1 v2:Value} {xs ys:List Value} (h1:w.ownsRow b1 e1 s1 v1 n1 xs) (h2:w.ownsRow b2 e2 s2 v2 n2 ys) (he:e1≠e2):v1.ownBlock=none∨v1.ownBlock≠v2.ownBlock:=by
 rcases h1.2 with ⟨rfl,_⟩ | ⟨g,c,cur,rfl,_,hg,_⟩
 ·
  exact Or.inl rfl
 ·
  rcases h2.2 with ⟨rfl,_⟩ | ⟨g2,c2,cur2,rfl,_,hg2,_⟩
  ·
   exact Or.inr (by simp [Value.ownBlock])
  ·
   refine Or.inr (fun e=>?_)
   simp only [Value.ownBlock,Option.some.injEq] at e
   subst e
   rw [hg] at hg2
   simp only [Option.some.injEq,Obj.cells.injEq] at hg2
   exact he hg2.2.1
theorem znV (b off i:Nat):(⟨b,off,none⟩:Addr).add i=⟨b,off+i,none⟩:=by unfold Addr.add;split<;>simp_all
abbrev TV:=Ta × Option Addr × Nat
def tvT (x:TV):Value:=.slice x.2.1 x.1.2.1.length x.2.2
def tkV (x:TV):List Value:=[.string ⟨x.1.1.toArray⟩,tvT x,.int .i64 x.1.2.2.1,.int .i64 x.1.2.2.2.1,.int .i64 x.1.2.2.2.2.1,.int .i64 x.1.2.2.2.2.2]
def tksV:List TV→List Value
 | []=>[]
 | x :: r=>.string ⟨x.1.1.toArray⟩ :: tvT x :: .int .i64 x.1.2.2.1 :: .int .i64 x.1.2.2.2.1 :: .int .i64 x.1.2.2.2.2.1 :: .int .i64 x.1.2.2.2.2.2 :: tksV r
def tv0:TV:=(ta0,none,0)
theorem zkZ (x y:List TV):tksV (x++y)=tksV x++tksV y:=by
 induction x with
 | nil=>rfl
 | cons n r ih=>simp [tksV,ih]
theorem tksV_one (xs:List TV):∀ u∈tksV xs,u.oneCell'=true:=by
 induction xs with
 | nil=>intro u hu;cases hu
 | cons n r ih =>
  intro u hu
  simp only [tksV,List.mem_cons] at hu
  rcases hu with rfl | rfl | rfl | rfl | rfl | rfl | h
  ·
   rfl
  ·
   rfl
  ·
   rfl
  ·
   rfl
  ·
   rfl
  ·
   rfl
  ·
   exact ih u h
theorem zfl (xs:List TV) (j:Nat) (hj:j<xs.length):(tksV xs)[j*6]?=some (.string ⟨(xs.getD j tv0).1.1.toArray⟩)∧(tksV xs)[j*6+1]?=some (tvT (xs.getD j tv0))∧(tksV xs)[j*6+2]?=some (.int .i64 (xs.getD j tv0).1.2.2.1)∧(tksV xs)[j*6+3]?=some (.int .i64 (xs.getD j tv0).1.2.2.2.1)∧(tksV xs)[j*6+4]?=some (.int .i64 (xs.getD j tv0).1.2.2.2.2.1)∧(tksV xs)[j*6+5]?=some (.int .i64 (xs.getD j tv0).1.2.2.2.2.2):=by
 induction xs generalizing j with
 | nil=>simp at hj
 | cons n r ih =>
  cases j with
  | zero=>simp [tksV]
  | succ j =>
   obtain ⟨h0,h1,h2,h3,h4,h5⟩:=ih j (by simpa using hj)
   have e:∀ i,(j+1)*6+i=(j*6+i)+1+1+1+1+1+1:=fun i=>by omega
   refine ⟨?_,?_,?_,?_,?_,?_⟩
   ·
    have:=e 0;rw [Nat.add_zero,Nat.add_zero] at this;rw [this];simpa [tksV] using h0
   ·
    rw [e 1];simpa [tksV] using h1
   ·
    rw [e 2];simpa [tksV] using h2
   ·
    rw [e 3];simpa [tksV] using h3
   ·
    rw [e 4];simpa [tksV] using h4
   ·
    rw [e 5];simpa [tksV] using h5
theorem zm9 (xs:List TV) (j:Nat) (y:TV):((((((tksV xs).set (j*6) (.string ⟨y.1.1.toArray⟩)).set (j*6+1) (tvT y)).set (j*6+2) (.int .i64 y.1.2.2.1)).set (j*6+3) (.int .i64 y.1.2.2.2.1)).set (j*6+4) (.int .i64 y.1.2.2.2.2.1)).set (j*6+5) (.int .i64 y.1.2.2.2.2.2)=tksV (xs.set j y):=by
 induction xs generalizing j with
 | nil=>simp [tksV]
 | cons b r ih =>
  cases j with
  | zero=>simp [tksV]
  | succ j=>rw [show (j+1)*6=j*6+1+1+1+1+1+1 by omega];simp [tksV,ih]
structure za9 (w:World) (base:Nat) (v:Value) (xs:List TV):Prop where
 row:w.ownsRow base 40 6 v xs.length (tksV xs)
 trees:∀ x∈xs,w.ownsRow base 2 1 (tvT x) x.1.2.1.length (zbw x.1.2.1)
theorem za9.below {w w':World} {base:Nat} {v:Value} {xs:List TV} (h:za9 w base v xs) (hb:Below w.heap.size w w'):za9 w' base v xs:=⟨za6 h.row hb,fun x hx=>za6 (h.trees x hx) hb⟩
theorem za9.kept {w w':World} {base:Nat} {v:Value} {xs:List TV} {row:Option Nat} (h:za9 w base v xs) (hg:w.grownBy w' row) (h1:v.ownBlock=none∨v.ownBlock≠row) (h2:∀ x∈xs,(tvT x).ownBlock=none∨(tvT x).ownBlock≠row):za9 w' base v xs :=
 ⟨h.row.kept hg h1,fun x hx=>(h.trees x hx).kept hg (h2 x hx)⟩
theorem za9.base {w:World} {base b2:Nat} {v:Value} {xs:List TV} (h:za9 w base v xs) (hb:b2≤base):za9 w b2 v xs:=⟨zaI h.row hb,fun x hx=>zaI (h.trees x hx) hb⟩
theorem za9.nil (w:World) (base:Nat):za9 w base (.slice none 0 0) []:=⟨World.ownsRow_nil w _ _ _,fun x hx=>by cases hx⟩
theorem zh2 (xs:List TV) (j:Nat):(xs.map (·.1)).getD j ta0=(xs.getD j tv0).1:=by
 rw [List.getD_eq_getElem?_getD,List.getD_eq_getElem?_getD,List.getElem?_map]
 cases xs[j]?<;>rfl
theorem own_as {w:World} {B n c:Nat} {a:Option Addr} {xs:List Int} (h:w.ownsRow B 2 1 (.slice a n c) n (zbw xs)) (hn:xs.length=n):AsIn w a xs∧(a=none→c=0)∧n≤c:=by
 rcases h.2 with ⟨h',h0,_⟩ | ⟨g,cp,cur,h',_,_,hnc,_⟩
 ·
  simp only [Value.slice.injEq] at h'
  obtain ⟨rfl,_,rfl⟩:=h'
  exact ⟨fun j hj=>absurd hj (by omega),fun _=>rfl,Nat.le_refl _⟩
 ·
  injection h' with h1 h2 h3
  subst h1 h3
  exact ⟨ziN h hn,(fun e=>by cases e),hnc⟩
def ze6 (w:World) (a:Option Addr) (len cap:Nat) (ts:List Ta):Prop :=
 ts.length=len∧(a=none→cap=0)∧∀ j,j<len→∃ b off,a=some ⟨b,off,none⟩∧b<w.heap.size∧w.cell? ⟨b,off+j*6,none⟩=some (.string ⟨(ts.getD j ta0).1.toArray⟩) ∧
  (∃ na nc,w.cell? ⟨b,off+j*6+1,none⟩=some (.slice na (ts.getD j ta0).2.1.length nc)∧AsIn w na (ts.getD j ta0).2.1∧(na=none→nc=0)) ∧
  w.cell? ⟨b,off+j*6+2,none⟩=some (.int .i64 (ts.getD j ta0).2.2.1)∧w.cell? ⟨b,off+j*6+3,none⟩=some (.int .i64 (ts.getD j ta0).2.2.2.1) ∧
  w.cell? ⟨b,off+j*6+4,none⟩=some (.int .i64 (ts.getD j ta0).2.2.2.2.1)∧w.cell? ⟨b,off+j*6+5,none⟩=some (.int .i64 (ts.getD j ta0).2.2.2.2.2)
theorem ze6.in {w:World} {a:Option Addr} {len cap:Nat} {ts:List Ta} (h:ze6 w a len cap ts):zaK w a len ts:=by
 refine ⟨h.1,fun j hj=>?_⟩
 obtain ⟨b,off,e,hlt,c0,⟨na,nc,c1,hn,_⟩,c2,c3,c4,c5⟩:=h.2.2 j hj
 exact ⟨b,off,e,hlt,c0,⟨na,nc,c1,hn⟩,c2,c3,c4,c5⟩
theorem ze6.below {w w':World} {a:Option Addr} {len cap:Nat} {ts:List Ta} (h:ze6 w a len cap ts) (hb:Below w.heap.size w w'):ze6 w' a len cap ts:=by
 refine ⟨h.1,h.2.1,fun j hj=>?_⟩
 obtain ⟨b,off,e,hlt,c0,⟨na,nc,c1,hn,hz⟩,c2,c3,c4,c5⟩:=h.2.2 j hj
 exact ⟨b,off,e,Nat.lt_of_lt_of_le hlt hb.size,(hb.cell (p:=⟨b,off+j*6,none⟩) hlt).trans c0,⟨na,nc,(hb.cell (p:=⟨b,off+j*6+1,none⟩) hlt).trans c1,hn.below hb,hz⟩,
  (hb.cell (p:=⟨b,off+j*6+2,none⟩) hlt).trans c2,(hb.cell (p:=⟨b,off+j*6+3,none⟩) hlt).trans c3,(hb.cell (p:=⟨b,off+j*6+4,none⟩) hlt).trans c4,(hb.cell (p:=⟨b,off+j*6+5,none⟩) hlt).trans c5⟩
theorem za9.ok {w:World} {base:Nat} {v:Value} {xs:List TV} (h:za9 w base v xs):∃ a cap,v=.slice a xs.length cap∧ze6 w a xs.length cap (xs.map (·.1)):=by
 rcases zb4 h.row with ⟨rfl,h0,_⟩ | ⟨g,cp,rfl⟩
 ·
  exact ⟨none,0,by rw [h0],by simp,fun _=>rfl,fun j hj=>by omega⟩
 ·
  refine ⟨some ⟨g,0,none⟩,cp,rfl,by simp,(fun e=>by cases e),fun j hj=>?_⟩
  obtain ⟨v0,v1,v2,v3,v4,v5⟩:=zfl xs j hj
  have hc:=fun k (hk:k<xs.length*6)=>World.ownsRow.cellAt h.row k hk
  have hmem:xs.getD j tv0∈xs:=by rw [List.getD_eq_getElem?_getD,List.getElem?_eq_getElem hj];exact List.getElem_mem hj
  obtain ⟨hi,hz,_⟩:=own_as (h.trees _ hmem) rfl
  rw [zh2]
  refine ⟨g,0,rfl,(h.row.lt g rfl).2,?_,⟨(xs.getD j tv0).2.1,(xs.getD j tv0).2.2,?_,hi,hz⟩,?_,?_,?_,?_⟩
  ·
   rw [Nat.zero_add,hc _ (by omega),v0]
  ·
   rw [Nat.zero_add,hc _ (by omega),v1];rfl
  ·
   rw [Nat.zero_add,hc _ (by omega),v2]
  ·
   rw [Nat.zero_add,hc _ (by omega),v3]
  ·
   rw [Nat.zero_add,hc _ (by omega),v4]
  ·
   rw [Nat.zero_add,hc _ (by omega),v5]
theorem infoTask:(Tryz.prog.info? 40).map (fun i=>(i.zero,i.size,i.bytes))=some (some (.agg #[.string ⟨#[]⟩,.slice none 0 0,.int .i64 0,.int .i64 0,.int .i64 0,.int .i64 0]),6,72):=by kernel_rfl
def szD (m:Nat) (left:Int):Int:=if (m:Int)≤left then left-(m:Int) else -1
def taSz (t:Ta):Nat:=t.1.length+t.2.1.length
def tasSz:List Ta→Nat
 | []=>0
 | f :: r=>taSz f+tasSz r
def LongTa (fs:List Ta):Prop:=∀ j,(fs.getD j ta0).1.length≤maxLen∧(fs.getD j ta0).2.1.length≤maxLen
theorem setO {X:World} {R i j:Nat} {v a:Value} (h:j≠i) (e:X.cell? ⟨R,j,none⟩=some a):(X.setCell ⟨R,i,none⟩ v).cell? ⟨R,j,none⟩=some a :=
 (World.cell?_setCell_other _ _ _ _ (by simp)).trans e
theorem setS {X:World} {R i:Nat} {v a:Value} (e:X.cell? ⟨R,i,none⟩=some a):(X.setCell ⟨R,i,none⟩ v).cell? ⟨R,i,none⟩=some v:=World.cell?_setCell_same _ _ _ e
theorem set6 {X:World} {R:Nat} {a0 a1 a2 a3 a4 a5:Value} (u0 u1 u2 u3 u4 u5:Value) (r0:X.cell? ⟨R,0,none⟩=some a0) (r1:X.cell? ⟨R,1,none⟩=some a1) (r2:X.cell? ⟨R,2,none⟩=some a2) (r3:X.cell? ⟨R,3,none⟩=some a3) (r4:X.cell? ⟨R,4,none⟩=some a4) (r5:X.cell? ⟨R,5,none⟩=some a5) :
 ∃ Y,(((((X.setCell ⟨R,0,none⟩ u0).setCell ⟨R,1,none⟩ u1).setCell ⟨R,2,none⟩ u2).setCell ⟨R,3,none⟩ u3).setCell ⟨R,4,none⟩ u4).setCell ⟨R,5,none⟩ u5=Y∧Y.cell? ⟨R,0,none⟩=some u0∧Y.cell? ⟨R,1,none⟩=some u1∧Y.cell? ⟨R,2,none⟩=some u2∧Y.cell? ⟨R,3,none⟩=some u3∧Y.cell? ⟨R,4,none⟩=some u4∧Y.cell? ⟨R,5,none⟩=some u5∧X.grownBy Y (some R) :=
 ⟨_,rfl,setO (by decide) (setO (by decide) (setO (by decide) (setO (by decide) (setO (by decide) (setS (r0)))))),setO (by decide) (setO (by decide) (setO (by decide) (setO (by decide) (setS (setO (by decide) (r1)))))),setO (by decide) (setO (by decide) (setO (by decide) (setS (setO (by decide) (setO (by decide) (r2)))))),setO (by decide) (setO (by decide) (setS (setO (by decide) (setO (by decide) (setO (by decide) (r3)))))),setO (by decide) (setS (setO (by decide) (setO (by decide) (setO (by decide) (setO (by decide) (r4)))))),setS (setO (by decide) (setO (by decide) (setO (by decide) (setO (by decide) (setO (by decide) (r5)))))),(((((zam _ _ _ _).trans (zam _ _ _ _)).trans (zam _ _ _ _)).trans (zam _ _ _ _)).trans (zam _ _ _ _)).trans (zam _ _ _ _)⟩
theorem set4 {X:World} {R:Nat} {a0 a1 a2 a3:Value} (u0 u1 u2 u3:Value) (r0:X.cell? ⟨R,0,none⟩=some a0) (r1:X.cell? ⟨R,1,none⟩=some a1) (r2:X.cell? ⟨R,2,none⟩=some a2) (r3:X.cell? ⟨R,3,none⟩=some a3) :
 ∃ Y,(((X.setCell ⟨R,0,none⟩ u0).setCell ⟨R,1,none⟩ u1).setCell ⟨R,2,none⟩ u2).setCell ⟨R,3,none⟩ u3=Y∧Y.cell? ⟨R,0,none⟩=some u0∧Y.cell? ⟨R,1,none⟩=some u1∧Y.cell? ⟨R,2,none⟩=some u2∧Y.cell? ⟨R,3,none⟩=some u3∧X.grownBy Y (some R) :=
 ⟨_,rfl,setO (by decide) (setO (by decide) (setO (by decide) (setS (r0)))),setO (by decide) (setO (by decide) (setS (setO (by decide) (r1)))),setO (by decide) (setS (setO (by decide) (setO (by decide) (r2)))),setS (setO (by decide) (setO (by decide) (setO (by decide) (r3)))),(((zam _ _ _ _).trans (zam _ _ _ _)).trans (zam _ _ _ _)).trans (zam _ _ _ _)⟩
theorem sixF {X W:World} {R:Nat} {u0 u1 u2 u3 u4 u5:Value} {T:TypeId} (hX:Below W.heap.size W X) (hlt:R<W.heap.size) (hR:W.heap[R]?=some (.cells #[u0,u1,u2,u3,u4,u5] T)) :
 (X.cell? ⟨R,0,none⟩=some u0∧X.cell? ⟨R,1,none⟩=some u1∧X.cell? ⟨R,2,none⟩=some u2∧X.cell? ⟨R,3,none⟩=some u3∧X.cell? ⟨R,4,none⟩=some u4∧X.cell? ⟨R,5,none⟩=some u5)∧∀ j,X.frozen? ⟨R,j,none⟩=false:=by
 have e:=(hX.block R hlt).trans hR
 clear hX hR
 exact ⟨⟨by simp [World.cell?,e],by simp [World.cell?,e],by simp [World.cell?,e],by simp [World.cell?,e],by simp [World.cell?,e],by simp [World.cell?,e]⟩,fun j=>by simp [World.frozen?,e]⟩
theorem fourF {X W:World} {R:Nat} {u0 u1 u2 u3:Value} {T:TypeId} (hX:Below W.heap.size W X) (hlt:R<W.heap.size) (hR:W.heap[R]?=some (.cells #[u0,u1,u2,u3] T)) :
 (X.cell? ⟨R,0,none⟩=some u0∧X.cell? ⟨R,1,none⟩=some u1∧X.cell? ⟨R,2,none⟩=some u2∧X.cell? ⟨R,3,none⟩=some u3)∧∀ j,X.frozen? ⟨R,j,none⟩=false:=by
 have e:=(hX.block R hlt).trans hR
 clear hX hR
 exact ⟨⟨by simp [World.cell?,e],by simp [World.cell?,e],by simp [World.cell?,e],by simp [World.cell?,e]⟩,fun j=>by simp [World.frozen?,e]⟩
end Go.Proofs.YtdbljnddkbpanaaGreatDoor
