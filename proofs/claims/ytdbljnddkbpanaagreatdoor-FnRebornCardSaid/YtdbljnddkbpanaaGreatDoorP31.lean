/-
  Parts of one proof, one behind the other: Draw8P, Codes, DrawRb, LikeD, RoD.
-/
import Derived.Test.YtdbljnddkbpanaaGreatDoorP30
import Derived.Test.YtdbljnddkbpanaaGreatDoorP27
import Derived.Test.YtdbljnddkbpanaaGreatDoorP29
import Derived.Test.YtdbljnddkbpanaaGreatDoorP12
import Derived.Test.YtdbljnddkbpanaaGreatDoorP24
import Derived.Test.YtdbljnddkbpanaaGreatDoorP4
import Derived.Test.YtdbljnddkbpanaaGreatDoorP17
import Derived.Deep.RegionHeld3
import Derived.Test.YtdbljnddkbpanaaGreatDoorP19
import Derived.Test.YtdbljnddkbpanaaGreatDoorP14
import Derived.Test.YtdbljnddkbpanaaGreatDoorP16
import Derived.Test.YtdbljnddkbpanaaGreatDoorP18
namespace Go.Proofs.YtdbljnddkbpanaaGreatDoor
open Go.RowKit
theorem Q8.cells {X w:World} {B:Nat} {a:Option Addr} {len cap g lc:Nat} {ys:List PV} (h:Q8 X w B a len cap g lc ys) {j:Nat} (hj:j<ys.length):X.cell? ⟨g,j*3,none⟩=some (.string ⟨(ys.getD j pv0).nm.toArray⟩)∧X.cell? ⟨g,j*3+1,none⟩=some (pvI (ys.getD j pv0))∧X.cell? ⟨g,j*3+2,none⟩=some (pvF (ys.getD j pv0)):=by
 obtain ⟨v0,v1,v2⟩:=ziJ ys j hj
 have hc:=fun k (hk:k<ys.length*3)=>World.ownsRow.cellAt h.row k hk
 exact ⟨(hc _ (by omega)).trans v0,(hc _ (by omega)).trans v1,(hc _ (by omega)).trans v2⟩
theorem Q8.frozen {X w:World} {B:Nat} {a:Option Addr} {len cap g lc:Nat} {ys:List PV} (h:Q8 X w B a len cap g lc ys) (k:Nat):X.frozen? ⟨g,k,none⟩=false:=World.ownsRow.frozenAt h.row k
theorem Q8.fcell {X w:World} {B:Nat} {a:Option Addr} {len cap g lc:Nat} {ys:List PV} (h:Q8 X w B a len cap g lc ys) {j:Nat} (hj:j<ys.length) {gF:Nat} (hF:(ys.getD j pv0).fa=some ⟨gF,0,none⟩):(∃ v,X.cell? ⟨gF,1,none⟩=some v)∧(∃ v,X.cell? ⟨gF,2,none⟩=some v)∧∀ k,X.frozen? ⟨gF,k,none⟩=false:=by
 have hy:=h.at hj
 have hr:=hy.fo.row
 have hF2:pvF (ys.getD j pv0)=.slice (some ⟨gF,0,none⟩) (ys.getD j pv0).xs.length (ys.getD j pv0).fc:=by unfold pvF;rw [hF]
 rw [hF2] at hr
 have hn:=hy.n
 obtain ⟨_,f1,f2⟩:=zjc (ys.getD j pv0).xs 0 (by omega)
 exact ⟨⟨_,(World.ownsRow.cellAt hr 1 (by omega)).trans f1⟩,⟨_,(World.ownsRow.cellAt hr 2 (by omega)).trans f2⟩,fun k=>World.ownsRow.frozenAt hr k⟩
theorem Q8.open {X w:World} {B:Nat} {a:Option Addr} {len cap g lc:Nat} {ys:List PV} (h:Q8 X w B a len cap g lc ys) (hA:A8 ys) {j:Nat} (hj:j<ys.length):∃ (gI gF ic fc nF:Nat) (ims:List (List UInt8)),(ys.getD j pv0).fa=some ⟨gF,0,none⟩∧(1≤nF∧nF≤3)∧(ims.length≤8∧∀ t∈ims,t.length≤9) ∧
 ∀ Z,Q8 Z w B a len cap g lc ys→Z.cell? ⟨g,j*3+1,none⟩=some (.slice (some ⟨gI,0,none⟩) ims.length ic)∧Z.cell? ⟨g,j*3+2,none⟩=some (.slice (some ⟨gF,0,none⟩) nF fc)∧Z.ownsRow w.heap.size 9 1 (.slice (some ⟨gI,0,none⟩) ims.length ic) ims.length (strV ims):=by
 have hm:ys.getD j pv0∈ys:=by simp [List.getD,hj]
 obtain ⟨gF,hF⟩:=h.fn0 hj
 obtain ⟨gI,hI⟩:=hA.sa _ hm
 have hy:=h.at hj
 refine ⟨gI,gF,(ys.getD j pv0).ic,(ys.getD j pv0).fc,(ys.getD j pv0).xs.length,(ys.getD j pv0).ims,hF,hy.n,⟨hA.il _ hm,hy.is.2⟩,fun Z hZ=>?_⟩
 obtain ⟨_,q1,q2⟩:=hZ.cells hj
 have hi:=(hZ.at hj).im
 unfold pvI at q1 hi
 unfold pvF at q2
 rw [hI] at q1 hi
 rw [hF] at q2
 exact ⟨q1,q2,hi⟩
theorem zni {ims:List (List UInt8)} {fn:List UInt8} (h:ims.length≤8∧∀ t∈ims,t.length≤9) (hf:fn.length≤9):(put8 ims fn).length≤9∧∀ t∈put8 ims fn,t.length≤9:=by
 refine ⟨by have:=(put8_len ims fn).2;omega,fun t ht=>?_⟩
 rcases zck.1 ht with rfl | h1
 ·
  exact hf
 ·
  exact h.2 t h1
set_option maxHeartbeats 8000000 in
set_option maxRecDepth 100000 in
theorem zgo (w:World) (B:Nat) (a:Option Addr) (len cap:Nat) (hc:Cur w B a len cap) :
 Calls Tryz.prog 19 #[.pointer (some ⟨B,0,none⟩)] w fun e w'=>∃ v,e=.returned v∧L8 w w' B a len cap v:=by
 go_enter Tryz.func19,Tryz.ntmps19
 go_wp2_with fail
 refine (drawPs w B a len cap hc).mono ?_
 rintro e w1 ⟨L,la,lc,ys,vc,cs,rfl,hd,hn1,hn4⟩
 obtain ⟨g,c,e0⟩:=zaw hd.row (by omega)
 injection e0 with e0 _ e2
 subst e0
 clear e2
 obtain ⟨hq,hA⟩:=hd.q8 ⟨hn1,hn4⟩
 have HA:Hid (A8 ys):=hA
 clear hd hA
 go_wp2_with fail
 refine (zbg w1 B a len cap 6 (by omega) (by omega) hq.cur).mono ?_
 rintro e w2 ⟨b2,rfl,hc2,hg2⟩
 have HQ2:Hid (Q8 w2 w B a len cap g lc ys):=hq.next hg2 hc2
 clear hq hc2 hg2
 rcases b2 with _ | _
 ·
  go_wp2
  go_ret
  exact ⟨_,rfl,HQ2.out.l8⟩
 ·
  go_wp2_with fail
  refine (zaa w2 B a len cap (ys.length:Int) (by omega) (by omega) HQ2.out.cur).mono ?_
  rintro e w3 ⟨x3,rfl,h30,h31,hc3,hg3⟩
  obtain ⟨j,rfl⟩:∃ j:Nat,x3=(j:Int):=Int.eq_ofNat_of_zero_le h30
  have HQ3:Hid (Q8 w3 w B a len cap g lc ys):=HQ2.out.next hg3 hc3
  have hj:j<ys.length:=by omega
  clear HQ2 hc3 hg3
  go_wp2_with fail
  refine (zaa w3 B a len cap 6 (by omega) (by omega) HQ3.out.cur).mono ?_
  rintro e w4 ⟨x4,rfl,h40,h41,hc4,hg4⟩
  have HQ4:Hid (Q8 w4 w B a len cap g lc ys):=HQ3.out.next hg4 hc4
  clear HQ3 hc4 hg4
  obtain ⟨gI,gF,ic,fc,nF,ims,hF,hnF,his,hZ⟩:=HQ4.out.open HA.out hj
  have HF:Hid ((ys.getD j pv0).fa=some ⟨gF,0,none⟩):=hF
  have HIs:Hid (ims.length≤8∧∀ t∈ims,t.length≤9):=his
  have HZ:Hid (∀ Z,Q8 Z w B a len cap g lc ys→Z.cell? ⟨g,j*3+1,none⟩=some (.slice (some ⟨gI,0,none⟩) ims.length ic)∧Z.cell? ⟨g,j*3+2,none⟩=some (.slice (some ⟨gF,0,none⟩) nF fc)∧Z.ownsRow w.heap.size 9 1 (.slice (some ⟨gI,0,none⟩) ims.length ic) ims.length (strV ims)):=hZ
  obtain ⟨q1,q2,_⟩:=HZ.out w4 HQ4.out
  have hnF0:(0:Int)<(nF:Int):=by omega
  have hcap:(ys.length:Int)≤(lc:Int):=by have:=HQ4.out.ok.hcap;omega
  have hB4:B<w4.heap.size:=HQ4.out.cur.lt
  have hs4:w.heap.size≤w4.heap.size:=HQ4.out.g.size
  clear hF his hZ
  obtain ⟨m,rfl⟩:∃ m:Nat,x4=(m:Int):=Int.eq_ofNat_of_zero_le h40
  have hm:m=0∨m=1∨m=2∨m=3∨m=4∨m=5:=by omega
  rcases hm with rfl | rfl | rfl | rfl | rfl | rfl
  ·
   have q1a:∀ o,(w4.alloc o).cell? ⟨g,j*3+1,none⟩=some (.slice (some ⟨gI,0,none⟩) ims.length ic):=fun o=>(HZ.out (w4.alloc o) (HQ4.out.alloc o)).1
   have hil:ims.length≤1048576:=by have:=HIs.out.1;omega
   go_wp2_with fail
   go_region_with (first | (go_at_call 15;refine (zaa _ B a len cap 3 (by omega) (by omega) (by first | exact (HQ4.out.alloc _).drew.cur | exact HQ4.out.drew.cur)).mono ?_;rintro e w5 ⟨x,rfl,hx0,hx1,hc5,hg5⟩;obtain ⟨T,rfl⟩:∃ T:Nat,x=(T:Int):=Int.eq_ofNat_of_zero_le hx0;have hT3:T<3:=(by omega);obtain ⟨fn,hfn,hget⟩:=zl1 [109,97,105,110] [122,122] [99] T hT3 (by decide) (by decide) (by decide);have HPs:Hid ((put8 ims fn).length≤9∧∀ t∈put8 ims fn,t.length≤9):=zni HIs.out hfn;(first | (have nL:=zhj (zm2 (V:=w4) hg5 hB4).1 hT3 hget;have HQ5:Hid (Q8 w5 w B a len cap g lc ys):=(HQ4.out.alloc _).drew.next hg5 hc5) | (have HQ5:Hid (Q8 w5 w B a len cap g lc ys):=HQ4.out.drew.next hg5 hc5));have p1:=(HZ.out w5 HQ5.out).1;have p1a:∀ o,(w5.alloc o).cell? ⟨g,j*3+1,none⟩=some (.slice (some ⟨gI,0,none⟩) ims.length ic):=(fun o=>(HZ.out (w5.alloc o) (HQ5.out.alloc o)).1);clear hg5 hc5) | (go_at_call 41;refine (zob w.heap.size gI ic ims fn _ (by first | exact (HZ.out _ HQ5.out).2.2 | exact (HZ.out _ (HQ5.out.alloc _)).2.2) (by first | exact HQ5.out.g.size | exact (HQ5.out.alloc _).g.size) hil).mono ?_;rintro e w6 ⟨g6,c6,rfl,ho6,hb6⟩;have HQ6:Hid (Q8 w6 w B a len cap g lc ys):=(by first | exact HQ5.out.below hb6 | exact (HQ5.out.alloc _).below hb6);have p6:=(HZ.out w6 HQ6.out).1;have z6:=HQ6.out.frozen (j*3+1);clear hb6))
   all_goals
    go_wp2
    go_ret
    exact ⟨_,rfl,by have h:=(HQ6.out.imps hj ho6 HPs.out).l8;rw [List.length_set] at h;exact h⟩
  ·
   go_wp2_with fail
   go_region_with (go_at_call 15;refine (zaa _ B a len cap 4 (by omega) (by omega) HQ4.out.drew.cur).mono ?_;rintro e w5 ⟨x,rfl,hx0,hx1,hc5,hg5⟩;have hq5:=HQ4.out.drew.next hg5 hc5;have p2:=(HZ.out w5 hq5).2.1;obtain ⟨⟨v1,s1⟩,_,z⟩:=hq5.fcell hj HF.out;have z1:=z 1;clear z)
   all_goals
    go_wp2
    go_ret
    obtain ⟨ys',hl,hq'⟩:=hq5.args HA.out hj HF.out x (by omega)
    exact ⟨_,rfl,by have h:=hq'.l8;rw [hl] at h;exact h⟩
  ·
   go_wp2_with fail
   go_region_with (go_at_call 42;refine (drawAny6 _ B a len cap HQ4.out.drew.cur).mono ?_;rintro e w5 ⟨v,rfl,t,ho,htl,hts,_,hc5,hg5⟩;have hq5:=HQ4.out.drew.next hg5 hc5;have p2:=(HZ.out w5 hq5).2.1;obtain ⟨ta,tc,rfl,_,_⟩:=zdl ho;obtain ⟨_,⟨v2,s2⟩,z⟩:=hq5.fcell hj HF.out;have z2:=z 2;clear z)
   all_goals
    go_wp2
    go_ret
    obtain ⟨ys',hl,hq'⟩:=hq5.tree HA.out hj HF.out ta tc t (zaI ho hs4) (by omega) hts
    exact ⟨_,rfl,by have h:=hq'.l8;rw [hl] at h;exact h⟩
  ·
   go_wp2_with fail
   refine (zaa _ B a len cap 3 (by omega) (by omega) (HQ4.out.alloc _).cur).mono ?_
   rintro e w5 ⟨x,rfl,hx0,hx1,hc5,hg5⟩
   have hq5:=(HQ4.out.alloc _).next hg5 hc5
   obtain ⟨T,rfl⟩:∃ T:Nat,x=(T:Int):=Int.eq_ofNat_of_zero_le hx0
   have bL:=zmM zfI hg5 (by omega)
   obtain ⟨fn,hfn,hget⟩:=zl1 [98] [122,122] [] T (by omega) (by decide) (by decide) (by decide)
   have nL:=zhj bL.1 (by omega) hget
   have p0:=(hq5.cells hj).1
   have z0:=hq5.frozen (j*3)
   have HL:Hid (Q8 _ w B a len cap g lc _):=hq5.name hj fn hfn
   clear hq5 bL hg5 hc5 hget
   go_wp2_with fail
   go_ret
   exact ⟨_,rfl,by have h:=HL.out.l8;rw [List.length_set] at h;exact h⟩
  ·
   by_cases h1:(1:Int)<(ys.length:Int)
   ·
    go_wp2
    go_ret
    exact ⟨_,rfl,HQ4.out.l8cut (by omega) (by omega)⟩
   ·
    go_wp2
    go_ret
    exact ⟨_,rfl,HQ4.out.l8⟩
  ·
   go_wp2_with fail
   refine (zo9 (some ⟨gI,0,none⟩) 0 ic [] _ ⟨rfl,fun q hq=>absurd hq (by omega)⟩ (fun e=>by cases e) (by omega)).mono ?_
   rintro e w5 ⟨v,rfl,ho,hb5⟩
   have hq5:=HQ4.out.below hb5
   obtain ⟨ia5,ic5,rfl,_,_⟩:=zfu ho
   have p1:=(HZ.out w5 hq5).1
   have z1:=hq5.frozen (j*3+1)
   have HL:Hid (Q8 _ w B a len cap g lc _):=hq5.imps hj (zaI ho hs4) ⟨by simp,fun t ht=>by cases ht⟩
   clear hq5
   go_wp2_with fail
   go_ret
   exact ⟨_,rfl,by have h:=HL.out.l8;rw [List.length_set] at h;exact h⟩
theorem code_nil (w:World):Code w w.heap.size none 0:=fun j hj=>by omega
theorem code_of (w:World) (x:Addr) (len:Nat) (zs:List Int) (h:∀ i,i<zs.length→w.cell? (x.add i)=some (.int .u8 (zs.getD i 0))) (hl:len≤zs.length) (hw:∀ n∈zs,(Lit.int .u8 n).wf=true):Code w w.heap.size (some x) len:=by
 intro j hj
 obtain ⟨b,off,spot⟩:=x
 have hc:=h j (by omega)
 have hspot:spot=none:=by simpa [Addr.add] using World.cell?_spot (h 0 (by omega))
 subst hspot
 have e:(⟨b,off,none⟩:Addr).add j=⟨b,off+j,none⟩:=by unfold Addr.add;split<;>simp_all
 rw [e] at hc
 have hb:=bounds_u8 (hw (zs.getD j 0) (by rw [List.getD_eq_getElem?_getD,List.getElem?_eq_getElem (by omega)];exact List.getElem_mem _))
 exact ⟨b,off,_,rfl,World.block_lt_of_cell? w ⟨b,off+j,none⟩ hc,hc,hb⟩
theorem Code.later {w w':World} {a:Option Addr} {len:Nat} (h:Code w w.heap.size a len) (hb:Below w.heap.size w w'):Code w' w'.heap.size a len:=by
 intro j hj
 obtain ⟨b,off,x,e1,e2,e3,e0⟩:=h j hj
 exact ⟨b,off,x,e1,Nat.lt_of_lt_of_le e2 hb.size,(hb.cell (p:=⟨b,off+j,none⟩) e2).trans e3,e0⟩
theorem Code.kept {w w':World} {a:Option Addr} {len:Nat} (h:Code w w.heap.size a len) (hg:w.grownBy w' none):Code w' w'.heap.size a len :=
 h.later ⟨hg.os,hg.tape,hg.output,hg.size,fun k hk=>hg.block k hk (by simp)⟩
set_option maxHeartbeats 400000 in
set_option maxRecDepth 100000 in
theorem bigB (w:World) (a:Option Addr) (len cap:Nat) :
 Calls Tryz.prog 4 #[.slice a len cap] w fun e w'=>e=.returned (.bool (decide (4096<(len:Int))))∧w'=w:=by
 go_enter Tryz.func4,Tryz.ntmps4
 go_wp2
 go_ret
 exact ⟨rfl,rfl⟩
theorem zpG {w:World} {B:Nat} {a:Option Addr} {len:Nat} (h:Code w B a len) (hz:len≠0):∃ b off,a=some ⟨b,off,none⟩∧∀ j,j<len→∃ x:Int,w.cell? ⟨b,off+j,none⟩=some (.int .u8 x)∧0≤x∧x≤255:=by
 obtain ⟨b,off,x,rfl,_,_⟩:=h 0 (by omega)
 refine ⟨b,off,rfl,fun j hj=>?_⟩
 obtain ⟨b',off',x',e1,_,e3,e4⟩:=h j hj
 injection e1 with e1
 injection e1 with e5 e6
 subst e5 e6
 exact ⟨x',e3,e4⟩
set_option maxHeartbeats 1000000 in
set_option maxRecDepth 100000 in
theorem pickSome (w:World) (b off len cap:Nat) (seed n:Int) (hl:len≤4096) (hs0:0≤seed) (hs1:seed≤100) (hn:0<n) (hc:∀ j,j<len→∃ x:Int,w.cell? ⟨b,off+j,none⟩=some (.int .u8 x)∧0≤x∧x≤255) :
 Calls Tryz.prog 10 #[.slice (some ⟨b,off,none⟩) len cap,.int .i64 seed,.int .i64 n] w fun e w'=>(∃ x:Int,e=.returned (.int .i64 x)∧0≤x∧x<n)∧w'=w:=by
 have HC:Hid (∀ j,j<len→∃ x:Int,w.cell? ⟨b,off+j,none⟩=some (.int .u8 x)∧0≤x∧x≤255):=hc
 have hz:(n==0)=false:=beq_eq_false_iff_ne.2 (by omega)
 clear hc
 go_enter Tryz.func10,Tryz.ntmps10
 go_wp2
 go_loop [7,8] (fun h i=>∃ k:Nat,∃ m:Int,k≤len∧i=.int .i64 k∧h=.int .i64 m∧0≤m∧m≤2000000) (fun _ i=>len-(intOf i).toNat)
 case atStart=>exact ⟨0,_,Nat.zero_le _,rfl,rfl,by omega,by omega⟩
 case round =>
  obtain ⟨k,m,hk,rfl,rfl,hm0,hm1⟩:=hrel
  by_cases hlt:k<len
  ·
   obtain ⟨x,cx,hx0,hx1⟩:=HC.out k hlt
   go_wp2
   go_round
   case rel=>exact ⟨k+1,_,by omega,by go_num,rfl,by omega,by omega⟩
   case measure=>simp [intOf];omega
  ·
   go_wp2
   go_ret
   exact ⟨⟨_,rfl,Int.emod_nonneg _ (by omega),Int.emod_lt_of_pos _ hn⟩,rfl⟩
set_option maxHeartbeats 1000000 in
set_option maxRecDepth 100000 in
theorem pickNone (w:World) (a:Option Addr) (cap:Nat) (seed n:Int) (hs0:0≤seed) (hs1:seed≤100) (hn:0<n) :
 Calls Tryz.prog 10 #[.slice a 0 cap,.int .i64 seed,.int .i64 n] w fun e w'=>(∃ x:Int,e=.returned (.int .i64 x)∧0≤x∧x<n)∧w'=w:=by
 have hz:(n==0)=false:=beq_eq_false_iff_ne.2 (by omega)
 go_enter Tryz.func10,Tryz.ntmps10
 go_wp2
 refine wp_loop_rounds 1 ?_
 rw [rounds_succ]
 go_wp2
 go_ret
 exact ⟨⟨_,rfl,Int.emod_nonneg _ (by omega),Int.emod_lt_of_pos _ hn⟩,rfl⟩
theorem pickB (w:World) (B:Nat) (a:Option Addr) (len cap:Nat) (seed n:Int) (hl:len≤4096) (hs0:0≤seed) (hs1:seed≤100) (hn:0<n) (hc:Code w B a len) :
 Calls Tryz.prog 10 #[.slice a len cap,.int .i64 seed,.int .i64 n] w fun e w'=>(∃ x:Int,e=.returned (.int .i64 x)∧0≤x∧x<n)∧w'=w:=by
 by_cases hz:len=0
 ·
  subst hz;exact pickNone w a cap seed n hs0 hs1 hn
 ·
  obtain ⟨b,off,rfl,hcc⟩:=zpG hc hz
  exact pickSome w b off len cap seed n hl hs0 hs1 hn hcc
theorem znY {V Y:World} {B k:Nat} (hg:(V.alloc (.cells #[.string ⟨#[115,116,97,114,116,32,57]⟩,.string ⟨#[100,111,110,101,32,48,32,53]⟩,.string ⟨#[100,111,110,101,32,57,32,57]⟩,.string ⟨#[120]⟩] 9)).grownBy Y (some B)) (hB:B<V.heap.size) (hk:k<4):∃ fn:List UInt8,fn.length≤9∧Y.cell? ⟨V.heap.size,k,none⟩=some (.string ⟨fn.toArray⟩):=by
 have ho:=World.ownsRow_lit (base:=V.heap.size) (e:=9) (size:=1) V #[.string ⟨#[115,116,97,114,116,32,57]⟩,.string ⟨#[100,111,110,101,32,48,32,53]⟩,.string ⟨#[100,111,110,101,32,57,32,57]⟩,.string ⟨#[120]⟩] 4 (Nat.le_refl _) (by decide) rfl
 have ho2:=zc5 ho hg (fun k e=>by injection e with e;omega)
 have h:=World.ownsRow.cellAt ho2 k (by omega)
 match k,hk with
 | 0,_=>exact ⟨[115,116,97,114,116,32,57],by simp,h⟩
 | 1,_=>exact ⟨[100,111,110,101,32,48,32,53],by simp,h⟩
 | 2,_=>exact ⟨[100,111,110,101,32,57,32,57],by simp,h⟩
 | 3,_=>exact ⟨[120],by simp,h⟩
theorem zkY (l:List UInt8) (p q:Int):(zda l p q).length≤l.length+1:=by
 unfold zda
 split
 ·
  rw [List.length_set];omega
 ·
  omega
theorem ext_tk (l:List UInt8) (j:Nat):(⟨l.toArray⟩:ByteArray).extract 0 j=⟨(l.take j).toArray⟩:=by
 rw [zbL]
 simp
def Rb18 (w w':World) (v:Value):Prop:=∃ la n lc ps jr,v=.tuple #[.slice la n lc,.string ⟨(jr:List UInt8).toArray⟩]∧n≤4∧zal w' la n lc ps∧jr.length≤6000∧Below w.heap.size w w'
set_option maxHeartbeats 8000000 in
set_option maxRecDepth 100000 in
theorem zkA (w:World) (a:Option Addr) (len cap:Nat) (hl:len≤4096) (hc:Code w w.heap.size a len) :
 Calls Tryz.prog 5 #[.slice a len cap] w fun e w'=>∃ v,e=.returned v∧Rb18 w w' v:=by
 have hext:=ext_tk
 go_enter Tryz.func5,Tryz.ntmps5
 go_wp2_with fail
 refine (drawNew _ a len cap hl hc).mono ?_
 rintro e w1 ⟨rfl,hc1,hg1⟩
 obtain ⟨B,hB⟩:∃ B,w.heap.size=B:=⟨_,rfl⟩
 have hB1:Below w.heap.size w w1:=(Below.refl _ _).grown hg1 (Nat.le_refl _) (by simp)
 rw [hB] at hc1 ⊢
 have HB1:Hid (Below w.heap.size w w1∧w.heap.size=B∧B<w1.heap.size):=⟨hB1,hB,hc1.lt⟩
 clear hB1 hg1
 go_wp2_with fail
 refine (zpx w1 B a len cap hc1).mono ?_
 rintro e w2 ⟨_,rfl,_,va,vc,xs,ts,ep,nw,jr,rfl,⟨la,n,lc,ps,rfl,hn4,hok⟩,_,_,_,_,hj,hc2,hg2⟩
 have HOK:Hid (n≤4∧∀ Y,zdM w2 Y w1.heap.size→zal Y la n lc ps):=⟨hn4,hok⟩
 have HN4:Hid (n≤4):=hn4
 have HG2:Hid (∀ Y,w2.grownBy Y (some B)→Below w.heap.size w Y∧zal Y la n lc ps):=fun Y hY=>⟨((HB1.out.1.grown hg2 HB1.out.1.size (fun k e=>by injection e with e;have:=HB1.out;omega))).grown hY (Nat.le_trans HB1.out.1.size hg2.size) (fun k e=>by injection e with e;have:=HB1.out;omega),HOK.out.2 Y (zdM.of_grown hY HB1.out.2.2)⟩
 obtain ⟨Q,hQ⟩:∃ Q,w2.heap.size=Q:=⟨_,rfl⟩
 obtain ⟨Z0,hZ0⟩:∃ Z0,w2.alloc (.cells #[.slice none 0 0,.int .i64 0,.int .i64 0,.string ⟨#[]⟩] 29)=Z0:=⟨_,rfl⟩
 have bz:=B4.new w2 (.slice none 0 0) (.int .i64 0) (.int .i64 0) (.string ⟨#[]⟩) 29
 have hbZ:Below w2.heap.size w2 Z0:=by rw [←hZ0];exact (Below.refl _ _).alloc (Nat.le_refl _) _
 rw [hZ0] at bz
 rw [hQ] at bz hbZ
 have z0:=bz.c0
 have z1:=bz.c1
 have z2:=bz.c2
 have z3:=bz.c3
 have zf:=bz.fr
 have b4:=(((bz.s0 (.slice va ts.length vc)).s1 (.int .i64 ep)).s2 (.int .i64 nw)).s3 (.string ⟨jr.toArray⟩)
 have hbX:Below Q w2 ((((Z0.setCell ⟨Q,0,none⟩ (.slice va ts.length vc)).setCell ⟨Q,1,none⟩ (.int .i64 ep)).setCell ⟨Q,2,none⟩ (.int .i64 nw)).setCell ⟨Q,3,none⟩ (.string ⟨jr.toArray⟩)):=(((hbZ.setCell (Nat.le_refl _) _).setCell (Nat.le_refl _) _).setCell (Nat.le_refl _) _).setCell (Nat.le_refl _) _
 obtain ⟨w3,hw3⟩:∃ W,(((Z0.setCell ⟨Q,0,none⟩ (.slice va ts.length vc)).setCell ⟨Q,1,none⟩ (.int .i64 ep)).setCell ⟨Q,2,none⟩ (.int .i64 nw)).setCell ⟨Q,3,none⟩ (.string ⟨jr.toArray⟩)=W:=⟨_,rfl⟩
 rw [hw3] at b4 hbX
 rw [←hQ] at hbX
 have hc3:Cur w3 B a len cap:=hc2.below hbX
 have HC3:Hid (w2.grownBy w3 (some B)):=⟨hbX.os,hbX.tape,hbX.output,hbX.size,fun k hk _=>hbX.block k hk⟩
 have q3:=b4.c3
 clear b4 hbX bz hbZ hc2 hc1 hok hn4 hg2 HOK
 go_wp2_with fail
 refine (zaa _ B a len cap 4 (by omega) (by omega) hc3).mono ?_
 rintro e w4 ⟨x,rfl,hx0,hx1,hc4,hg4⟩
 have HC4:Hid (w2.grownBy w4 (some B)):=HC3.out.trans hg4
 clear hc3 hg4 q3 z0 z1 z2 z3 zf hZ0 hw3
 rcases (show x=0∨x=1∨x=2∨x=3 by omega) with rfl | rfl | rfl | rfl
 ·
  go_wp2_with fail
  refine (zaa _ B a len cap ((jr.length:Int)+1) (by omega) (by omega) hc4).mono ?_
  rintro e w5 ⟨y,rfl,hy0,hy1,hc5,hg5⟩
  have HC5:Hid (w2.grownBy w5 (some B)):=HC4.out.trans hg5
  obtain ⟨y,rfl⟩:∃ i:Nat,y=(i:Int):=Int.eq_ofNat_of_zero_le hy0
  have hjt:(jr.take y).length≤6000:=by rw [List.length_take];omega
  clear hc4 HC4 hg5
  go_wp2_with fail
  refine (zbg _ B a len cap 8 (by omega) (by omega) hc5).mono ?_
  rintro e w8 ⟨b,rfl,hc8,hg8⟩
  have HC8:Hid (w2.grownBy w8 (some B)):=HC5.out.trans hg8
  rcases b with _ | _
  ·
   go_wp2
   refine bodyPost_ret (v:=.tuple #[.slice la n lc,.string ⟨(jr.take y).toArray⟩]) (by simp [results,Tryz.results5,go_sem]) rfl ?_
   exact ⟨_,rfl,la,n,lc,ps,jr.take y,rfl,HN4.out,(HG2.out _ HC8.out).2,by omega,(HG2.out _ HC8.out).1⟩
  ·
   go_wp2_with fail
   refine (zgo w8 B a len cap hc8).mono ?_
   rintro e w9 ⟨v,rfl,la2,n2,lc2,ps2,rfl,hn,hok,hc9,hg9⟩
   have HC9:Hid (w2.grownBy w9 (some B)):=HC8.out.trans hg9
   have HOK:Hid (zal w9 la2 n2 lc2 ps2):=hok w9 (zdM.refl _ _)
   clear hok
   go_wp2_with fail
   refine bodyPost_ret (v:=.tuple #[.slice la2 n2 lc2,.string ⟨(jr.take y).toArray⟩]) (by simp [results,Tryz.results5,go_sem]) rfl ?_
   exact ⟨_,rfl,la2,n2,lc2,ps2,jr.take y,rfl,hn.2.1,HOK.out,by omega,(HG2.out _ HC9.out).1⟩
 ·
  go_wp2_with fail
  refine (zaa _ B a len cap ((jr.length:Int)+1) (by omega) (by omega) hc4).mono ?_
  rintro e w5 ⟨y,rfl,hy0,hy1,hc5,hg5⟩
  have HC5:Hid (w2.grownBy w5 (some B)):=HC4.out.trans hg5
  clear hc4 HC4 hg5
  go_wp2_with fail
  refine (zaa _ B a len cap 256 (by omega) (by omega) hc5).mono ?_
  rintro e w6 ⟨z,rfl,hz0,hz1,hc6,hg6⟩
  have HC6:Hid (w2.grownBy w6 (some B)):=HC5.out.trans hg6
  clear hc5 HC5 hg6
  go_wp2_with fail
  refine (zl3 jr _ y z _ rfl (by omega)).mono ?_
  rintro e w7 ⟨rfl,hb7⟩
  have HC7:Hid (w2.grownBy w7 (some B)):=HC6.out.trans ⟨hb7.os,hb7.tape,hb7.output,hb7.size,fun k hk _=>hb7.block k hk⟩
  have hc7:=hc6.below hb7
  have hjt:(zda jr y z).length≤6000:=by have:=zkY jr y z;omega
  clear hc6 HC6 hb7
  generalize zda jr y z=jt at hjt ⊢
  go_wp2_with fail
  refine (zbg _ B a len cap 8 (by omega) (by omega) hc7).mono ?_
  rintro e w8 ⟨b,rfl,hc8,hg8⟩
  have HC8:Hid (w2.grownBy w8 (some B)):=HC7.out.trans hg8
  rcases b with _ | _
  ·
   go_wp2
   refine bodyPost_ret (v:=.tuple #[.slice la n lc,.string ⟨(jt).toArray⟩]) (by simp [results,Tryz.results5,go_sem]) rfl ?_
   exact ⟨_,rfl,la,n,lc,ps,jt,rfl,HN4.out,(HG2.out _ HC8.out).2,by omega,(HG2.out _ HC8.out).1⟩
  ·
   go_wp2_with fail
   refine (zgo w8 B a len cap hc8).mono ?_
   rintro e w9 ⟨v,rfl,la2,n2,lc2,ps2,rfl,hn,hok,hc9,hg9⟩
   have HC9:Hid (w2.grownBy w9 (some B)):=HC8.out.trans hg9
   have HOK:Hid (zal w9 la2 n2 lc2 ps2):=hok w9 (zdM.refl _ _)
   clear hok
   go_wp2_with fail
   refine bodyPost_ret (v:=.tuple #[.slice la2 n2 lc2,.string ⟨(jt).toArray⟩]) (by simp [results,Tryz.results5,go_sem]) rfl ?_
   exact ⟨_,rfl,la2,n2,lc2,ps2,jt,rfl,hn.2.1,HOK.out,by omega,(HG2.out _ HC9.out).1⟩
 ·
  have hB4:=hc4.lt
  have hc4':=hc4.kept (World.grownBy_alloc w4 (.cells #[.string ⟨#[115,116,97,114,116,32,57]⟩,.string ⟨#[100,111,110,101,32,48,32,53]⟩,.string ⟨#[100,111,110,101,32,57,32,57]⟩,.string ⟨#[120]⟩] 9) none) (by simp)
  go_wp2_with fail
  refine (zaa _ B a len cap 4 (by omega) (by omega) hc4').mono ?_
  rintro e w5 ⟨y,rfl,hy0,hy1,hc5,hg5⟩
  obtain ⟨y,rfl⟩:∃ i:Nat,y=(i:Int):=Int.eq_ofNat_of_zero_le hy0
  obtain ⟨fn,hfn,c0⟩:=znY hg5 hB4 (show y<4 by omega)
  have HC5:Hid (w2.grownBy w5 (some B)):=HC4.out.trans ((World.grownBy_alloc w4 _ (some B)).trans hg5)
  clear hc4 hc4' HC4 hg5
  go_wp2_with fail
  refine (zdT fn _ (by omega)).mono ?_
  rintro e w6 ⟨rfl,hb6⟩
  have HC6:Hid (w2.grownBy w6 (some B)):=HC5.out.trans ⟨hb6.os,hb6.tape,hb6.output,hb6.size,fun k hk _=>hb6.block k hk⟩
  have hc6:=hc5.below hb6
  have hjt:(jr++zaj fn).length≤6000:=by rw [List.length_append,zaW];omega
  have hcat:=zbU
  have hfl:(zaj fn).length≤25:=by rw [zaW];omega
  clear hc5 HC5 hb6 c0
  go_wp2_with fail
  refine (zbg _ B a len cap 8 (by omega) (by omega) hc6).mono ?_
  rintro e w8 ⟨b,rfl,hc8,hg8⟩
  have HC8:Hid (w2.grownBy w8 (some B)):=HC6.out.trans hg8
  rcases b with _ | _
  ·
   go_wp2
   refine bodyPost_ret (v:=.tuple #[.slice la n lc,.string ⟨(jr++zaj fn).toArray⟩]) (by simp [results,Tryz.results5,go_sem]) rfl ?_
   exact ⟨_,rfl,la,n,lc,ps,jr++zaj fn,rfl,HN4.out,(HG2.out _ HC8.out).2,by omega,(HG2.out _ HC8.out).1⟩
  ·
   go_wp2_with fail
   refine (zgo w8 B a len cap hc8).mono ?_
   rintro e w9 ⟨v,rfl,la2,n2,lc2,ps2,rfl,hn,hok,hc9,hg9⟩
   have HC9:Hid (w2.grownBy w9 (some B)):=HC8.out.trans hg9
   have HOK:Hid (zal w9 la2 n2 lc2 ps2):=hok w9 (zdM.refl _ _)
   clear hok
   go_wp2_with fail
   refine bodyPost_ret (v:=.tuple #[.slice la2 n2 lc2,.string ⟨(jr++zaj fn).toArray⟩]) (by simp [results,Tryz.results5,go_sem]) rfl ?_
   exact ⟨_,rfl,la2,n2,lc2,ps2,jr++zaj fn,rfl,hn.2.1,HOK.out,by omega,(HG2.out _ HC9.out).1⟩
 ·
  go_wp2_with fail
  refine (zbg _ B a len cap 8 (by omega) (by omega) hc4).mono ?_
  rintro e w8 ⟨b,rfl,hc8,hg8⟩
  have HC8:Hid (w2.grownBy w8 (some B)):=HC4.out.trans hg8
  rcases b with _ | _
  ·
   go_wp2
   refine bodyPost_ret (v:=.tuple #[.slice la n lc,.string ⟨(jr).toArray⟩]) (by simp [results,Tryz.results5,go_sem]) rfl ?_
   exact ⟨_,rfl,la,n,lc,ps,jr,rfl,HN4.out,(HG2.out _ HC8.out).2,by omega,(HG2.out _ HC8.out).1⟩
  ·
   go_wp2_with fail
   refine (zgo w8 B a len cap hc8).mono ?_
   rintro e w9 ⟨v,rfl,la2,n2,lc2,ps2,rfl,hn,hok,hc9,hg9⟩
   have HC9:Hid (w2.grownBy w9 (some B)):=HC8.out.trans hg9
   have HOK:Hid (zal w9 la2 n2 lc2 ps2):=hok w9 (zdM.refl _ _)
   clear hok
   go_wp2_with fail
   refine bodyPost_ret (v:=.tuple #[.slice la2 n2 lc2,.string ⟨(jr).toArray⟩]) (by simp [results,Tryz.results5,go_sem]) rfl ?_
   exact ⟨_,rfl,la2,n2,lc2,ps2,jr,rfl,hn.2.1,HOK.out,by omega,(HG2.out _ HC9.out).1⟩
set_option maxHeartbeats 1000000 in
set_option maxRecDepth 100000 in
theorem likeIntR (w:World) (aa ab:Option Addr) (ca cb:Nat) (ls:List Int) (hn:ls.length≤1100000) (ha:AsIn w aa ls) (hb:AsIn w ab ls) :
 Calls Tryz.prog 28 #[.slice aa ls.length ca,.slice ab ls.length cb] w fun e w'=>e=.returned (.bool true)∧w.grownBy w' none:=by
 have hself:∀ n:Int,(n !=n)=false:=by simp
 have HA:Hid (AsIn w aa ls):=ha
 have HB:Hid (AsIn w ab ls):=hb
 clear ha hb
 go_enter Tryz.func28,Tryz.ntmps28
 go_wp2
 go_loopw [5] (fun i wr=>∃ k:Nat,k≤ls.length∧i=.int .i64 k∧w.grownBy wr none) (fun i _=>ls.length-(intOf i).toNat)
 case atStart=>exact ⟨0,Nat.zero_le _,rfl,World.grownBy.refl _ _⟩
 case round =>
  obtain ⟨k,hk,rfl,hg⟩:=hrel
  by_cases hlt:k<ls.length
  ·
   obtain ⟨b1,o1,rfl,_,c1⟩:=HA.out k hlt
   obtain ⟨b2,o2,rfl,_,c2⟩:=HB.out k hlt
   obtain ⟨t,ht⟩:∃ t,ls.getD k 0=t:=⟨_,rfl⟩
   rw [ht] at c1 c2
   have hca:wr.cell? ⟨b1,o1+k,none⟩=some (.int .i64 t):=hg.cell c1 (by simp)
   have hcb:wr.cell? ⟨b2,o2+k,none⟩=some (.int .i64 t):=hg.cell c2 (by simp)
   clear ht c1 c2
   go_wp2
   go_region
   all_goals (try go_wp2)
   go_roundw
   case rel=>exact ⟨k+1,by omega,by go_num,hg.trans (zaq _ _)⟩
   case measure=>simp [intOf];omega
  ·
   go_wp2
   go_ret
   exact ⟨rfl,hg⟩
set_option maxHeartbeats 8000000 in
set_option maxRecDepth 100000 in
theorem zgR (a b:Option Addr) (len ca cb:Nat) (fs:List Ta) (ep nw:Int) (jr:List UInt8) (w:World) (ha:zaK w a len fs) (hb:zaK w b len fs) (hlen:len≤1048576) (hsh:zav fs) :
 Calls Tryz.prog 8 #[.agg #[.slice a len ca,.int .i64 ep,.int .i64 nw,.string ⟨jr.toArray⟩],.agg #[.slice b len cb,.int .i64 ep,.int .i64 nw,.string ⟨jr.toArray⟩]] w fun e w'=>e=.returned (.bool true)∧Below w.heap.size w w':=by
 have h1:∀ n:Int,(n !=n)=false:=by simp
 have h2:∀ l:List UInt8,(l !=l)=false:=by simp
 obtain ⟨D,hD⟩:∃ D,w.heap.size=D:=⟨_,rfl⟩
 obtain ⟨W1,hW1⟩:∃ W,w.alloc (.cells #[.slice a len ca,.int .i64 ep,.int .i64 nw,.string ⟨jr.toArray⟩] 29)=W:=⟨_,rfl⟩
 obtain ⟨W2,hW2⟩:∃ W,W1.alloc (.cells #[.slice b len cb,.int .i64 ep,.int .i64 nw,.string ⟨jr.toArray⟩] 29)=W:=⟨_,rfl⟩
 have hs1:W1.heap.size=D+1:=by rw [←hW1,←hD];simp
 have bA:=B4.new w (.slice a len ca) (.int .i64 ep) (.int .i64 nw) (.string ⟨jr.toArray⟩) 29
 rw [hW1,hD] at bA
 have bB:=B4.new W1 (.slice b len cb) (.int .i64 ep) (.int .i64 nw) (.string ⟨jr.toArray⟩) 29
 rw [hW2,hs1] at bB
 have hb12:Below W1.heap.size W1 W2:=by rw [←hW2];exact (Below.refl _ _).alloc (Nat.le_refl _) _
 have hb01:Below w.heap.size w W1:=by rw [←hW1];exact (Below.refl _ _).alloc (Nat.le_refl _) _
 have hb02:Below w.heap.size w W2:=hb01.trans (hb12.mono hb01.size)
 have HK:Hid (∀ Z,Below W2.heap.size W2 Z→B4 Z D (.slice a len ca) (.int .i64 ep) (.int .i64 nw) (.string ⟨jr.toArray⟩)∧B4 Z (D+1) (.slice b len cb) (.int .i64 ep) (.int .i64 nw) (.string ⟨jr.toArray⟩)∧zaK Z a len fs∧zaK Z b len fs∧Below w.heap.size w Z):=fun Z hz =>
  ⟨(bA.below hb12).below hz,bB.below hz,(ha.below hb02).below hz,(hb.below hb02).below hz,hb02.trans (hz.mono hb02.size)⟩
 have HSH:Hid (zav fs):=hsh
 have HB0:Hid (Below W2.heap.size W2 W2):=Below.refl _ _
 obtain ⟨kA,kB,_⟩:=HK.out W2 (Below.refl _ _)
 have a0:=kA.c0
 have a1:=kA.c1
 have a2:=kA.c2
 have a3:=kA.c3
 have b0:=kB.c0
 have b1:=kB.c1
 have b2:=kB.c2
 have b3:=kB.c3
 clear ha hb hsh bA bB hb12 hb01 hb02 kA kB
 go_enter Tryz.func8,Tryz.ntmps8
 go_wp2
 go_loopw [5] (fun iv wr=>∃ k:Nat,k≤len∧iv=.int .i64 (k:Int)∧Hid (Below W2.heap.size W2 wr)) (fun iv _=>len-(intOf iv).toNat)
 case atStart=>exact ⟨0,Nat.zero_le _,rfl,HB0⟩
 case round =>
  obtain ⟨k,hk,rfl,HB⟩:=hrel
  clear HB0 a0 a1 a2 a3 b0 b1 b2 b3
  obtain ⟨V,hV⟩:∃ V,V=wr:=⟨_,rfl⟩
  subst hV
  obtain ⟨kA,kB,hA,hB2,hw⟩:=HK.out V HB.out
  have a0:=kA.c0
  have b0:=kB.c0
  by_cases hkl:(k:Int)<(len:Int)
  ·
   obtain ⟨ba,oa,rfl,hla,c0,⟨na,nca,c1,hna⟩,c2,c3,c4,c5⟩:=hA.2 k (by omega)
   obtain ⟨bb,ob,rfl,hlb,d0,⟨nb,ncb,d1,hnb⟩,d2,d3,d4,d5⟩:=hB2.2 k (by omega)
   have hns:=(HSH.out k).2
   obtain ⟨f,hf⟩:∃ f,fs.getD k ta0=f:=⟨_,rfl⟩
   rw [hf] at c0 c1 hna c2 c3 c4 c5 d0 d1 hnb d2 d3 d4 d5 hns
   obtain ⟨nm,ns,st,wk,un,ke⟩:=f
   simp only at c0 c1 hna c2 c3 c4 c5 d0 d1 hnb d2 d3 d4 d5 hns
   obtain ⟨P,hP⟩:∃ P,V.heap.size=P:=⟨_,rfl⟩
   obtain ⟨Z1,hZ1⟩:∃ Z,V.alloc (.cells #[.string ⟨#[]⟩,.slice none 0 0,.int .i64 0,.int .i64 0,.int .i64 0,.int .i64 0] 40)=Z:=⟨_,rfl⟩
   have bzZ1:=B6.new V (.string ⟨#[]⟩) (.slice none 0 0) (.int .i64 0) (.int .i64 0) (.int .i64 0) (.int .i64 0) 40
   have hbZ1:Below V.heap.size V Z1:=by rw [←hZ1];exact (Below.refl _ _).alloc (Nat.le_refl _) _
   rw [hZ1] at bzZ1
   rw [hP] at bzZ1 hbZ1
   have Z1z0:=bzZ1.c0
   have Z1z1:=bzZ1.c1
   have Z1z2:=bzZ1.c2
   have Z1z3:=bzZ1.c3
   have Z1z4:=bzZ1.c4
   have Z1z5:=bzZ1.c5
   have Z1zf:=bzZ1.fr
   have b6X1:=(((((bzZ1.s0 (.string ⟨nm.toArray⟩)).s1 (.slice na ns.length nca)).s2 (.int .i64 st)).s3 (.int .i64 wk)).s4 (.int .i64 un)).s5 (.int .i64 ke)
   have hbX1:Below P V ((((((Z1.setCell ⟨P,0,none⟩ (.string ⟨nm.toArray⟩)).setCell ⟨P,1,none⟩ (.slice na ns.length nca)).setCell ⟨P,2,none⟩ (.int .i64 st)).setCell ⟨P,3,none⟩ (.int .i64 wk)).setCell ⟨P,4,none⟩ (.int .i64 un)).setCell ⟨P,5,none⟩ (.int .i64 ke)):=(((((hbZ1.setCell (Nat.le_refl _) _).setCell (Nat.le_refl _) _).setCell (Nat.le_refl _) _).setCell (Nat.le_refl _) _).setCell (Nat.le_refl _) _).setCell (Nat.le_refl _) _
   obtain ⟨X1,hX1⟩:∃ W,(((((Z1.setCell ⟨P,0,none⟩ (.string ⟨nm.toArray⟩)).setCell ⟨P,1,none⟩ (.slice na ns.length nca)).setCell ⟨P,2,none⟩ (.int .i64 st)).setCell ⟨P,3,none⟩ (.int .i64 wk)).setCell ⟨P,4,none⟩ (.int .i64 un)).setCell ⟨P,5,none⟩ (.int .i64 ke)=W:=⟨_,rfl⟩
   rw [hX1] at b6X1 hbX1
   have hbVX:Below V.heap.size V X1:=by rw [hP];exact hbX1
   obtain ⟨R,hR⟩:∃ R,X1.heap.size=R:=⟨_,rfl⟩
   have e0:=(hbVX.cell (p:=⟨bb,ob+k*6,none⟩) hlb).trans d0
   have e1:=(hbVX.cell (p:=⟨bb,ob+k*6+1,none⟩) hlb).trans d1
   have e2:=(hbVX.cell (p:=⟨bb,ob+k*6+2,none⟩) hlb).trans d2
   have e3:=(hbVX.cell (p:=⟨bb,ob+k*6+3,none⟩) hlb).trans d3
   have e4:=(hbVX.cell (p:=⟨bb,ob+k*6+4,none⟩) hlb).trans d4
   have e5:=(hbVX.cell (p:=⟨bb,ob+k*6+5,none⟩) hlb).trans d5
   have x0:=(kB.below hbVX).c0
   obtain ⟨Z2,hZ2⟩:∃ Z,X1.alloc (.cells #[.string ⟨#[]⟩,.slice none 0 0,.int .i64 0,.int .i64 0,.int .i64 0,.int .i64 0] 40)=Z:=⟨_,rfl⟩
   have bzZ2:=B6.new X1 (.string ⟨#[]⟩) (.slice none 0 0) (.int .i64 0) (.int .i64 0) (.int .i64 0) (.int .i64 0) 40
   have hbZ2:Below X1.heap.size X1 Z2:=by rw [←hZ2];exact (Below.refl _ _).alloc (Nat.le_refl _) _
   rw [hZ2] at bzZ2
   rw [hR] at bzZ2 hbZ2
   have Z2z0:=bzZ2.c0
   have Z2z1:=bzZ2.c1
   have Z2z2:=bzZ2.c2
   have Z2z3:=bzZ2.c3
   have Z2z4:=bzZ2.c4
   have Z2z5:=bzZ2.c5
   have Z2zf:=bzZ2.fr
   have b6X2:=(((((bzZ2.s0 (.string ⟨nm.toArray⟩)).s1 (.slice nb ns.length ncb)).s2 (.int .i64 st)).s3 (.int .i64 wk)).s4 (.int .i64 un)).s5 (.int .i64 ke)
   have hbX2:Below R X1 ((((((Z2.setCell ⟨R,0,none⟩ (.string ⟨nm.toArray⟩)).setCell ⟨R,1,none⟩ (.slice nb ns.length ncb)).setCell ⟨R,2,none⟩ (.int .i64 st)).setCell ⟨R,3,none⟩ (.int .i64 wk)).setCell ⟨R,4,none⟩ (.int .i64 un)).setCell ⟨R,5,none⟩ (.int .i64 ke)):=(((((hbZ2.setCell (Nat.le_refl _) _).setCell (Nat.le_refl _) _).setCell (Nat.le_refl _) _).setCell (Nat.le_refl _) _).setCell (Nat.le_refl _) _).setCell (Nat.le_refl _) _
   obtain ⟨X2,hX2⟩:∃ W,(((((Z2.setCell ⟨R,0,none⟩ (.string ⟨nm.toArray⟩)).setCell ⟨R,1,none⟩ (.slice nb ns.length ncb)).setCell ⟨R,2,none⟩ (.int .i64 st)).setCell ⟨R,3,none⟩ (.int .i64 wk)).setCell ⟨R,4,none⟩ (.int .i64 un)).setCell ⟨R,5,none⟩ (.int .i64 ke)=W:=⟨_,rfl⟩
   rw [hX2] at b6X2 hbX2
   have hbX12:Below X1.heap.size X1 X2:=by rw [hR];exact hbX2
   have HB2:Hid (Below W2.heap.size W2 X2):=(HB.out.trans (hbVX.mono HB.out.size)).trans (hbX12.mono (Nat.le_trans HB.out.size hbVX.size))
   have HP:Hid (∀ Z,Below X2.heap.size X2 Z→B6 Z P (.string ⟨nm.toArray⟩) (.slice na ns.length nca) (.int .i64 st) (.int .i64 wk) (.int .i64 un) (.int .i64 ke)∧B6 Z R (.string ⟨nm.toArray⟩) (.slice nb ns.length ncb) (.int .i64 st) (.int .i64 wk) (.int .i64 un) (.int .i64 ke)):=fun Z hz=>⟨(b6X1.below hbX12).below hz,b6X2.below hz⟩
   have HLi:Hid (_):=likeIntR X2 na nb nca ncb ns (by omega) ((hna.below hbVX).below hbX12) ((hnb.below hbVX).below hbX12)
   obtain ⟨pP,pR⟩:=HP.out X2 (Below.refl _ _)
   have p0:=pP.c0
   have p1:=pP.c1
   have p2:=pP.c2
   have p3:=pP.c3
   have p4:=pP.c4
   have p5:=pP.c5
   have r0:=pR.c0
   have r1:=pR.c1
   have r2:=pR.c2
   have r3:=pR.c3
   have r4:=pR.c4
   have r5:=pR.c5
   clear hf hna hnb hA hB2 hw bzZ1 bzZ2 hbZ1 hbZ2 hbX1 hbX2 hbVX hbX12 b6X1 b6X2 kA kB pP pR d0 d1 d2 d3 d4 d5
   go_wp2_with fail
   refine Calls.mono HLi.out ?_
   rintro e w3 ⟨rfl,hg3⟩
   have hb3:Below X2.heap.size X2 w3:=(Below.refl _ _).grown hg3 (Nat.le_refl _) (by simp)
   have HB3:Hid (Below W2.heap.size W2 w3):=HB2.out.trans (hb3.mono HB2.out.size)
   obtain ⟨pP,pR⟩:=HP.out w3 hb3
   clear p0 p1 p2 p3 p4 p5 r0 r1 r2 r3 r4 r5
   have p2:=pP.c2
   have p3:=pP.c3
   have p4:=pP.c4
   have p5:=pP.c5
   have r2:=pR.c2
   have r3:=pR.c3
   have r4:=pR.c4
   have r5:=pR.c5
   clear hb3 hg3 pP pR HB HLi
   go_wp2
   go_roundw
   case rel=>exact ⟨k+1,by omega,by go_num,HB3⟩
   case measure=>simp [intOf];omega
  ·
   go_wp2
   go_ret
   exact ⟨rfl,hD▸hw⟩
theorem tk_ok {X:World} {L:Nat} {va:Option Addr} {vc n:Nat} {xs:List TV} {ts:List Ta} (ho:za9 X L (.slice va n vc) xs) (hx:xs.map (·.1)=ts) (hn:ts.length=n):ze6 X va n vc ts∧n≤vc:=by
 obtain ⟨a7,c7,e7,hok7⟩:=ho.ok
 have hxl:xs.length=n:=by rw [←hn,←hx,List.length_map]
 rw [hx,hxl] at hok7
 rw [hxl] at e7
 injection e7 with e7 _ e8
 subst e7
 subst e8
 have hr:=ho.row
 rw [hxl] at hr
 exact ⟨hok7,zgG hr⟩
structure RoD (Z:World) (P:Nat) (va:Option Addr) (vc n:Nat) (ts:List Ta) (ep nw:Int) (jr:List UInt8):Prop where
 b4:B4 Z P (.slice va n vc) (.int .i64 ep) (.int .i64 nw) (.string ⟨jr.toArray⟩)
 ok:ze6 Z va n vc ts
 cap:n≤vc
section
variable {X Y:World} {P L n:Nat} {va:Option Addr} {vc:Nat} {ts:List Ta} {ep nw:Int} {jr:List UInt8} {xs:List TV}
theorem RoD.below (h:RoD X P va vc n ts ep nw jr) (hb:Below X.heap.size X Y):RoD Y P va vc n ts ep nw jr:=⟨h.b4.below hb,h.ok.below hb,h.cap⟩
theorem RoD.new (ho:za9 X L (.slice va n vc) xs) (hx:xs.map (·.1)=ts) (hn:ts.length=n) (hb:Below X.heap.size X Y) (h4:B4 Y P (.slice va n vc) (.int .i64 ep) (.int .i64 nw) (.string ⟨jr.toArray⟩)):RoD Y P va vc n ts ep nw jr :=
 ⟨h4,(tk_ok ho hx hn).1.below hb,(tk_ok ho hx hn).2⟩
end
end Go.Proofs.YtdbljnddkbpanaaGreatDoor
