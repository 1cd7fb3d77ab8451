/-
  Parts of one proof, one behind the other: Draw8P, Draw8Q, LikeD, RoD, Math18K, WordI, Jumps, Clone, TextI.
-/
import Derived.Test.YtponeoijfaepnaaGreatDoorP22
namespace Go.Proofs.YtponeoijfaepnaaGreatDoor
open Go.RowKit
set_option maxHeartbeats 8000000
set_option maxRecDepth 100000
theorem Q8.cells {X w:World} {B:Nat} {a:Option Addr} {len cap g lc:Nat} {ys:List PV} (h:Q8 X w B a len cap g lc ys) {j:Nat} (hj:j<ys.length):X.cell? ⟨g,j*3,none⟩=some (.string ⟨(ys.getD j pv0).nm.toArray⟩)∧X.cell? ⟨g,j*3+1,none⟩=some (pvI (ys.getD j pv0))∧X.cell? ⟨g,j*3+2,none⟩=some (pvF (ys.getD j pv0)):=by
 obtain ⟨v0,v1,v2⟩:=zo0 ys j hj;have hc:=fun k (hk:k<ys.length*3)=>World.ownsRow.cellAt h.row k hk
 exact ⟨(hc _ (by omega)).trans v0,(hc _ (by omega)).trans v1,(hc _ (by omega)).trans v2⟩
theorem Q8.frozen {X w:World} {B:Nat} {a:Option Addr} {len cap g lc:Nat} {ys:List PV} (h:Q8 X w B a len cap g lc ys) (k:Nat):X.frozen? ⟨g,k,none⟩=false:=World.ownsRow.frozenAt h.row k
theorem Q8.fcell {X w:World} {B:Nat} {a:Option Addr} {len cap g lc:Nat} {ys:List PV} (h:Q8 X w B a len cap g lc ys) {j:Nat} (hj:j<ys.length) {gF:Nat} (hF:(ys.getD j pv0).fa=some ⟨gF,0,none⟩):(∃ v,X.cell? ⟨gF,1,none⟩=some v)∧(∃ v,X.cell? ⟨gF,2,none⟩=some v)∧∀ k,X.frozen? ⟨gF,k,none⟩=false:=by
 have hy:=h.at hj;have hr:=hy.fo.row;have hF2:pvF (ys.getD j pv0)=.slice (some ⟨gF,0,none⟩) (ys.getD j pv0).xs.length (ys.getD j pv0).fc:=by unfold pvF;rw [hF]
 rw [hF2] at hr;have hn:=hy.n;obtain ⟨_,f1,f2⟩:=ziF (ys.getD j pv0).xs 0 (by omega);exact ⟨⟨_,(World.ownsRow.cellAt hr 1 (by omega)).trans f1⟩,⟨_,(World.ownsRow.cellAt hr 2 (by omega)).trans f2⟩,fun k=>World.ownsRow.frozenAt hr k⟩
theorem Q8.open {X w:World} {B:Nat} {a:Option Addr} {len cap g lc:Nat} {ys:List PV} (h:Q8 X w B a len cap g lc ys) (hA:A8 ys) {j:Nat} (hj:j<ys.length):∃ (gI gF ic fc nF:Nat) (ims:List (List UInt8)),(ys.getD j pv0).fa=some ⟨gF,0,none⟩∧(1≤nF∧nF≤3)∧(ims.length≤8∧∀ t∈ims,t.length≤9) ∧
 ∀ Z,Q8 Z w B a len cap g lc ys→Z.cell? ⟨g,j*3+1,none⟩=some (.slice (some ⟨gI,0,none⟩) ims.length ic)∧Z.cell? ⟨g,j*3+2,none⟩=some (.slice (some ⟨gF,0,none⟩) nF fc)∧Z.ownsRow w.heap.size 9 1 (.slice (some ⟨gI,0,none⟩) ims.length ic) ims.length (strV ims):=by
 have hm:ys.getD j pv0∈ys:=by simp [List.getD,hj]
 obtain ⟨gF,hF⟩:=h.fn0 hj;obtain ⟨gI,hI⟩:=hA.sa _ hm;have hy:=h.at hj;refine ⟨gI,gF,(ys.getD j pv0).ic,(ys.getD j pv0).fc,(ys.getD j pv0).xs.length,(ys.getD j pv0).ims,hF,hy.n,⟨hA.il _ hm,hy.is.2⟩,fun Z hZ=>?_⟩;obtain ⟨_,q1,q2⟩:=hZ.cells hj;have hi:=(hZ.at hj).im;unfold pvI at q1 hi;unfold pvF at q2;rw [hI] at q1 hi;rw [hF] at q2;exact ⟨q1,q2,hi⟩
theorem zmM {ims:List (List UInt8)} {fn:List UInt8} (h:ims.length≤8∧∀ t∈ims,t.length≤9) (hf:fn.length≤9):(put8 ims fn).length≤9∧∀ t∈put8 ims fn,t.length≤9:=by
 refine ⟨by have:=(put8_len ims fn).2;omega,fun t ht=>?_⟩;rcases zcf.1 ht with rfl | h1
 ·exact hf
 ·exact h.2 t h1
theorem drawAny8 (w:World) (B:Nat) (a:Option Addr) (len cap:Nat) (hc:Cur w B a len cap) :
 Calls Tryz.prog 65 #[.pointer (some ⟨B,0,none⟩)] w fun e w'=>∃ v,e=.returned v∧L8 w w' B a len cap v:=by
 go_enter Tryz.func65,Tryz.ntmps65
 go_wp2_with fail
 refine (drawPs w B a len cap hc).mono ?_;rintro e w1 ⟨L,la,lc,ys,vc,cs,rfl,hd,hn1,hn4⟩;obtain ⟨g,c,e0⟩:=zaw hd.row (by omega);injection e0 with e0 _ e2;subst e0;clear e2;obtain ⟨hq,hA⟩:=hd.q8 ⟨hn1,hn4⟩;have HA:Hid (A8 ys):=hA;clear hd hA;go_wp2_with fail
 refine (zbO w1 B a len cap 6 (by omega) (by omega) hq.cur).mono ?_;rintro e w2 ⟨b2,rfl,hc2,hg2⟩;have HQ2:Hid (Q8 w2 w B a len cap g lc ys):=hq.next hg2 hc2;clear hq hc2 hg2;rcases b2 with _ | _
 ·go_wp2;go_ret;exact ⟨_,rfl,HQ2.out.l8⟩
 ·
  go_wp2_with fail
  refine (zad w2 B a len cap (ys.length:Int) (by omega) (by omega) HQ2.out.cur).mono ?_;rintro e w3 ⟨x3,rfl,h30,h31,hc3,hg3⟩;obtain ⟨j,rfl⟩:∃ j:Nat,x3=(j:Int):=Int.eq_ofNat_of_zero_le h30
  have HQ3:Hid (Q8 w3 w B a len cap g lc ys):=HQ2.out.next hg3 hc3;have hj:j<ys.length:=by omega
  clear HQ2 hc3 hg3;go_wp2_with fail
  refine (zad w3 B a len cap 6 (by omega) (by omega) HQ3.out.cur).mono ?_;rintro e w4 ⟨x4,rfl,h40,h41,hc4,hg4⟩;have HQ4:Hid (Q8 w4 w B a len cap g lc ys):=HQ3.out.next hg4 hc4;clear HQ3 hc4 hg4;obtain ⟨gI,gF,ic,fc,nF,ims,hF,hnF,his,hZ⟩:=HQ4.out.open HA.out hj;have HF:Hid ((ys.getD j pv0).fa=some ⟨gF,0,none⟩):=hF;have HIs:Hid (ims.length≤8∧∀ t∈ims,t.length≤9):=his;have HZ:Hid (∀ Z,Q8 Z w B a len cap g lc ys→Z.cell? ⟨g,j*3+1,none⟩=some (.slice (some ⟨gI,0,none⟩) ims.length ic)∧Z.cell? ⟨g,j*3+2,none⟩=some (.slice (some ⟨gF,0,none⟩) nF fc)∧Z.ownsRow w.heap.size 9 1 (.slice (some ⟨gI,0,none⟩) ims.length ic) ims.length (strV ims)):=hZ;obtain ⟨q1,q2,_⟩:=HZ.out w4 HQ4.out;have hnF0:(0:Int)<(nF:Int):=by omega
  have hcap:(ys.length:Int)≤(lc:Int):=by have:=HQ4.out.ok.hcap;omega
  have hB4:B<w4.heap.size:=HQ4.out.cur.lt;have hs4:w.heap.size≤w4.heap.size:=HQ4.out.g.size;clear hF his hZ;obtain ⟨m,rfl⟩:∃ m:Nat,x4=(m:Int):=Int.eq_ofNat_of_zero_le h40
  have hm:m=0∨m=1∨m=2∨m=3∨m=4∨m=5:=by omega
  rcases hm with rfl | rfl | rfl | rfl | rfl | rfl
  ·
   have q1a:∀ o,(w4.alloc o).cell? ⟨g,j*3+1,none⟩=some (.slice (some ⟨gI,0,none⟩) ims.length ic):=fun o=>(HZ.out (w4.alloc o) (HQ4.out.alloc o)).1
   have hil:ims.length≤1048576:=by have:=HIs.out.1;omega
   go_wp2_with fail
   go_region_with (first | (go_at_call 30;refine (zad _ B a len cap 3 (by omega) (by omega) (by first | exact (HQ4.out.alloc _).drew.cur | exact HQ4.out.drew.cur)).mono ?_;rintro e w5 ⟨x,rfl,hx0,hx1,hc5,hg5⟩;obtain ⟨T,rfl⟩:∃ T:Nat,x=(T:Int):=Int.eq_ofNat_of_zero_le hx0;have hT3:T<3:=(by omega);obtain ⟨fn,hfn,hget⟩:=zkk [109,97,105,110] [122,122] [99] T hT3 (by decide) (by decide) (by decide);have HPs:Hid ((put8 ims fn).length≤9∧∀ t∈put8 ims fn,t.length≤9):=zmM HIs.out hfn;(first | (have nL:=zgZ (zlr (V:=w4) hg5 hB4).1 hT3 hget;have HQ5:Hid (Q8 w5 w B a len cap g lc ys):=(HQ4.out.alloc _).drew.next hg5 hc5) | (have HQ5:Hid (Q8 w5 w B a len cap g lc ys):=HQ4.out.drew.next hg5 hc5));have p1:=(HZ.out w5 HQ5.out).1;have p1a:∀ o,(w5.alloc o).cell? ⟨g,j*3+1,none⟩=some (.slice (some ⟨gI,0,none⟩) ims.length ic):=(fun o=>(HZ.out (w5.alloc o) (HQ5.out.alloc o)).1);clear hg5 hc5) | (go_at_call 90;refine (znN w.heap.size gI ic ims fn _ (by first | exact (HZ.out _ HQ5.out).2.2 | exact (HZ.out _ (HQ5.out.alloc _)).2.2) (by first | exact HQ5.out.g.size | exact (HQ5.out.alloc _).g.size) hil).mono ?_;rintro e w6 ⟨g6,c6,rfl,ho6,hb6⟩;have HQ6:Hid (Q8 w6 w B a len cap g lc ys):=(by first | exact HQ5.out.below hb6 | exact (HQ5.out.alloc _).below hb6);have p6:=(HZ.out w6 HQ6.out).1;have z6:=HQ6.out.frozen (j*3+1);clear hb6))
   all_goals
    go_wp2;go_ret;exact ⟨_,rfl,by have h:=(HQ6.out.imps hj ho6 HPs.out).l8;rw [List.length_set] at h;exact h⟩
  ·
   go_wp2_with fail
   go_region_with (go_at_call 30;refine (zad _ B a len cap 4 (by omega) (by omega) HQ4.out.drew.cur).mono ?_;rintro e w5 ⟨x,rfl,hx0,hx1,hc5,hg5⟩;have hq5:=HQ4.out.drew.next hg5 hc5;have p2:=(HZ.out w5 hq5).2.1;obtain ⟨⟨v1,s1⟩,_,z⟩:=hq5.fcell hj HF.out;have z1:=z 1;clear z)
   all_goals
    go_wp2;go_ret;obtain ⟨ys',hl,hq'⟩:=hq5.args HA.out hj HF.out x (by omega);exact ⟨_,rfl,by have h:=hq'.l8;rw [hl] at h;exact h⟩
  ·
   go_wp2_with fail
   go_region_with (go_at_call 91;refine (drawAny6 _ B a len cap HQ4.out.drew.cur).mono ?_;rintro e w5 ⟨v,rfl,t,ho,htl,hts,_,hc5,hg5⟩;have hq5:=HQ4.out.drew.next hg5 hc5;have p2:=(HZ.out w5 hq5).2.1;obtain ⟨ta,tc,rfl,_,_⟩:=zdd ho;obtain ⟨_,⟨v2,s2⟩,z⟩:=hq5.fcell hj HF.out;have z2:=z 2;clear z)
   all_goals
    go_wp2;go_ret;obtain ⟨ys',hl,hq'⟩:=hq5.tree HA.out hj HF.out ta tc t (zaD ho hs4) (by omega) hts;exact ⟨_,rfl,by have h:=hq'.l8;rw [hl] at h;exact h⟩
  ·
   go_wp2_with fail
   refine (zad _ B a len cap 3 (by omega) (by omega) (HQ4.out.alloc _).cur).mono ?_;rintro e w5 ⟨x,rfl,hx0,hx1,hc5,hg5⟩;have hq5:=(HQ4.out.alloc _).next hg5 hc5;obtain ⟨T,rfl⟩:∃ T:Nat,x=(T:Int):=Int.eq_ofNat_of_zero_le hx0
   have bL:=zmh zfC hg5 (by omega);obtain ⟨fn,hfn,hget⟩:=zkk [98] [122,122] [] T (by omega) (by decide) (by decide) (by decide);have nL:=zgZ bL.1 (by omega) hget;have p0:=(hq5.cells hj).1;have z0:=hq5.frozen (j*3);have HL:Hid (Q8 _ w B a len cap g lc _):=hq5.name hj fn hfn;clear hq5 bL hg5 hc5 hget;go_wp2_with fail
   go_ret;exact ⟨_,rfl,by have h:=HL.out.l8;rw [List.length_set] at h;exact h⟩
  ·
   by_cases h1:(1:Int)<(ys.length:Int)
   ·go_wp2;go_ret;exact ⟨_,rfl,HQ4.out.l8cut (by omega) (by omega)⟩
   ·go_wp2;go_ret;exact ⟨_,rfl,HQ4.out.l8⟩
  ·
   go_wp2_with fail
   refine (znL (some ⟨gI,0,none⟩) 0 ic [] _ ⟨rfl,fun q hq=>absurd hq (by omega)⟩ (fun e=>by cases e) (by omega)).mono ?_;rintro e w5 ⟨v,rfl,ho,hb5⟩;have hq5:=HQ4.out.below hb5;obtain ⟨ia5,ic5,rfl,_,_⟩:=zfp ho;have p1:=(HZ.out w5 hq5).1;have z1:=hq5.frozen (j*3+1);have HL:Hid (Q8 _ w B a len cap g lc _):=hq5.imps hj (zaD ho hs4) ⟨by simp,fun t ht=>by cases ht⟩;clear hq5;go_wp2_with fail
   go_ret;exact ⟨_,rfl,by have h:=HL.out.l8;rw [List.length_set] at h;exact h⟩
def Drawn8 (w w':World) (v:Value):Prop:=∃ la n lc ps,v=.slice la n lc∧n≤4∧zab w' la n lc ps∧Below w.heap.size w w'
theorem zhn (w:World) (a:Option Addr) (len cap:Nat) (hl:len≤4096) (hc:Code w w.heap.size a len) :
 Calls Tryz.prog 33 #[.slice a len cap] w fun e w'=>∃ v,e=.returned v∧Drawn8 w w' v:=by
 go_enter Tryz.func33,Tryz.ntmps33
 go_wp2_with fail
 refine (ziJ _ a len cap hl hc).mono ?_;rintro e w1 ⟨rfl,hc1,hg1⟩;have hB1:Below w.heap.size w w1:=(Below.refl _ _).grown hg1 (Nat.le_refl _) (by simp);go_wp2_with fail
 refine (drawAny8 w1 w.heap.size a len cap hc1).mono ?_;rintro e w2 ⟨v,rfl,la,n,lc,ps,rfl,hn,hok,hc2,hg2⟩;have hB2:=hB1.grown hg2 hB1.size (fun k e=>by injection e with e;omega);have HOK:Hid (zab w2 la n lc ps):=hok w2 (zff.refl _ _);clear hok;go_wp2_with fail
 go_ret;exact ⟨_,rfl,la,n,lc,ps,rfl,hn.2.1,HOK.out,hB2⟩
theorem likeIntR (w:World) (aa ab:Option Addr) (ca cb:Nat) (ls:List Int) (hn:ls.length≤1100000) (ha:AsIn w aa ls) (hb:AsIn w ab ls) :
 Calls Tryz.prog 37 #[.slice aa ls.length ca,.slice ab ls.length cb] w fun e w'=>e=.returned (.bool true)∧w.grownBy w' none:=by
 have hself:∀ n:Int,(n !=n)=false:=by simp
 have HA:Hid (AsIn w aa ls):=ha;have HB:Hid (AsIn w ab ls):=hb;clear ha hb
 go_enter Tryz.func37,Tryz.ntmps37
 go_wp2
 go_loopw [5] (fun i wr=>∃ k:Nat,k≤ls.length∧i=.int .i64 k∧w.grownBy wr none) (fun i _=>ls.length-(intOf i).toNat)
 case atStart=>exact ⟨0,Nat.zero_le _,rfl,World.grownBy.refl _ _⟩
 case round =>
  obtain ⟨k,hk,rfl,hg⟩:=hrel;by_cases hlt:k<ls.length
  ·
   obtain ⟨b1,o1,rfl,_,c1⟩:=HA.out k hlt;obtain ⟨b2,o2,rfl,_,c2⟩:=HB.out k hlt;obtain ⟨t,ht⟩:∃ t,ls.getD k 0=t:=⟨_,rfl⟩
   rw [ht] at c1 c2;have hca:wr.cell? ⟨b1,o1+k,none⟩=some (.int .i64 t):=hg.cell c1 (by simp);have hcb:wr.cell? ⟨b2,o2+k,none⟩=some (.int .i64 t):=hg.cell c2 (by simp);clear ht c1 c2;go_wp2
   go_region
   all_goals (try go_wp2)
   go_roundw
   case rel=>exact ⟨k+1,by omega,by go_num,hg.trans (zap _ _)⟩
   case measure=>simp [intOf];omega
  ·go_wp2;go_ret;exact ⟨rfl,hg⟩
theorem zcM (a b:Option Addr) (len ca cb:Nat) (fs:List Ta) (ep nw:Int) (jr:List UInt8) (w:World) (ha:zat w a len fs) (hb:zat w b len fs) (hlen:len≤1048576) (hsh:za1 fs) :
 Calls Tryz.prog 14 #[.agg #[.slice a len ca,.int .i64 ep,.int .i64 nw,.string ⟨jr.toArray⟩],.agg #[.slice b len cb,.int .i64 ep,.int .i64 nw,.string ⟨jr.toArray⟩]] w fun e w'=>e=.returned (.bool true)∧Below w.heap.size w w':=by
 have h1:∀ n:Int,(n !=n)=false:=by simp
 have h2:∀ l:List UInt8,(l !=l)=false:=by simp
 obtain ⟨D,hD⟩:∃ D,w.heap.size=D:=⟨_,rfl⟩
 obtain ⟨W1,hW1⟩:∃ W,w.alloc (.cells #[.slice a len ca,.int .i64 ep,.int .i64 nw,.string ⟨jr.toArray⟩] 26)=W:=⟨_,rfl⟩
 obtain ⟨W2,hW2⟩:∃ W,W1.alloc (.cells #[.slice b len cb,.int .i64 ep,.int .i64 nw,.string ⟨jr.toArray⟩] 26)=W:=⟨_,rfl⟩
 have hs1:W1.heap.size=D+1:=by rw [←hW1,←hD];simp
 have bA:=B4.new w (.slice a len ca) (.int .i64 ep) (.int .i64 nw) (.string ⟨jr.toArray⟩) 26;rw [hW1,hD] at bA;have bB:=B4.new W1 (.slice b len cb) (.int .i64 ep) (.int .i64 nw) (.string ⟨jr.toArray⟩) 26;rw [hW2,hs1] at bB;have hb12:Below W1.heap.size W1 W2:=by rw [←hW2];exact (Below.refl _ _).alloc (Nat.le_refl _) _
 have hb01:Below w.heap.size w W1:=by rw [←hW1];exact (Below.refl _ _).alloc (Nat.le_refl _) _
 have hb02:Below w.heap.size w W2:=hb01.trans (hb12.mono hb01.size)
 have HK:Hid (∀ Z,Below W2.heap.size W2 Z→B4 Z D (.slice a len ca) (.int .i64 ep) (.int .i64 nw) (.string ⟨jr.toArray⟩)∧B4 Z (D+1) (.slice b len cb) (.int .i64 ep) (.int .i64 nw) (.string ⟨jr.toArray⟩)∧zat Z a len fs∧zat Z b len fs∧Below w.heap.size w Z):=fun Z hz =>
  ⟨(bA.below hb12).below hz,bB.below hz,(ha.below hb02).below hz,(hb.below hb02).below hz,hb02.trans (hz.mono hb02.size)⟩
 have HSH:Hid (za1 fs):=hsh;have HB0:Hid (Below W2.heap.size W2 W2):=Below.refl _ _;obtain ⟨kA,kB,_⟩:=HK.out W2 (Below.refl _ _);have a0:=kA.c0;have a1:=kA.c1;have a2:=kA.c2;have a3:=kA.c3;have b0:=kB.c0;have b1:=kB.c1;have b2:=kB.c2;have b3:=kB.c3;clear ha hb hsh bA bB hb12 hb01 hb02 kA kB
 go_enter Tryz.func14,Tryz.ntmps14
 go_wp2
 go_loopw [5] (fun iv wr=>∃ k:Nat,k≤len∧iv=.int .i64 (k:Int)∧Hid (Below W2.heap.size W2 wr)) (fun iv _=>len-(intOf iv).toNat)
 case atStart=>exact ⟨0,Nat.zero_le _,rfl,HB0⟩
 case round =>
  obtain ⟨k,hk,rfl,HB⟩:=hrel;clear HB0 a0 a1 a2 a3 b0 b1 b2 b3;obtain ⟨V,hV⟩:∃ V,V=wr:=⟨_,rfl⟩
  subst hV;obtain ⟨kA,kB,hA,hB2,hw⟩:=HK.out V HB.out;have a0:=kA.c0;have b0:=kB.c0;by_cases hkl:(k:Int)<(len:Int)
  ·
   obtain ⟨ba,oa,rfl,hla,c0,⟨na,nca,c1,hna⟩,c2,c3,c4,c5⟩:=hA.2 k (by omega);obtain ⟨bb,ob,rfl,hlb,d0,⟨nb,ncb,d1,hnb⟩,d2,d3,d4,d5⟩:=hB2.2 k (by omega);have hns:=(HSH.out k).2;obtain ⟨f,hf⟩:∃ f,fs.getD k ta0=f:=⟨_,rfl⟩
   rw [hf] at c0 c1 hna c2 c3 c4 c5 d0 d1 hnb d2 d3 d4 d5 hns;obtain ⟨nm,ns,st,wk,un,ke⟩:=f;simp only at c0 c1 hna c2 c3 c4 c5 d0 d1 hnb d2 d3 d4 d5 hns;obtain ⟨P,hP⟩:∃ P,V.heap.size=P:=⟨_,rfl⟩
   obtain ⟨Z1,hZ1⟩:∃ Z,V.alloc (.cells #[.string ⟨#[]⟩,.slice none 0 0,.int .i64 0,.int .i64 0,.int .i64 0,.int .i64 0] 42)=Z:=⟨_,rfl⟩
   have bzZ1:=B6.new V (.string ⟨#[]⟩) (.slice none 0 0) (.int .i64 0) (.int .i64 0) (.int .i64 0) (.int .i64 0) 42;have hbZ1:Below V.heap.size V Z1:=by rw [←hZ1];exact (Below.refl _ _).alloc (Nat.le_refl _) _
   rw [hZ1] at bzZ1;rw [hP] at bzZ1 hbZ1;have Z1z0:=bzZ1.c0;have Z1z1:=bzZ1.c1;have Z1z2:=bzZ1.c2;have Z1z3:=bzZ1.c3;have Z1z4:=bzZ1.c4;have Z1z5:=bzZ1.c5;have Z1zf:=bzZ1.fr;have b6X1:=(((((bzZ1.s0 (.string ⟨nm.toArray⟩)).s1 (.slice na ns.length nca)).s2 (.int .i64 st)).s3 (.int .i64 wk)).s4 (.int .i64 un)).s5 (.int .i64 ke);have hbX1:Below P V ((((((Z1.setCell ⟨P,0,none⟩ (.string ⟨nm.toArray⟩)).setCell ⟨P,1,none⟩ (.slice na ns.length nca)).setCell ⟨P,2,none⟩ (.int .i64 st)).setCell ⟨P,3,none⟩ (.int .i64 wk)).setCell ⟨P,4,none⟩ (.int .i64 un)).setCell ⟨P,5,none⟩ (.int .i64 ke)):=(((((hbZ1.setCell (Nat.le_refl _) _).setCell (Nat.le_refl _) _).setCell (Nat.le_refl _) _).setCell (Nat.le_refl _) _).setCell (Nat.le_refl _) _).setCell (Nat.le_refl _) _;obtain ⟨X1,hX1⟩:∃ W,(((((Z1.setCell ⟨P,0,none⟩ (.string ⟨nm.toArray⟩)).setCell ⟨P,1,none⟩ (.slice na ns.length nca)).setCell ⟨P,2,none⟩ (.int .i64 st)).setCell ⟨P,3,none⟩ (.int .i64 wk)).setCell ⟨P,4,none⟩ (.int .i64 un)).setCell ⟨P,5,none⟩ (.int .i64 ke)=W:=⟨_,rfl⟩
   rw [hX1] at b6X1 hbX1;have hbVX:Below V.heap.size V X1:=by rw [hP];exact hbX1
   obtain ⟨R,hR⟩:∃ R,X1.heap.size=R:=⟨_,rfl⟩
   have e0:=(hbVX.cell (p:=⟨bb,ob+k*6,none⟩) hlb).trans d0;have e1:=(hbVX.cell (p:=⟨bb,ob+k*6+1,none⟩) hlb).trans d1;have e2:=(hbVX.cell (p:=⟨bb,ob+k*6+2,none⟩) hlb).trans d2;have e3:=(hbVX.cell (p:=⟨bb,ob+k*6+3,none⟩) hlb).trans d3;have e4:=(hbVX.cell (p:=⟨bb,ob+k*6+4,none⟩) hlb).trans d4;have e5:=(hbVX.cell (p:=⟨bb,ob+k*6+5,none⟩) hlb).trans d5;have x0:=(kB.below hbVX).c0;obtain ⟨Z2,hZ2⟩:∃ Z,X1.alloc (.cells #[.string ⟨#[]⟩,.slice none 0 0,.int .i64 0,.int .i64 0,.int .i64 0,.int .i64 0] 42)=Z:=⟨_,rfl⟩
   have bzZ2:=B6.new X1 (.string ⟨#[]⟩) (.slice none 0 0) (.int .i64 0) (.int .i64 0) (.int .i64 0) (.int .i64 0) 42;have hbZ2:Below X1.heap.size X1 Z2:=by rw [←hZ2];exact (Below.refl _ _).alloc (Nat.le_refl _) _
   rw [hZ2] at bzZ2;rw [hR] at bzZ2 hbZ2;have Z2z0:=bzZ2.c0;have Z2z1:=bzZ2.c1;have Z2z2:=bzZ2.c2;have Z2z3:=bzZ2.c3;have Z2z4:=bzZ2.c4;have Z2z5:=bzZ2.c5;have Z2zf:=bzZ2.fr;have b6X2:=(((((bzZ2.s0 (.string ⟨nm.toArray⟩)).s1 (.slice nb ns.length ncb)).s2 (.int .i64 st)).s3 (.int .i64 wk)).s4 (.int .i64 un)).s5 (.int .i64 ke);have hbX2:Below R X1 ((((((Z2.setCell ⟨R,0,none⟩ (.string ⟨nm.toArray⟩)).setCell ⟨R,1,none⟩ (.slice nb ns.length ncb)).setCell ⟨R,2,none⟩ (.int .i64 st)).setCell ⟨R,3,none⟩ (.int .i64 wk)).setCell ⟨R,4,none⟩ (.int .i64 un)).setCell ⟨R,5,none⟩ (.int .i64 ke)):=(((((hbZ2.setCell (Nat.le_refl _) _).setCell (Nat.le_refl _) _).setCell (Nat.le_refl _) _).setCell (Nat.le_refl _) _).setCell (Nat.le_refl _) _).setCell (Nat.le_refl _) _;obtain ⟨X2,hX2⟩:∃ W,(((((Z2.setCell ⟨R,0,none⟩ (.string ⟨nm.toArray⟩)).setCell ⟨R,1,none⟩ (.slice nb ns.length ncb)).setCell ⟨R,2,none⟩ (.int .i64 st)).setCell ⟨R,3,none⟩ (.int .i64 wk)).setCell ⟨R,4,none⟩ (.int .i64 un)).setCell ⟨R,5,none⟩ (.int .i64 ke)=W:=⟨_,rfl⟩
   rw [hX2] at b6X2 hbX2;have hbX12:Below X1.heap.size X1 X2:=by rw [hR];exact hbX2
   have HB2:Hid (Below W2.heap.size W2 X2):=(HB.out.trans (hbVX.mono HB.out.size)).trans (hbX12.mono (Nat.le_trans HB.out.size hbVX.size));have HP:Hid (∀ Z,Below X2.heap.size X2 Z→B6 Z P (.string ⟨nm.toArray⟩) (.slice na ns.length nca) (.int .i64 st) (.int .i64 wk) (.int .i64 un) (.int .i64 ke)∧B6 Z R (.string ⟨nm.toArray⟩) (.slice nb ns.length ncb) (.int .i64 st) (.int .i64 wk) (.int .i64 un) (.int .i64 ke)):=fun Z hz=>⟨(b6X1.below hbX12).below hz,b6X2.below hz⟩
   have HLi:Hid (_):=likeIntR X2 na nb nca ncb ns (by omega) ((hna.below hbVX).below hbX12) ((hnb.below hbVX).below hbX12);obtain ⟨pP,pR⟩:=HP.out X2 (Below.refl _ _);have p0:=pP.c0;have p1:=pP.c1;have p2:=pP.c2;have p3:=pP.c3;have p4:=pP.c4;have p5:=pP.c5;have r0:=pR.c0;have r1:=pR.c1;have r2:=pR.c2;have r3:=pR.c3;have r4:=pR.c4;have r5:=pR.c5;clear hf hna hnb hA hB2 hw bzZ1 bzZ2 hbZ1 hbZ2 hbX1 hbX2 hbVX hbX12 b6X1 b6X2 kA kB pP pR d0 d1 d2 d3 d4 d5;go_wp2_with fail
   refine Calls.mono HLi.out ?_;rintro e w3 ⟨rfl,hg3⟩;have hb3:Below X2.heap.size X2 w3:=(Below.refl _ _).grown hg3 (Nat.le_refl _) (by simp);have HB3:Hid (Below W2.heap.size W2 w3):=HB2.out.trans (hb3.mono HB2.out.size);obtain ⟨pP,pR⟩:=HP.out w3 hb3;clear p0 p1 p2 p3 p4 p5 r0 r1 r2 r3 r4 r5;have p2:=pP.c2;have p3:=pP.c3;have p4:=pP.c4;have p5:=pP.c5;have r2:=pR.c2;have r3:=pR.c3;have r4:=pR.c4;have r5:=pR.c5;clear hb3 hg3 pP pR HB HLi;go_wp2;go_roundw
   case rel=>exact ⟨k+1,by omega,by go_num,HB3⟩
   case measure=>simp [intOf];omega
  ·go_wp2;go_ret;exact ⟨rfl,hD▸hw⟩
theorem tk_ok {X:World} {L:Nat} {va:Option Addr} {vc n:Nat} {xs:List TV} {ts:List Ta} (ho:za2 X L (.slice va n vc) xs) (hx:xs.map (·.1)=ts) (hn:ts.length=n):zaF X va n vc ts∧n≤vc:=by
 obtain ⟨a7,c7,e7,hok7⟩:=ho.ok;have hxl:xs.length=n:=by rw [←hn,←hx,List.length_map]
 rw [hx,hxl] at hok7;rw [hxl] at e7;injection e7 with e7 _ e8;subst e7;subst e8;have hr:=ho.row;rw [hxl] at hr;exact ⟨hok7,zjn hr⟩
structure RoD (Z:World) (P:Nat) (va:Option Addr) (vc n:Nat) (ts:List Ta) (ep nw:Int) (jr:List UInt8):Prop where
 b4:B4 Z P (.slice va n vc) (.int .i64 ep) (.int .i64 nw) (.string ⟨jr.toArray⟩)
 ok:zaF Z va n vc ts
 cap:n≤vc
section
variable {X Y:World} {P L n:Nat} {va:Option Addr} {vc:Nat} {ts:List Ta} {ep nw:Int} {jr:List UInt8} {xs:List TV}
theorem RoD.below (h:RoD X P va vc n ts ep nw jr) (hb:Below X.heap.size X Y):RoD Y P va vc n ts ep nw jr:=⟨h.b4.below hb,h.ok.below hb,h.cap⟩
theorem RoD.new (ho:za2 X L (.slice va n vc) xs) (hx:xs.map (·.1)=ts) (hn:ts.length=n) (hb:Below X.heap.size X Y) (h4:B4 Y P (.slice va n vc) (.int .i64 ep) (.int .i64 nw) (.string ⟨jr.toArray⟩)):RoD Y P va vc n ts ep nw jr :=
 ⟨h4,(tk_ok ho hx hn).1.below hb,(tk_ok ho hx hn).2⟩
end
theorem boxD (W:World) (a b c d:Value):∃ P Z X,W.heap.size=P∧W.alloc (.cells #[.slice none 0 0,.int .i64 0,.int .i64 0,.string ⟨#[]⟩] 26)=Z∧Z.cell? ⟨P,0,none⟩=some (.slice none 0 0)∧Z.cell? ⟨P,1,none⟩=some (.int .i64 0)∧Z.cell? ⟨P,2,none⟩=some (.int .i64 0)∧Z.cell? ⟨P,3,none⟩=some (.string ⟨#[]⟩)∧(∀ j,Z.frozen? ⟨P,j,none⟩=false)∧(((Z.setCell ⟨P,0,none⟩ a).setCell ⟨P,1,none⟩ b).setCell ⟨P,2,none⟩ c).setCell ⟨P,3,none⟩ d=X∧B4 X P a b c d∧Below W.heap.size W X:=by
 have bz:=B4.new W (.slice none 0 0) (.int .i64 0) (.int .i64 0) (.string ⟨#[]⟩) 26;have hb:Below W.heap.size W (W.alloc (.cells #[.slice none 0 0,.int .i64 0,.int .i64 0,.string ⟨#[]⟩] 26)):=(Below.refl _ _).alloc (Nat.le_refl _) _;exact ⟨_,_,_,rfl,rfl,bz.c0,bz.c1,bz.c2,bz.c3,bz.fr,rfl,(((bz.s0 a).s1 b).s2 c).s3 d,(((hb.setCell (Nat.le_refl _) _).setCell (Nat.le_refl _) _).setCell (Nat.le_refl _) _).setCell (Nat.le_refl _) _⟩
section
theorem zmL {d:Dk} {k e key:Int} (h:za1 d.1) (h9:d.1.length≤9):za1 (zag d k e key).1.1∧(zag d k e key).1.1.length≤9:=by
 unfold zag
 split
 ·
  unfold zbx
  split
  ·
   rename_i hc;have hk:¬((k<0∨(d.1.length:Int)≤k)∨zbi key=false):=fun hb=>by rw [zgs hb] at hc;cases hc
   refine ⟨fun j=>?_,by simp only [List.length_set];exact h9⟩
   show ((d.1.set k.toNat _).getD j ta0).1.length≤1048576∧((d.1.set k.toNat _).getD j ta0).2.1.length≤1048576
   rw [zbM _ _ _ _ (by omega)]
   split
   ·exact h k.toNat
   ·exact h j
  ·exact ⟨h,h9⟩
 ·exact ⟨fun j=>by simp [dk0,ta0],by simp [dk0]⟩
theorem zki {d:Dk} {n:Int} (h:za1 d.1) (h9:d.1.length≤9):za1 (zaO d n).1.1∧(zaO d n).1.1.length≤9:=by
 unfold zaO
 split
 ·
  split
  ·exact ⟨h,h9⟩
  ·exact ⟨h,h9⟩
 ·exact ⟨fun j=>by simp [dk0,ta0],by simp [dk0]⟩
theorem zkK {d:Dk} {worker:Int} (h:za1 d.1) (h9:d.1.length≤9):za1 (zbd d worker).1.1∧(zbd d worker).1.1.length≤9:=by
 unfold zbd
 split
 ·
  unfold zbm
  split
  ·
   split
   ·
    rename_i i _;refine ⟨fun j=>?_,by rw [List.length_set];exact h9⟩;by_cases hi:i<d.1.length
    ·
     rw [zbM _ _ _ _ hi]
     split
     ·exact h i
     ·exact h j
    ·rw [List.set_eq_of_length_le (by omega)];exact h j
   ·exact ⟨h,h9⟩
  ·exact ⟨h,h9⟩
 ·exact ⟨fun j=>by simp [dk0,ta0],by simp [dk0]⟩
theorem lentV_j {d:Dk} {worker:Int} (h:d.2.2.2.length≤60000):(zbd d worker).1.2.2.2.length≤60000:=by
 unfold zbd
 split
 ·
  unfold zbm
  split
  ·
   split
   ·exact h
   ·exact h
  ·exact h
 ·exact Nat.zero_le _
theorem znC {d:Dk} {n:Int} (h:(zaO d n).2=true):zac (zaO d n).1=true∧(zaO d n).1.2.2.1=d.2.2.1+n∧(0≤d.2.2.1∧d.2.2.1≤1000000)∧0≤n∧n≤1000000:=by
 unfold zaO at h ⊢
 split
 ·
  rename_i hd;rw [if_pos hd] at h;have hp:=(zao.1 hd).t
  split
  ·rename_i hn;have hn2:=hn;unfold inB at hn2;have hn2:=of_decide_eq_true hn2;obtain ⟨ts,ep,nw,jr⟩:=d;exact ⟨zhr hd hn,rfl,hp,hn2.1,by have h1:=hp.1;have h2:=hn2.2;simp only at h1 h2;omega⟩
  ·rename_i hn;rw [if_neg hn] at h;cases h
 ·rename_i hd;rw [if_neg hd] at h;cases h
structure Twice18 (d:Dk) (k e key:Int):Prop where
 ok:zac (zag d k e key).1=true
 k0:0≤k
 k1:k<((zag d k e key).1.1.length:Int)
 key':((zag d k e key).1.1.getD k.toNat ta0).2.2.2.2.2=key
 again:(zag (zag d k e key).1 k e key).2=2
theorem znW {d:Dk} {k e key:Int} (hj:d.2.2.2.length≤50000) (h0:-9223372036854775808≤k) (h1:k≤9223372036854775807) (h2:-9223372036854775808≤key) (h3:key≤9223372036854775807) (h:(zag d k e key).2=0):Twice18 d k e key:=by
 have hd:zac d=true:=by
  rcases hb:zac d with _ | _
  ·unfold zag at h;rw [hb] at h;cases h
  ·rfl
 have hl:=zjz h0 h1 h2 h3;have hr:zag d k e key=zbx d k e key:=if_pos hd;have hok:=zen (k:=k) (e:=e) (key:=key) hd;rw [←hr] at hok
 have hc:zaA d k e key=0:=by
  rw [hr] at h;rcases Decidable.em (zaA d k e key=0) with g | g
  ·exact g
  ·rw [zc2 rfl g] at h;exact absurd h g
 have hv:zag d k e key=((d.1.set k.toNat (zbo (d.1.getD k.toNat ta0) key),d.2.1,d.2.2.1,d.2.2.2++zbk k key),0):=hr.trans (zdZ hc);have hbad:¬((k<0∨(d.1.length:Int)≤k)∨zbi key=false):=fun hb=>by rw [zgs hb] at hc;cases hc
 have hroom:¬60000<d.2.2.2.length+(zbk k key).length:=by omega
 have he:e=d.2.1:=by
  rcases Decidable.em (e=d.2.1) with g | g
  ·exact g
  ·rw [zkv hbad hroom g] at hc;cases hc
 have hi:k.toNat<d.1.length:=by omega
 have hg:(d.1.set k.toNat (zbo (d.1.getD k.toNat ta0) key)).getD k.toNat ta0=zbo (d.1.getD k.toNat ta0) key:=by rw [zbM _ _ _ _ hi,if_pos rfl]
 rw [hv] at hok;simp only at hok;refine ⟨by rw [hv];exact hok,by omega,?_,?_,?_⟩
 ·rw [hv];simp only [List.length_set];omega
 ·
  rw [hv];simp only;rw [hg]
  rfl
 ·
  rw [hv];simp only;have h2':zag (d.1.set k.toNat (zbo (d.1.getD k.toNat ta0) key),d.2.1,d.2.2.1,d.2.2.2++zbk k key) k e key=zbx (d.1.set k.toNat (zbo (d.1.getD k.toNat ta0) key),d.2.1,d.2.2.1,d.2.2.2++zbk k key) k e key:=if_pos hok
  have h3':zaA (d.1.set k.toNat (zbo (d.1.getD k.toNat ta0) key),d.2.1,d.2.2.1,d.2.2.2++zbk k key) k e key=2:=by
   refine zje ?_ ?_ he ?_
   ·simp only [List.length_set];exact hbad
   ·simp only [List.length_append];omega
   ·
    simp only;rw [hg]
    rfl
  rw [h2',zc2 h3' (by decide)]
theorem ret_same {d:Dk} {k e key:Int} (hd:zac d=true) (h:(zag d k e key).2≠0):(zag d k e key).1=d:=by
 have hr:zag d k e key=zbx d k e key:=if_pos hd;rw [hr] at h ⊢;rcases Decidable.em (zaA d k e key=0) with g | g
 ·rw [zdZ g] at h;exact absurd rfl h
 ·rw [zc2 rfl g]
theorem lent_no {d:Dk} {worker:Int} (hd:zac d=false):zbd d worker=(dk0,-1):=if_neg (by rw [hd];decide)
theorem zow {d:Dk} {worker:Int} (hd:zac d=true) (h:(zbd d worker).2<0):(zbd d worker).1=d:=by
 unfold zbd at h ⊢;rw [if_pos hd] at h ⊢;unfold zbm at h ⊢
 split
 ·
  rename_i hw;rw [if_pos hw] at h;rcases hl:zdE d with _ | i
  ·rfl
  ·rw [hl] at h;simp only at h;omega
 ·rfl
structure LentP (d:Dk) (worker:Int) (k:Nat):Prop where
 ok:zac (zbd d worker).1=true
 lt:k<d.1.length
 len:(zbd d worker).1.1.length=d.1.length
 st:(d.1.getD k ta0).2.2.1≠2
 need:∀ q,q<(d.1.getD k ta0).2.1.length→0≤(d.1.getD k ta0).2.1.getD q 0∧(d.1.getD k ta0).2.1.getD q 0<(d.1.length:Int)∧(d.1.getD ((d.1.getD k ta0).2.1.getD q 0).toNat ta0).2.2.1=2
 st':((zbd d worker).1.1.getD k ta0).2.2.1=1
 wk:((zbd d worker).1.1.getD k ta0).2.2.2.1=worker
 jr:(zbd d worker).1.2.2.2=d.2.2.2
theorem lent_p {d:Dk} {worker:Int} {k:Nat} (hd:zac d=true) (h:(zbd d worker).2=(k:Int)):LentP d worker k:=by
 obtain ⟨i,hi,_,_,he,hil,hc,_⟩:=lent_of hd h (by omega);obtain rfl:k=i:=by omega
 have hok:=zox (worker:=worker) hd;have hg:(d.1.set k (zbT d worker (d.1.getD k ta0))).getD k ta0=zbT d worker (d.1.getD k ta0):=by rw [zbM _ _ _ _ hil,if_pos rfl]
 have hfr:∀ q,q<(d.1.getD k ta0).2.1.length→(d.1.getD ((d.1.getD k ta0).2.1.getD q 0).toNat ta0).2.2.1=2:=of_decide_eq_true hc.2.1
 have hnd:=ze3 (zao.1 hd) (p:=k) hil;refine ⟨hok,hil,by rw [he];simp,hc.1,fun q hq=>⟨(hnd q hq).1,(hnd q hq).2,hfr q hq⟩,?_,?_,by rw [he]⟩
 ·
  rw [he];simp only;rw [hg]
  rfl
 ·
  rw [he];simp only;rw [hg]
  rfl
structure LentP2 (d x:Dk) (worker:Int) (k:Nat):Prop where
 ok:zac x=true
 lt:k<d.1.length
 len:x.1.length=d.1.length
 st:(d.1.getD k ta0).2.2.1≠2
 need:∀ q,q<(d.1.getD k ta0).2.1.length→0≤(d.1.getD k ta0).2.1.getD q 0∧(d.1.getD k ta0).2.1.getD q 0<(d.1.length:Int)∧(d.1.getD ((d.1.getD k ta0).2.1.getD q 0).toNat ta0).2.2.1=2
 st':(x.1.getD k ta0).2.2.1=1
 wk:(x.1.getD k ta0).2.2.2.1=worker
 jr:x.2.2.2=d.2.2.2
structure zpq (d:Dk) (worker:Int) (R:Dk × Int):Prop where
 sh:za1 R.1.1∧R.1.1.length≤9
 no:zac d=false→R=(dk0,-1)
 same:zac d=true→R.2<0→R.1=d
 yes:zac d=true→∀ k:Nat,R.2=(k:Int)→LentP2 d R.1 worker k
theorem lent_q {d:Dk} {worker:Int} (h:za1 d.1) (h9:d.1.length≤9):zpq d worker (zbd d worker) :=
 ⟨zkK h h9,lent_no,zow,fun hd k hk=>by
  obtain ⟨h1,h2,h3,h4,h5,h6,h7,h8⟩:=lent_p hd hk;exact ⟨h1,h2,h3,h4,h5,h6,h7,h8⟩⟩
structure RetQ (d:Dk) (k e key:Int) (R:Dk × Int):Prop where
 sh:za1 R.1.1∧R.1.1.length≤9
 j:R.1.2.2.2.length≤d.2.2.2.length+116
 same:zac d=true→R.2≠0→R.1=d
 yes:R.2=0→zac R.1=true∧0≤k∧k<(R.1.1.length:Int)∧(R.1.1.getD k.toNat ta0).2.2.2.2.2=key∧(zag R.1 k e key).2=2
theorem ret_q {d:Dk} {k e key:Int} (h:za1 d.1) (h9:d.1.length≤9) (hj:d.2.2.2.length≤50000) (h0:-9223372036854775808≤k) (h1:k≤9223372036854775807) (h2:-9223372036854775808≤key) (h3:key≤9223372036854775807):RetQ d k e key (zag d k e key):=by
 refine ⟨zmL h h9,?_,ret_same,fun hr=>?_⟩
 ·
  unfold zag
  split
  ·exact zkw h0 h1 h2 h3
  ·exact Nat.zero_le _
 ·obtain ⟨g1,g2,g3,g4,g5⟩:=znW hj h0 h1 h2 h3 hr;exact ⟨g1,g2,g3,g4,g5⟩
structure TickQ (d:Dk) (n:Int) (R:Dk × Bool):Prop where
 sh:za1 R.1.1∧R.1.1.length≤9
 yes:R.2=true→zac R.1=true∧R.1.2.2.1=d.2.2.1+n∧(0≤d.2.2.1∧d.2.2.1≤1000000)∧0≤n∧n≤1000000
theorem tick_q {d:Dk} {n:Int} (h:za1 d.1) (h9:d.1.length≤9):TickQ d n (zaO d n):=⟨zki h h9,znC⟩
structure NewQ (R:Dk × Bool):Prop where
 sh:za1 R.1.1∧R.1.1.length≤9
 yes:R.2=true→zac R.1=true
theorem new_q (ps:List Pk):NewQ (newV ps):=⟨⟨zdw ps,zju ps⟩,fun h=>by
 have h1:=zde ps;rw [h] at h1;rw [zdM h];exact h1⟩
end
theorem zkQ (n:Int) (w:World):Calls Tryz.prog 210 #[.int .i64 n] w fun e w'=>e=.returned (.bool (inB n (-2147483648) 2147483647))∧w'=w:=by
 by_cases h1:-2147483648≤n
 ·
  by_cases h2:n≤2147483647
  ·
   have hB:Hid (inB n (-2147483648) 2147483647=true):=zdO _ _ _ h1 h2
   go_enter Tryz.func210,Tryz.ntmps210
   go_wp2;go_ret;exact ⟨by rw [hB.out];rfl,rfl⟩
  ·
   have hB:Hid (inB n (-2147483648) 2147483647=false):=zcx _ _ _ (Or.inr (by omega))
   go_enter Tryz.func210,Tryz.ntmps210
   go_wp2;go_ret;exact ⟨by rw [hB.out];rfl,rfl⟩
 ·
  have hB:Hid (inB n (-2147483648) 2147483647=false):=zcx _ _ _ (Or.inl (by omega))
  go_enter Tryz.func210,Tryz.ntmps210
  go_wp2;go_ret;exact ⟨by rw [hB.out];rfl,rfl⟩

theorem infoByte:(Tryz.prog.info? 5).map (fun i=>(i.zero,i.size,i.bytes))=some (some (.int .u8 0),1,1):=by kernel_rfl
theorem zov (s:ByteArray) (w:World) (hlim:s.size≤281474976710656) :
 Calls Tryz.prog 86 #[.string s] w fun e w'=>e=.returned (.string s)∧Below w.heap.size w w':=by
 by_cases h0:s.size=0
 ·
  have hs:s=⟨#[]⟩:=by apply ByteArray.ext;exact Array.eq_empty_of_size_eq_zero h0
  subst hs
  go_enter Tryz.func86,Tryz.ntmps86
  go_wp2;go_ret;exact ⟨rfl,Below.refl _ _⟩
 ·
  obtain ⟨i0,hi,hz0,hz1,hz2⟩:=info_parts infoByte;have hinfo:(Tryz.prog.info? 5).map (·.size)=some 1:=by rw [hi];simp [hz1]
  have hco:Tryz.prog.cellsOf 5=1:=by simp [Program.cellsOf,hi,hz1]
  obtain ⟨M,hM⟩:∃ M,M=madeCells (Value.int .u8 0).cells (((s.size:Nat):Int).toNat*i0.size):=⟨_,rfl⟩
  have hMs:M.size=s.size:=by rw [hM,size_madeCells,hz1];simp
  have hmk:∀ W:World,(Instr.makeSlice 22 (.int .i64 (s.size:Int)) (.int .i64 (s.size:Int))).run Tryz.prog W=.ok (.slice (some ⟨W.heap.size,0,none⟩) s.size s.size) (W.alloc (.cells M 5)):=fun W=>by
   have h:=run_make (P:=Tryz.prog) W 22 5 i0 (.int .u8 0) Tryz.underlying22 hi hz0 .i64 .i64 (s.size:Int) (s.size:Int) (by omega) (by omega) (by rw [hz2];omega) (by omega);rw [←hM] at h
   simpa using h
  clear hM;have hcp:=Lib.run_copy_row_string (P:=Tryz.prog) (w.alloc (.cells M 5)) 22 9 3 5 w.heap.size 0 s.size s.size s M 5 Tryz.underlying22 hinfo (heap_alloc_new w _) (Nat.le_refl _) (by omega);obtain ⟨Y,hY⟩:∃ Y,Y=(M.toList.take 0++Lib.byteCells s.data.toList++M.toList.drop (0+s.size)).toArray:=⟨_,rfl⟩
  rw [←hY] at hcp
  have hYl:Y.toList=Lib.byteCells s.data.toList:=by rw [hY,List.toList_toArray,List.take_zero,List.nil_append,List.drop_of_length_le (by rw [Array.length_toList];omega),List.append_nil]
  have hYs:Y.size=s.size:=by rw [←Array.length_toList,hYl,Lib.byteCells_length,←Lib.size_eq]
  have hgY:((w.alloc (.cells M 5)).setRow w.heap.size Y).heap[w.heap.size]?=some (.cells Y 5 (0,0)):=setRow_heap _ _ M _ 5 (0,0) (heap_alloc_new w _);have hne:s.data.toList≠[]:=fun e=>h0 (by rw [Lib.size_eq,e];rfl)
  have hUS:=Lib.run_unsafeString_row (P:=Tryz.prog) ((w.alloc (.cells M 5)).setRow w.heap.size Y) 127 3 9 5 Tryz.underlying127 hco w.heap.size Y.size (by unfold World.shape?;rw [hgY]) s.data.toList hne (by rw [←Lib.size_eq];omega) (by rw [←Lib.size_eq];omega)
   (fun j x hx=>Lib.cells_of_row hgY Y.size j _ (by rw [List.take_of_length_le (by rw [Array.length_toList];exact Nat.le_refl _),hYl];simp [Lib.byteCells,hx]))
  rw [←Lib.size_eq] at hUS;clear hY
  go_enter Tryz.func86,Tryz.ntmps86
  go_wp2;go_ret;have hb1:Below w.heap.size w (w.alloc (.cells M 5)):=(Below.refl _ w).alloc (Nat.le_refl _) _;have hb2:Below w.heap.size (w.alloc (.cells M 5)) ((w.alloc (.cells M 5)).setRow w.heap.size Y):=⟨rfl,rfl,rfl,by simp,fun k hk=>setRow_other _ _ _ _ (by omega)⟩;exact ⟨rfl,Lib.below_freeze (hb1.trans hb2) (p:=⟨w.heap.size,0,none⟩) (Nat.le_refl _) _⟩
theorem zbc (l:List UInt8) (w:World) (hl:l.length≤1048576) :
 Calls Tryz.prog 55 #[.string ⟨l.toArray⟩] w fun e w'=>e=.returned (.string ⟨l.toArray⟩)∧Below w.heap.size w w':=by
 go_enter Tryz.func55,Tryz.ntmps55
 go_wp2_with fail
 refine (zov ⟨l.toArray⟩ _ (by have:(⟨l.toArray⟩:ByteArray).size=l.length:=List.size_toArray;omega)).mono ?_;rintro e w1 ⟨rfl,hb⟩;go_wp2;go_ret;exact ⟨rfl,hb⟩
theorem zbV (l:List UInt8) (w:World) (hl:l.length≤1048576) :
 Calls Tryz.prog 73 #[.string ⟨l.toArray⟩] w fun e w'=>e=.returned (.bool (zaE l))∧w'=w:=by
 go_enter Tryz.func73,Tryz.ntmps73
 go_wp2
 go_loop [6] (fun ix=>∃ k:Nat,k≤l.length∧ix=.int .i64 k∧Hid (∀ j (hj:j<l.length),j<k→97≤l[j].toNat∧l[j].toNat≤122)) (fun ix=>l.length-(intOf ix).toNat)
 case atStart=>exact ⟨0,Nat.zero_le _,rfl,(fun j _ h=>by omega:∀ j (hj:j<l.length),j<0→_)⟩
 case round =>
  obtain ⟨k,hk,rfl,HK⟩:=hrel;by_cases hkl:(k:Int)<(l.length:Int)
  ·
   have hk2:k<l.length:=by omega
   obtain ⟨x,hx⟩:∃ x:UInt8,l[k]=x:=⟨_,rfl⟩
   have hxb:(⟨l.toArray⟩:ByteArray)[k]'(by show k<l.toArray.size;simpa using hk2)=x:=hx;by_cases h1:(x.toNat:Int)<97
   ·have HF:Hid (zaE l=false):=zgb l k hk2 (by rw [hx];omega);clear hx;go_wp2;go_ret;exact ⟨by rw [HF.out];rfl,rfl⟩
   ·
    by_cases h2:122<(x.toNat:Int)
    ·have HF:Hid (zaE l=false):=zgb l k hk2 (by rw [hx];omega);clear hx;go_wp2;go_ret;exact ⟨by rw [HF.out];rfl,rfl⟩
    ·
     have HS:Hid (∀ j (hj:j<l.length),j<k+1→97≤l[j].toNat∧l[j].toNat≤122):=fun j hj hjk=>by
      by_cases e:j=k
      ·subst e;rw [hx];omega
      ·exact HK.out j hj (by omega)
     clear hx;go_wp2
     go_round
     case rel=>exact ⟨k+1,by omega,by go_num,HS⟩
     case measure=>simp [intOf];omega
  ·
   have HF:Hid (zaE l=inB (l.length:Int) 1 8):=zjy l (fun j hj=>HK.out j hj (by omega));by_cases h1:1≤(l.length:Int)
   ·
    by_cases h2:(l.length:Int)≤8
    ·have HB:Hid (inB (l.length:Int) 1 8=true):=zdO _ _ _ h1 h2;go_wp2;go_ret;exact ⟨by rw [HF.out,HB.out];rfl,rfl⟩
    ·have HB:Hid (inB (l.length:Int) 1 8=false):=zcx _ _ _ (by omega);go_wp2;go_ret;exact ⟨by rw [HF.out,HB.out];rfl,rfl⟩
   ·have HB:Hid (inB (l.length:Int) 1 8=false):=zcx _ _ _ (by omega);go_wp2;go_ret;exact ⟨by rw [HF.out,HB.out];rfl,rfl⟩
end Go.Proofs.YtponeoijfaepnaaGreatDoor
