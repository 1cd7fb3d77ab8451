/-
  Parts of one proof, one behind the other: LendS, Math2T, Math18E, DkB, LendT.
-/
import Derived.Test.YtponeoijfaepnaaGreatDoorP14
namespace Go.Proofs.YtponeoijfaepnaaGreatDoor
open Go.RowKit
set_option maxHeartbeats 8000000
set_option maxRecDepth 100000
theorem zia (a:Option Addr) (len cap:Nat) (ts:List Ta) (ep nw:Int) (jr:List UInt8) (p:Nat) (w:World) (hin:zat w a len ts) (hsh:za1 ts) (hlen:len≤1048576) (hp:p<len)
 (hnd:∀ q,q<(ts.getD p ta0).2.1.length→0≤(ts.getD p ta0).2.1.getD q 0∧(ts.getD p ta0).2.1.getD q 0<len) :
 Calls Tryz.prog 71 #[.agg #[.slice a len cap,.int .i64 ep,.int .i64 nw,.string ⟨jr.toArray⟩],.int .i64 (p:Int)] w
  fun e w'=>e=.returned (.bool (zbn ts (ts.getD p ta0)))∧Below w.heap.size w w':=by
 obtain rfl:ts.length=len:=hin.1;obtain ⟨W,hW⟩:∃ W,w.alloc (.cells #[.slice a ts.length cap,.int .i64 ep,.int .i64 nw,.string ⟨jr.toArray⟩] 26)=W:=⟨_,rfl⟩
 have hbW:Below w.heap.size w W:=by rw [←hW];exact (Below.refl _ _).alloc (Nat.le_refl _) _
 have hA:W.heap[w.heap.size]?=some (.cells #[.slice a ts.length cap,.int .i64 ep,.int .i64 nw,.string ⟨jr.toArray⟩] 26):=by rw [←hW];exact heap_alloc_new w _
 obtain ⟨D,hD⟩:∃ D,w.heap.size=D:=⟨_,rfl⟩
 rw [hD] at hA;have k0:W.cell? ⟨D,0,none⟩=some (.slice a ts.length cap):=by simp [World.cell?,hA]
 have hI:=hin.below hbW;have HB:Hid (∀ Z,Below W.heap.size W Z→Below D w Z):=fun Z hz=>hD▸hbW.trans (hz.mono hbW.size)
 have hDl:D<W.heap.size:=World.block_lt_of_cell? W ⟨D,0,none⟩ k0;have HK:Hid (∀ Z,Below W.heap.size W Z→Z.cell? ⟨D,0,none⟩=some (.slice a ts.length cap)):=fun Z hz=>(hz.cell (p:=⟨D,0,none⟩) hDl).trans k0
 have HB0:Hid (Below W.heap.size W W):=Below.refl _ _;obtain ⟨b,off,rfl,hbl,_,⟨na,nc,c1,hn⟩,_⟩:=hI.2 p hp;have HC1:Hid (∀ Z,Below W.heap.size W Z→Z.cell? ⟨b,off+p*6+1,none⟩=some (.slice na (ts.getD p ta0).2.1.length nc)):=fun Z hz=>(hz.cell (p:=⟨b,off+p*6+1,none⟩) hbl).trans c1
 have HI:Hid (zat W (some ⟨b,off,none⟩) ts.length ts):=hI;have HN:Hid (∀ i,i<(ts.getD p ta0).2.1.length→(ts.getD ((ts.getD p ta0).2.1.getD i 0).toNat ta0).2.2.1≠2→zbn ts (ts.getD p ta0)=false):=fun i hi h=>zoS hi h
 have HY:Hid ((∀ i,i<(ts.getD p ta0).2.1.length→(ts.getD ((ts.getD p ta0).2.1.getD i 0).toNat ta0).2.2.1=2)→zbn ts (ts.getD p ta0)=true):=fun h=>znf h
 have hnl:=(hsh p).2;generalize zbn ts (ts.getD p ta0)=res at HN HY ⊢;generalize (ts.getD p ta0).2.1=ns at HN HY c1 HC1 hn hnd hnl;have HM:Hid (AsIn W na ns):=hn;have HD:Hid (∀ q,q<ns.length→0≤ns.getD q 0∧ns.getD q 0<ts.length):=hnd;clear hin hsh hbW hA hI hn hnd hDl
 go_enter Tryz.func71,Tryz.ntmps71
 go_wp2
 go_loopw [5] (fun iv wr=>∃ i:Nat,iv=.int .i64 (i:Int)∧i≤ns.length∧Hid (∀ q,q<i→(ts.getD (ns.getD q 0).toNat ta0).2.2.1=2)∧Hid (Below W.heap.size W wr)) (fun iv _=>ns.length-(intOf iv).toNat)
 case atStart=>exact ⟨0,rfl,by omega,(fun q hq=>by omega),HB0⟩
 case round =>
  obtain ⟨i,rfl,hi,HA,HBr⟩:=hrel;clear k0 c1 HB0;have k0:=HK.out wr HBr.out;have c1:=HC1.out wr HBr.out;by_cases hlt:(i:Int)<(ns.length:Int)
  ·
   obtain ⟨nb,no,rfl,_,d0⟩:=(HM.out.below HBr.out) i (by omega);obtain ⟨h0,h1⟩:=HD.out i (by omega);have HNi:Hid (_):=HN.out i (by omega);obtain ⟨y,hy⟩:∃ y,ns.getD i 0=y:=⟨_,rfl⟩
   rw [hy] at d0 h0 h1 HNi;obtain ⟨m,rfl⟩:∃ m:Nat,y=(m:Int):=⟨y.toNat,by omega⟩
   obtain ⟨b',off',e,_,_,_,c2,_⟩:=(HI.out.below HBr.out).2 m (by omega);injection e with e;injection e with e1 e2 _;subst e1 e2;obtain ⟨x,hx⟩:∃ x,(ts.getD m ta0).2.2.1=x:=⟨_,rfl⟩
   rw [hx] at c2;by_cases h2:x=2
   ·
    have HR:Hid (∀ q,q<i+1→(ts.getD (ns.getD q 0).toNat ta0).2.2.1=2):=fun q hq=>by
     rcases Nat.lt_or_ge q i with g | g
     ·exact HA.out q g
     ·
      obtain rfl:q=i:=by omega
      rw [hy,Int.toNat_natCast,hx];exact h2
    clear HA hx hy HNi;subst h2;have HBd:Hid (Below W.heap.size W wr.drew):=HBr.out.trans (by exact ⟨rfl,rfl,rfl,Nat.le_refl _,fun _ _=>rfl⟩);go_wp2;refine wp_region_held_drew (S:=(fun Z=>Z.cell? ⟨D,0,none⟩=some (.slice (some ⟨b,off,none⟩) ts.length cap)∧Z.cell? ⟨b,off+p*6+1,none⟩=some (.slice (some ⟨nb,no,none⟩) ns.length nc)∧Z.cell? ⟨nb,no+i,none⟩=some (.int .i64 (m:Int))∧Z.cell? ⟨b,off+m*6+2,none⟩=some (.int .i64 2))) (by kernel_rfl) ?_ (fun hHeld=>?_)
    ·exact ⟨k0,c1,d0,c2⟩
    refine tkO [(0,17),(1,18),(2,19),(3,20),(4,21),(5,22),(6,23),(7,24),(8,25),(9,26),(10,27),(11,28),(12,29),(13,30),(14,31)] ?_
    repeat (refine tkY ?_ rfl (by rfl) ?_ ?_;rotate_left;(focus (intro wq hSw;(try dsimp only at hSw);first | (go_simp;done) | (go_simp;with_reducible rfl)));simp only [zP])
    refine tkZ ?_;refine wpAnyH_done (by kernel_rfl) ?_ _;go_wp2;go_roundw
    case rel=>exact ⟨i+1,by go_num,by omega,HR,HBd⟩
    case measure=>simp [intOf];omega
   ·
    have HF:Hid (res=false):=HNi.out (by rw [Int.toNat_natCast,hx];exact h2);have hxb:(x !=2)=true:=by simp [h2]
    have HBd:Hid (Below W.heap.size W wr.drew):=HBr.out.trans (by exact ⟨rfl,rfl,rfl,Nat.le_refl _,fun _ _=>rfl⟩);clear HA hx hy HN HY HNi;go_wp2;refine wp_region_held_drew (S:=(fun Z=>Z.cell? ⟨D,0,none⟩=some (.slice (some ⟨b,off,none⟩) ts.length cap)∧Z.cell? ⟨b,off+p*6+1,none⟩=some (.slice (some ⟨nb,no,none⟩) ns.length nc)∧Z.cell? ⟨nb,no+i,none⟩=some (.int .i64 (m:Int))∧Z.cell? ⟨b,off+m*6+2,none⟩=some (.int .i64 x))) (by kernel_rfl) ?_ (fun hHeld=>?_)
    ·exact ⟨k0,c1,d0,c2⟩
    refine tkO [(0,17),(1,18),(2,19),(3,20),(4,21),(5,22),(6,23),(7,24),(8,25),(9,26),(10,27),(11,28),(12,29),(13,30),(14,31)] ?_
    repeat (refine tkY ?_ rfl (by rfl) ?_ ?_;rotate_left;(focus (intro wq hSw;(try dsimp only at hSw);first | (go_simp;done) | (go_simp;with_reducible rfl)));simp only [zP])
    refine tkZ ?_;refine wpAnyH_done (by kernel_rfl) ?_ _;go_wp2;go_ret;exact ⟨by rw [HF.out];rfl,hD▸HB.out _ HBd.out⟩
  ·have HF:Hid (res=true):=HY.out (fun q hq=>HA.out q (by omega));clear HA HN HY;go_wp2;go_ret;exact ⟨by rw [HF.out];rfl,hD▸HB.out _ HBr.out⟩
theorem znA (xs:List TV) (j:Nat) (hj:j<xs.length) (a b c:Int):(((tksV xs).set (j*6+2) (.int .i64 a)).set (j*6+3) (.int .i64 b)).set (j*6+4) (.int .i64 c)=tksV (xs.set j ((xs[j].1.1,xs[j].1.2.1,a,b,c,xs[j].1.2.2.2.2.2),xs[j].2)):=by
 induction xs generalizing j with
 | nil=>simp at hj
 | cons x r ih =>
  cases j with
  | zero=>simp [tksV,tvT]
  | succ j =>
   have:=ih j (by simpa using hj);rw [show (j+1)*6=j*6+1+1+1+1+1+1 by omega];simp only [tksV,Nat.add_right_comm _ 1 2,zC,List.getElem_cons_succ];rw [this]
theorem ze3 {d:Dk} (h:znt d) {p:Nat} (hp:p<d.1.length):∀ q,q<(d.1.getD p ta0).2.1.length→0≤(d.1.getD p ta0).2.1.getD q 0∧(d.1.getD p ta0).2.1.getD q 0<d.1.length:=fun q hq=>by
 obtain ⟨_,h2,_⟩:=h.one p hp;unfold zc1 zcL at h2;rw [Bool.and_eq_true] at h2;have h3:=of_decide_eq_true h2.1 q hq;unfold zbl at h3;omega
theorem zes {xs:List TV} {ts:List Ta} (h:xs.map (·.1)=ts) {i:Nat} (hi:i<xs.length):xs[i].1=ts.getD i ta0:=by
 rw [←h,zet];simp [List.getD,hi]
theorem zlD (B base:Nat) (va:Option Addr) (vc:Nat) (xs:List TV) (ts:List Ta) (ep nw:Int) (jr:List UInt8) (wk0:Int) (w:World) (hb4:B4 w B (.slice va ts.length vc) (.int .i64 ep) (.int .i64 nw) (.string ⟨jr.toArray⟩)) (ho:za2 w base (.slice va ts.length vc) xs) (hx:xs.map (·.1)=ts) (hap:zai (xs.map tvT)) (hne:∀ k,zan (.slice va ts.length vc) xs k→k≠B) (hbase:base≤w.heap.size)
 (hd:zac (ts,ep,nw,jr)=true) (hsh:za1 ts) :
 Calls Tryz.prog 36 #[.pointer (some ⟨B,0,none⟩),.int .i64 wk0] w fun e w'=>e=.returned (.int .i64 (zbm (ts,ep,nw,jr) wk0).2)∧∃ xs',xs'.map (·.1)=(zbm (ts,ep,nw,jr) wk0).1.1∧za2 w' base (.slice va ts.length vc) xs'∧zai (xs'.map tvT)∧B4 w' B (.slice va ts.length vc) (.int .i64 ep) (.int .i64 nw) (.string ⟨jr.toArray⟩)∧Below base w w'∧(∀ k,zan (.slice va ts.length vc) xs' k→zan (.slice va ts.length vc) xs k):=by
 have hP:=zao.1 hd;have hn8:=hP.n;have hnw:=hP.t;simp only at hn8 hnw;have hln:ts.length≤1048576:=by omega
 obtain ⟨g,cp,he⟩:=zaw ho.row (by rw [←hx,List.length_map] at hn8;omega);injection he with e1 e2 e3;subst e1 e3;have hxl:xs.length=ts.length:=e2.symm;have HI:Hid (_):=zca wk0 0 3 w;have HFr:Hid (∀ (Z:World) (p:Nat),zat Z (some ⟨g,0,none⟩) ts.length ts→p<ts.length→_):=fun Z p hz hp=>zia (some ⟨g,0,none⟩) ts.length vc ts ep nw jr p Z hz hsh hln hp (ze3 hP hp)
 have HV0:Hid (inB wk0 0 3=false→zbm (ts,ep,nw,jr) wk0=((ts,ep,nw,jr),-1)):=fun h=>by unfold zbm;rw [h];rfl
 have HVn:Hid (inB wk0 0 3=true→(∀ q,q<ts.length→¬zcq (ts,ep,nw,jr) q)→zbm (ts,ep,nw,jr) wk0=((ts,ep,nw,jr),-1)):=fun h hq=>by
  have e:zdE (ts,ep,nw,jr)=none:=zd5 (fun q _ h2=>hq q (by simpa using h2));unfold zbm;rw [if_pos h,e]
 have HVs:Hid (∀ i,inB wk0 0 3=true→i<ts.length→zcq (ts,ep,nw,jr) i→(∀ q,q<i→¬zcq (ts,ep,nw,jr) q)→zbm (ts,ep,nw,jr) wk0=((ts.set i (zbT (ts,ep,nw,jr) wk0 (ts.getD i ta0)),ep,nw,jr),(i:Int))):=fun i h hi hc hq=>by
  have e:zdE (ts,ep,nw,jr)=some i:=zgF (Nat.zero_le _) (by simpa using hi) hc (fun q _ h2=>hq q h2);unfold zbm;rw [if_pos h,e]
 generalize zbm (ts,ep,nw,jr) wk0=res at HV0 HVn HVs ⊢
 have HIn:Hid (∀ Z,Below w.heap.size w Z→zat Z (some ⟨g,0,none⟩) ts.length ts):=fun Z hz=>by
  obtain ⟨a7,c7,e7,hok7⟩:=(ho.below hz).ok;rw [hx,hxl] at hok7;rw [hxl] at e7;injection e7 with e7 _ _;subst e7;exact hok7.in
 have HO:Hid (∀ Z,Below w.heap.size w Z→za2 Z base (.slice (some ⟨g,0,none⟩) ts.length vc) xs):=fun Z hz=>ho.below hz
 have HBx:Hid (∀ Z,Below w.heap.size w Z→B4 Z B (.slice (some ⟨g,0,none⟩) ts.length vc) (.int .i64 ep) (.int .i64 nw) (.string ⟨jr.toArray⟩)):=fun Z hz=>hb4.below hz
 have HX:Hid (xs.map (·.1)=ts∧zai (xs.map tvT)∧xs.length=ts.length):=⟨hx,hap,hxl⟩;have HgB:Hid (g≠B∧base≤g∧base≤w.heap.size):=⟨hne g (Or.inl rfl),(ho.row.lt g rfl).1,hbase⟩;have HBf:Hid (Below w.heap.size w w):=Below.refl _ _;clear hb4 ho hx hap hne hbase hd hsh hP hxl e2;generalize inB wk0 0 3=bw at HI HV0 HVn HVs;rcases bw with _ | _
 ·
  have HR:Hid (_):=HV0.out rfl;clear HV0 HVn HVs HFr
  go_enter Tryz.func36,Tryz.ntmps36
  go_wp2_with (go_at_call 42;refine Calls.mono HI.out ?_;rintro e w1 ⟨rfl,rfl⟩)
  go_ret;rw [HR.out];exact ⟨rfl,xs,HX.out.1,HO.out _ HBf.out,HX.out.2.1,HBx.out _ HBf.out,Below.refl _ _,fun k h=>h⟩
 have HVn1:Hid (_):=HVn.out rfl;have HVs1:Hid (_):=fun i=>HVs.out i rfl
 have b0:=(HBx.out w HBf.out).c0;clear HV0 HVn HVs
 go_enter Tryz.func36,Tryz.ntmps36
 go_wp2_with (go_at_call 42;refine Calls.mono HI.out ?_;rintro e w1 ⟨rfl,hw1⟩;obtain rfl:=hw1.symm;clear hw1)
 clear HI
 go_loopw [5] (fun iv wr=>∃ i:Nat,iv=.int .i64 (i:Int)∧i≤ts.length∧Hid (∀ q,q<i→¬zcq (ts,ep,nw,jr) q)∧Hid (Below w.heap.size w wr)) (fun iv _=>ts.length-(intOf iv).toNat)
 case atStart=>exact ⟨0,rfl,Nat.zero_le _,(fun q hq=>absurd hq (Nat.not_lt_zero _)),HBf⟩
 case round =>
  obtain ⟨i,rfl,hi,HA,HBr⟩:=hrel;clear HBf b0;have bB:=HBx.out wr HBr.out;have b0:=bB.c0;have b1:=bB.c1;have b2:=bB.c2;have b3:=bB.c3;clear bB;by_cases hlt:(i:Int)<(ts.length:Int)
  rotate_left
  ·have HR:Hid (_):=HVn1.out (fun q hq=>HA.out q (by omega));clear HVn1 HVs1 HA HFr b1 b2 b3;go_wp2;go_ret;rw [HR.out];exact ⟨rfl,xs,HX.out.1,HO.out _ HBr.out,HX.out.2.1,HBx.out _ HBr.out,HBr.out.mono HgB.out.2.2,fun k h=>h⟩
  have hi2:i<ts.length:=by omega
  have hin:=HIn.out wr HBr.out;obtain ⟨b',off',e,hgl,_,_,c2,c3,c4,_⟩:=hin.2 i hi2;injection e with e;injection e with e1 e2 _;subst e1 e2;rw [Nat.zero_add] at c2 c3 c4;have HFd:Hid (Below w.heap.size w wr.drew):=HBr.out.trans (by exact ⟨rfl,rfl,rfl,Nat.le_refl _,fun _ _=>rfl⟩);have HF1:Hid (_):=HFr.out wr.drew i (HIn.out _ HFd.out) hi2;have HCan:Hid (zcq (ts,ep,nw,jr) i↔(ts.getD i ta0).2.2.1≠2∧zbn ts (ts.getD i ta0)=true∧¬((ts.getD i ta0).2.2.1=1∧nw<(ts.getD i ta0).2.2.2.2.1)):=Iff.rfl
  have HCe:Hid (∀ Z,Below w.heap.size w Z→Z.cell? ⟨g,i*6+2,none⟩=some (.int .i64 (ts.getD i ta0).2.2.1)∧Z.cell? ⟨g,i*6+4,none⟩=some (.int .i64 (ts.getD i ta0).2.2.2.2.1)):=fun Z hz=>by
   obtain ⟨b',off',e,_,_,_,c2,_,c4,_⟩:=(HIn.out Z hz).2 i hi2;injection e with e;injection e with e1 e2 _;subst e1 e2;rw [Nat.zero_add] at c2 c4;exact ⟨c2,c4⟩
  have HNext:Hid (¬zcq (ts,ep,nw,jr) i→∀ q,q<i+1→¬zcq (ts,ep,nw,jr) q):=fun h q hq=>by
   rcases Nat.lt_or_ge q i with k | k
   ·exact HA.out q k
   ·
    obtain rfl:q=i:=by omega
    exact h
  have HSome:Hid (_):=fun h=>HVs1.out i hi2 h HA.out
  have HW:Hid (∀ Z,Below w.heap.size w Z→∃ u2 u3 u4,Z.cell? ⟨g,i*6+2,none⟩=some u2∧Z.cell? ⟨g,i*6+3,none⟩=some u3∧Z.cell? ⟨g,i*6+4,none⟩=some u4∧(∀ j,Z.frozen? ⟨g,j,none⟩=false)∧∀ a b c:Int,za2 (((Z.setCell ⟨g,i*6+2,none⟩ (.int .i64 a)).setCell ⟨g,i*6+3,none⟩ (.int .i64 b)).setCell ⟨g,i*6+4,none⟩ (.int .i64 c)) base (.slice (some ⟨g,0,none⟩) ts.length vc) (xs.set i ((xs[i]!.1.1,xs[i]!.1.2.1,a,b,c,xs[i]!.1.2.2.2.2.2),xs[i]!.2))∧Z.grownBy (((Z.setCell ⟨g,i*6+2,none⟩ (.int .i64 a)).setCell ⟨g,i*6+3,none⟩ (.int .i64 b)).setCell ⟨g,i*6+4,none⟩ (.int .i64 c)) (some g)):=fun Z hz=>by
   have hoZ:=HO.out Z hz;have hxl:=HX.out.2.2;have hix:i<xs.length:=by omega
   have hrow:=hoZ.row;rw [hxl] at hrow;obtain ⟨_,_,v2,v3,v4,_⟩:=zdp xs i hix;refine ⟨_,_,_,(hrow.cellAt (i*6+2) (by omega)).trans v2,(hrow.cellAt (i*6+3) (by omega)).trans v3,(hrow.cellAt (i*6+4) (by omega)).trans v4,fun j=>hrow.frozenAt j,fun a b c=>?_⟩;have hs2:=hrow.stored (i*6+2) (.int .i64 a);have hs3:=hs2.1.stored (i*6+3) (.int .i64 b);have hs4:=hs3.1.stored (i*6+4) (.int .i64 c);have hg:=(hs2.2.trans hs3.2).trans hs4.2;have hr:=hs4.1;have hb:xs[i]! = xs[i]:=by simp [hix]
   rw [znA xs i hix a b c] at hr;rw [hb];refine ⟨hoZ.put hix _ hg (by rw [hxl];exact hr) rfl rfl,hg⟩
  obtain ⟨x,hx⟩:∃ x,ts.getD i ta0=x:=⟨_,rfl⟩
  have HX1:Hid (ts.getD i ta0=x):=hx;rw [hx] at c2 c3 c4 HF1 HCan HCe HSome;obtain ⟨nm,ns,st,wk,un,ke⟩:=x;simp only at c2 c3 c4 HCan HCe;generalize zbn ts (nm,ns,st,wk,un,ke)=fr at HF1 HCan;have hwi:IntKind.i64.wrap (i:Int)=(i:Int):=by rw [IntKind.wrap_i64];omega
  clear hin hx hgl HA HVs1 HVn1 HFr;by_cases h2:st=2
  ·
   have HN:Hid (_):=HNext.out (fun h=>(HCan.out.1 h).1 h2);subst h2;clear HNext HSome HCan HF1 HW;go_wp2;refine wp_region_held_drew (S:=(fun Z=>Z.cell? ⟨B,0,none⟩=some (.slice (some ⟨g,0,none⟩) ts.length vc)∧Z.cell? ⟨B,1,none⟩=some (.int .i64 ep)∧Z.cell? ⟨B,2,none⟩=some (.int .i64 nw)∧Z.cell? ⟨B,3,none⟩=some (.string ⟨jr.toArray⟩)∧Z.cell? ⟨g,i*6+2,none⟩=some (.int .i64 2)∧Z.cell? ⟨g,i*6+4,none⟩=some (.int .i64 un))) (by kernel_rfl) ?_ (fun hHeld=>?_)
   ·exact ⟨b0,b1,b2,b3,c2,c4⟩
   refine tkO [(0,25),(1,26),(2,27),(3,28),(4,29),(5,30),(6,31),(7,32),(8,33),(9,34),(10,35),(11,36),(12,37),(13,38),(14,39),(15,40),(16,41),(17,42),(18,43),(19,44),(20,45),(21,46),(22,47),(23,48),(24,49),(25,50),(26,51),(27,52),(28,53),(29,54),(30,55)] ?_
   repeat ((first | (refine tkY ?_ rfl (by rfl) ?_ ?_;rotate_left;(focus (intro wq hSw;(try dsimp only at hSw);first | (go_simp;done) | (go_simp;with_reducible rfl)))) | refine tkN rfl (by rfl) ?_);simp only [zP])
   refine tkZ ?_;refine wpAnyH_done (by kernel_rfl) ?_ _;go_wp2;go_roundw
   case rel=>exact ⟨i+1,by go_num,by omega,HN,HFd⟩
   case measure=>simp [intOf];omega
  have h2b:(st==2)=false:=beq_eq_false_iff_ne.2 h2;rcases fr with _ | _
  ·
   have HN:Hid (_):=HNext.out (fun h=>by cases (HCan.out.1 h).2.1);clear HNext HSome HCan HW;go_wp2;refine wp_region_held_drew (S:=(fun Z=>Z.cell? ⟨B,0,none⟩=some (.slice (some ⟨g,0,none⟩) ts.length vc)∧Z.cell? ⟨B,1,none⟩=some (.int .i64 ep)∧Z.cell? ⟨B,2,none⟩=some (.int .i64 nw)∧Z.cell? ⟨B,3,none⟩=some (.string ⟨jr.toArray⟩)∧Z.cell? ⟨g,i*6+2,none⟩=some (.int .i64 st)∧Z.cell? ⟨g,i*6+4,none⟩=some (.int .i64 un))) (by kernel_rfl) ?_ (fun hHeld=>?_)
   ·exact ⟨b0,b1,b2,b3,c2,c4⟩
   refine tkO [(0,25),(1,26),(2,27),(3,28),(4,29),(5,30),(6,31),(7,32),(8,33),(9,34)] ?_
   repeat (refine tkY ?_ rfl (by rfl) ?_ ?_;rotate_left;(focus (intro wq hSw;(try dsimp only at hSw);first | (go_simp;done) | (go_simp;with_reducible rfl)));simp only [zP])
   refine tkZ ?_;refine zR 10 rfl (fun K hK=>?_);go_simp
   (go_at_call 71;refine Calls.mono HF1.out ?_;rintro e wn ⟨rfl,hbn⟩;have HBn:Hid (Below w.heap.size w wn):=HFd.out.trans (hbn.mono HFd.out.size);clear b0 b1 b2 b3 c2 c4 hbn;obtain ⟨b0,b1,b2,b3⟩:_∧_∧_∧_:=⟨(HBx.out wn HBn.out).c0,(HBx.out wn HBn.out).c1,(HBx.out wn HBn.out).c2,(HBx.out wn HBn.out).c3⟩;obtain ⟨c2,c4⟩:=HCe.out wn HBn.out)
   refine hK.out _ _ ?_ (fun hHeld=>?_)
   ·exact ⟨b0,b1,b2,b3,c2,c4⟩
   clear hK K;refine tkO [(11,36),(12,37),(13,38),(14,39),(15,40),(16,41),(17,42),(18,43),(19,44),(20,45),(21,46),(22,47),(23,48),(24,49),(25,50),(26,51),(27,52),(28,53),(29,54),(30,55)] ?_
   repeat ((first | (refine tkY ?_ rfl (by rfl) ?_ ?_;rotate_left;(focus (intro wq hSw;(try dsimp only at hSw);first | (go_simp;done) | (go_simp;with_reducible rfl)))) | refine tkN rfl (by rfl) ?_);simp only [zP])
   refine tkZ ?_;refine wpAnyH_done (by kernel_rfl) ?_ _;go_wp2;go_roundw
   case rel=>exact ⟨i+1,by go_num,by omega,HN,HBn⟩
   case measure=>simp [intOf];omega
  by_cases h1:st=1
  ·
   subst h1;by_cases hu:nw<un
   ·
    have HN:Hid (_):=HNext.out (fun h=>(HCan.out.1 h).2.2 ⟨rfl,hu⟩);clear HNext HSome HCan HW;go_wp2;refine wp_region_held_drew (S:=(fun Z=>Z.cell? ⟨B,0,none⟩=some (.slice (some ⟨g,0,none⟩) ts.length vc)∧Z.cell? ⟨B,1,none⟩=some (.int .i64 ep)∧Z.cell? ⟨B,2,none⟩=some (.int .i64 nw)∧Z.cell? ⟨B,3,none⟩=some (.string ⟨jr.toArray⟩)∧Z.cell? ⟨g,i*6+2,none⟩=some (.int .i64 1)∧Z.cell? ⟨g,i*6+4,none⟩=some (.int .i64 un))) (by kernel_rfl) ?_ (fun hHeld=>?_)
    ·exact ⟨b0,b1,b2,b3,c2,c4⟩
    refine tkO [(0,25),(1,26),(2,27),(3,28),(4,29),(5,30),(6,31),(7,32),(8,33),(9,34)] ?_
    repeat (refine tkY ?_ rfl (by rfl) ?_ ?_;rotate_left;(focus (intro wq hSw;(try dsimp only at hSw);first | (go_simp;done) | (go_simp;with_reducible rfl)));simp only [zP])
    refine tkZ ?_;refine zR 10 rfl (fun K hK=>?_);go_simp
    (go_at_call 71;refine Calls.mono HF1.out ?_;rintro e wn ⟨rfl,hbn⟩;have HBn:Hid (Below w.heap.size w wn):=HFd.out.trans (hbn.mono HFd.out.size);clear b0 b1 b2 b3 c2 c4 hbn;obtain ⟨b0,b1,b2,b3⟩:_∧_∧_∧_:=⟨(HBx.out wn HBn.out).c0,(HBx.out wn HBn.out).c1,(HBx.out wn HBn.out).c2,(HBx.out wn HBn.out).c3⟩;obtain ⟨c2,c4⟩:=HCe.out wn HBn.out)
    refine hK.out _ _ ?_ (fun hHeld=>?_)
    ·exact ⟨b0,b1,b2,b3,c2,c4⟩
    clear hK K;refine tkO [(11,36),(12,37),(13,38),(14,39),(15,40),(16,41),(17,42),(18,43),(19,44),(20,45),(21,46),(22,47),(23,48),(24,49),(25,50),(26,51),(27,52),(28,53),(29,54),(30,55)] ?_
    repeat (refine tkY ?_ rfl (by rfl) ?_ ?_;rotate_left;(focus (intro wq hSw;(try dsimp only at hSw);first | (go_simp;done) | (go_simp;with_reducible rfl)));simp only [zP])
    refine tkZ ?_;refine wpAnyH_done (by kernel_rfl) ?_ _;go_wp2;go_roundw
    case rel=>exact ⟨i+1,by go_num,by omega,HN,HBn⟩
    case measure=>simp [intOf];omega
   ·
    have HR:Hid (_):=HSome.out (HCan.out.2 ⟨h2,rfl,fun h=>hu h.2⟩);clear HNext HSome HCan;go_wp2;refine wp_region_held_drew (S:=(fun Z=>Z.cell? ⟨B,0,none⟩=some (.slice (some ⟨g,0,none⟩) ts.length vc)∧Z.cell? ⟨B,1,none⟩=some (.int .i64 ep)∧Z.cell? ⟨B,2,none⟩=some (.int .i64 nw)∧Z.cell? ⟨B,3,none⟩=some (.string ⟨jr.toArray⟩)∧Z.cell? ⟨g,i*6+2,none⟩=some (.int .i64 1)∧Z.cell? ⟨g,i*6+4,none⟩=some (.int .i64 un))) (by kernel_rfl) ?_ (fun hHeld=>?_)
    ·exact ⟨b0,b1,b2,b3,c2,c4⟩
    refine tkO [(0,25),(1,26),(2,27),(3,28),(4,29),(5,30),(6,31),(7,32),(8,33),(9,34)] ?_
    repeat (refine tkY ?_ rfl (by rfl) ?_ ?_;rotate_left;(focus (intro wq hSw;(try dsimp only at hSw);first | (go_simp;done) | (go_simp;with_reducible rfl)));simp only [zP])
    refine tkZ ?_;refine zR 10 rfl (fun K hK=>?_);go_simp
    (go_at_call 71;refine Calls.mono HF1.out ?_;rintro e wn ⟨rfl,hbn⟩;have HBn:Hid (Below w.heap.size w wn):=HFd.out.trans (hbn.mono HFd.out.size);clear b0 b1 b2 b3 c2 c4 hbn;obtain ⟨b0,b1,b2,b3⟩:_∧_∧_∧_:=⟨(HBx.out wn HBn.out).c0,(HBx.out wn HBn.out).c1,(HBx.out wn HBn.out).c2,(HBx.out wn HBn.out).c3⟩;obtain ⟨c2,c4⟩:=HCe.out wn HBn.out)
    refine hK.out _ _ ?_ (fun hHeld=>?_)
    ·exact ⟨b0,b1,b2,b3,c2,c4⟩
    clear hK K;refine tkO [(11,36),(12,37),(13,38),(14,39),(15,40),(16,41),(17,42),(18,43),(19,44),(20,45),(21,46),(22,47),(23,48),(24,49),(25,50),(26,51),(27,52),(28,53),(29,54),(30,55)] ?_
    repeat (refine tkY ?_ rfl (by rfl) ?_ ?_;rotate_left;(focus (intro wq hSw;(try dsimp only at hSw);first | (go_simp;done) | (go_simp;with_reducible rfl)));simp only [zP])
    refine tkZ ?_;refine wpAnyH_done (by kernel_rfl) ?_ _;have HMin:Hid (∀ Z,_):=fun Z=>zj7 1000000 (nw+10) Z
    have HUn:Hid ((if 1000000<nw+10 then 1000000 else nw+10)=(if nw+10≤1000000 then nw+10 else 1000000:Int)):=by exact (by split<;>split<;>omega:(if 1000000<nw+10 then 1000000 else nw+10)=(if nw+10≤1000000 then nw+10 else 1000000:Int))
    obtain ⟨u2,u3,u4,d2,d3,d4,df,hW⟩:=HW.out wn HBn.out;have HWn:Hid (_):=hW;have df2:=df (i*6+2);have df3:=df (i*6+3);have df4:=df (i*6+4);have hgB:¬g=B:=HgB.out.1;have hBg:¬B=g:=fun e=>hgB e.symm
    generalize (if 1000000<nw+10 then 1000000 else nw+10:Int)=un2 at HMin HUn;clear c2 c4 df hW HW
    go_wp2_with (go_at_call 72;refine Calls.mono (HMin.out _) ?_;rintro e wm ⟨rfl,rfl⟩)
    go_ret;obtain ⟨hT,hG⟩:=HWn.out 1 wk0 un2;rw [HR.out];have hix:i<xs.length:=by have:=HX.out.2.2;omega
    have hb:xs[i]! = xs[i]:=by simp [hix]
    have hxi:=zes HX.out.1 hix;rw [HX1.out] at hxi;refine ⟨rfl,_,?_,hT,zdn hix _ (by rw [hb]) (by rw [hb]) HX.out.2.1,(HBx.out wn HBn.out).grown hG (by intro e;injection e with e;exact hgB e),(HBn.out.mono HgB.out.2.2).grown hG (Nat.le_trans HgB.out.2.2 HBn.out.size) ?_,?_⟩
    ·
     rw [List.map_set,HX.out.1]
     show ts.set i _=ts.set i _
     congr 1
     rw [hb,hxi];unfold zbT;rw [HUn.out]
    ·intro k e;injection e with e;have:=HgB.out.2.1;omega
    ·
     rintro k (e | ⟨y,hy,e⟩)
     ·exact Or.inl e
     ·
      rcases List.mem_or_eq_of_mem_set hy with h | h
      ·exact Or.inr ⟨y,h,e⟩
      ·subst h;rw [hb] at e;exact Or.inr ⟨xs[i],List.getElem_mem hix,e⟩
  ·
   have h1b:(st==1)=false:=beq_eq_false_iff_ne.2 h1;have HR:Hid (_):=HSome.out (HCan.out.2 ⟨h2,rfl,fun h=>h1 h.1⟩);clear HNext HSome HCan;go_wp2;refine wp_region_held_drew (S:=(fun Z=>Z.cell? ⟨B,0,none⟩=some (.slice (some ⟨g,0,none⟩) ts.length vc)∧Z.cell? ⟨B,1,none⟩=some (.int .i64 ep)∧Z.cell? ⟨B,2,none⟩=some (.int .i64 nw)∧Z.cell? ⟨B,3,none⟩=some (.string ⟨jr.toArray⟩)∧Z.cell? ⟨g,i*6+2,none⟩=some (.int .i64 st)∧Z.cell? ⟨g,i*6+4,none⟩=some (.int .i64 un))) (by kernel_rfl) ?_ (fun hHeld=>?_)
   ·exact ⟨b0,b1,b2,b3,c2,c4⟩
   refine tkO [(0,25),(1,26),(2,27),(3,28),(4,29),(5,30),(6,31),(7,32),(8,33),(9,34)] ?_
   repeat (refine tkY ?_ rfl (by rfl) ?_ ?_;rotate_left;(focus (intro wq hSw;(try dsimp only at hSw);first | (go_simp;done) | (go_simp;with_reducible rfl)));simp only [zP])
   refine tkZ ?_;refine zR 10 rfl (fun K hK=>?_);go_simp
   (go_at_call 71;refine Calls.mono HF1.out ?_;rintro e wn ⟨rfl,hbn⟩;have HBn:Hid (Below w.heap.size w wn):=HFd.out.trans (hbn.mono HFd.out.size);clear b0 b1 b2 b3 c2 c4 hbn;obtain ⟨b0,b1,b2,b3⟩:_∧_∧_∧_:=⟨(HBx.out wn HBn.out).c0,(HBx.out wn HBn.out).c1,(HBx.out wn HBn.out).c2,(HBx.out wn HBn.out).c3⟩;obtain ⟨c2,c4⟩:=HCe.out wn HBn.out)
   refine hK.out _ _ ?_ (fun hHeld=>?_)
   ·exact ⟨b0,b1,b2,b3,c2,c4⟩
   clear hK K;refine tkO [(11,36),(12,37),(13,38),(14,39),(15,40),(16,41),(17,42),(18,43),(19,44),(20,45),(21,46),(22,47),(23,48),(24,49),(25,50),(26,51),(27,52),(28,53),(29,54),(30,55)] ?_
   repeat ((first | (refine tkY ?_ rfl (by rfl) ?_ ?_;rotate_left;(focus (intro wq hSw;(try dsimp only at hSw);first | (go_simp;done) | (go_simp;with_reducible rfl)))) | refine tkN rfl (by rfl) ?_);simp only [zP])
   refine tkZ ?_;refine wpAnyH_done (by kernel_rfl) ?_ _;have HMin:Hid (∀ Z,_):=fun Z=>zj7 1000000 (nw+10) Z
   have HUn:Hid ((if 1000000<nw+10 then 1000000 else nw+10)=(if nw+10≤1000000 then nw+10 else 1000000:Int)):=by exact (by split<;>split<;>omega:(if 1000000<nw+10 then 1000000 else nw+10)=(if nw+10≤1000000 then nw+10 else 1000000:Int))
   obtain ⟨u2,u3,u4,d2,d3,d4,df,hW⟩:=HW.out wn HBn.out;have HWn:Hid (_):=hW;have df2:=df (i*6+2);have df3:=df (i*6+3);have df4:=df (i*6+4);have hgB:¬g=B:=HgB.out.1;have hBg:¬B=g:=fun e=>hgB e.symm
   generalize (if 1000000<nw+10 then 1000000 else nw+10:Int)=un2 at HMin HUn;clear c2 c4 df hW HW
   go_wp2_with (go_at_call 72;refine Calls.mono (HMin.out _) ?_;rintro e wm ⟨rfl,rfl⟩)
   go_ret;obtain ⟨hT,hG⟩:=HWn.out 1 wk0 un2;rw [HR.out];have hix:i<xs.length:=by have:=HX.out.2.2;omega
   have hb:xs[i]! = xs[i]:=by simp [hix]
   have hxi:=zes HX.out.1 hix;rw [HX1.out] at hxi;refine ⟨rfl,_,?_,hT,zdn hix _ (by rw [hb]) (by rw [hb]) HX.out.2.1,(HBx.out wn HBn.out).grown hG (by intro e;injection e with e;exact hgB e),(HBn.out.mono HgB.out.2.2).grown hG (Nat.le_trans HgB.out.2.2 HBn.out.size) ?_,?_⟩
   ·
    rw [List.map_set,HX.out.1]
    show ts.set i _=ts.set i _
    congr 1
    rw [hb,hxi];unfold zbT;rw [HUn.out]
   ·intro k e;injection e with e;have:=HgB.out.2.1;omega
   ·
    rintro k (e | ⟨y,hy,e⟩)
    ·exact Or.inl e
    ·
     rcases List.mem_or_eq_of_mem_set hy with h | h
     ·exact Or.inr ⟨y,h,e⟩
     ·subst h;rw [hb] at e;exact Or.inr ⟨xs[i],List.getElem_mem hix,e⟩
section
def catF:List (List UInt8)→List UInt8
 | []=>[]
 | t :: r=>zbH t++catF r
theorem zmg (ts:List (List UInt8)):(catF ts).length=za3 ts:=by
 induction ts with
 | nil=>rfl
 | cons t r ih=>simp only [catF,za3,List.length_append,zcQ,ih]
def shortF (ts:List (List UInt8)):Prop:=∀ t∈ts,t.length≤20000
theorem zgO (k:Nat) (l:List UInt8):shortF (zal k l)∧l=catF (zal k l)++l.drop (za3 (zal k l)):=by
 induction k generalizing l with
 | zero=>exact ⟨(fun t h=>by cases h),by simp [zal,catF,za3]⟩
 | succ k ih =>
  rcases hb:zb1 l with _ | _
  ·rw [zdz _ _ hb];exact ⟨(fun t h=>by cases h),by simp [catF,za3]⟩
  ·
   rw [zd0 k l hb];have hf:=zf9 l hb;have hi:=ih (l.drop (16+(zax l).length));refine ⟨?_,?_⟩
   ·
    intro t ht;rcases List.mem_cons.1 ht with e | ht
    ·rw [e];exact hf.1
    ·exact hi.1 t ht
   ·
    conv=>lhs;rw [hf.2.2]
    simp only [catF,za3,List.append_assoc];congr 1
    conv=>lhs;rw [hi.2]
    rw [List.drop_drop]
theorem zoT (l:List UInt8):shortF (zaa l)∧l.take (za3 (zaa l))=catF (zaa l)∧za3 (zaa l)≤l.length:=by
 have h:=zgO 400 l;have e:=congrArg List.length h.2;rw [List.length_append,zmg] at e;refine ⟨h.1,?_,by unfold zaa;omega⟩
 conv=>lhs;arg 2;rw [h.2]
 exact List.take_left' (zmg _)
theorem zhm (a b:List (List UInt8)):za3 (a++b)=za3 a+za3 b:=by
 induction a with
 | nil=>simp [za3]
 | cons t r ih=>simp only [List.cons_append,za3,ih];omega
theorem zjQ (fs:List (List UInt8)) (k:Nat):za3 (fs.take k)≤za3 fs:=by
 have h:=zhm (fs.take k) (fs.drop k);rw [List.take_append_drop] at h;omega
end
section
theorem zmY (ps:List Pk):∀ j,((newV ps).1.1.getD j ta0).2.2.2.1=0∧((newV ps).1.1.getD j ta0).2.2.2.2.1=0:=by
 intro j;rw [zek];by_cases hj:j<(prtV ps).length
 ·
  have e:((List.range (prtV ps).length).map (zcH ps)).getD j ta0=zcH ps j:=by simp [List.getD,hj]
  rw [e];exact ⟨rfl,rfl⟩
 ·rw [List.getD_eq_getElem?_getD,List.getElem?_eq_none (by simp;omega)];exact ⟨rfl,rfl⟩
theorem zhE (ps:List Pk):(newV ps).1.1.length≤8:=by
 rcases hb:(newV ps).2 with _ | _
 ·rw [ze2 hb];simp [dk0]
 ·have h:=zde ps;rw [hb] at h;exact (zao.1 h).n.2
theorem zkG (ps:List Pk):∀ p,p<(newV ps).1.1.length→∀ q,q<((newV ps).1.1.getD p ta0).2.1.length→0≤((newV ps).1.1.getD p ta0).2.1.getD q 0∧((newV ps).1.1.getD p ta0).2.1.getD q 0<(newV ps).1.1.length:=by
 rcases hb:(newV ps).2 with _ | _
 ·intro p hp;rw [ze2 hb] at hp;simp [dk0] at hp
 ·have h:=zde ps;rw [hb] at h;intro p hp;exact ze3 (zao.1 h) (p:=p) hp
theorem zj1 {ts ts':List Ta} {last last':Int} {f:List UInt8} (h:zbz ts last f=some (ts',last')) :
 (f=zbC (last+1)∧ts'=ts∧last'=last+1)∨(∃ k key,zeO ts f k key∧ts'=ts.set k.toNat (zbo (ts.getD k.toNat ta0) key)∧last'=last):=by
 unfold zbz at h
 split at h
 ·
  rename_i hf;injection h with h;injection h with h1 h2
  exact Or.inl ⟨hf,h1.symm,h2.symm⟩
 ·
  split at h
  ·
   rename_i hd;injection h with h;injection h with h1 h2
   exact Or.inr ⟨_,_,hd,h1.symm,h2.symm⟩
  ·cases h
theorem zb9.yes {fs:List (List UInt8)} {ts0 ts ts':List Ta} {last last':Int} {i:Nat} (h:zb9 fs ts0 ts last i) (hi:i<fs.length) (h4:fs.length≤400) (h8:ts0.length≤8) (hs:zbz ts last (fs.getD i [])=some (ts',last')):zb9 fs ts0 ts' last' (i+1):=by
 have hln:=h.ag.len;rcases zj1 hs with ⟨hf,rfl,rfl⟩ | ⟨k,key,hd,rfl,rfl⟩
 ·exact h.start hi h4 hf
 ·exact h.done hi h8 hd
theorem znY {ps:List Pk} {jr:List UInt8} {ts:List Ta} {last:Int} {i:Nat} (hg:zaW (zaa jr) (newV ps).1.1 0 0=(ts,last,za3 ((zaa jr).take i))):rebD ps jr=(ts,last+1,0,zd2 (zaa jr) i++zaV (last+1)):=by
 unfold rebD;simp only [hg];rw [zgh]
theorem reb_yes {ps:List Pk} {jr:List UInt8} {d:Dk} (hd:rebD ps jr=d) (hb:zac d=true):rebV ps jr=(d,true):=by
 have hn:(newV ps).2=true:=by
  rcases hn:(newV ps).2 with _ | _
  ·
   have h1:=(zeB (zaa jr) (newV ps).1.1 0 0).1;have h2:=(zao.1 hb).n.1;rw [←hd] at h2;rw [ze2 hn] at h1
   have h3:(rebD ps jr).1.length=0:=by unfold rebD;simp only;rw [ze2 hn];exact h1
   omega
  ·rfl
 unfold rebV;rw [hd,if_pos ⟨hn,hb⟩]
theorem reb_no {ps:List Pk} {jr:List UInt8} {d:Dk} (hd:rebD ps jr=d) (hb:zac d=false):rebV ps jr=(dk0,false):=by
 unfold rebV;rw [hd,if_neg (fun h=>by rw [hb] at h;cases h.2)]
theorem reb_new {ps:List Pk} {jr:List UInt8} (hb:(newV ps).2=false):rebV ps jr=(dk0,false):=by
 unfold rebV;rw [if_neg (fun h=>by rw [hb] at h;cases h.1)]
theorem zll (jr:List UInt8) (i:Nat):((zaa jr).getD i []).length≤20000:=by
 have h:=(zgO 400 jr).1;by_cases hi:i<(zaa jr).length
 ·
  have hg:(zaa jr).getD i []=(zaa jr)[i]:=by simp [List.getD,hi]
  rw [hg];exact h _ (List.getElem_mem hi)
 ·rw [List.getD_eq_getElem?_getD,List.getElem?_eq_none (by omega)];simp
end

theorem zjA {d:Dk} {worker:Int}:(zbm d worker).1.2=d.2∧(zbm d worker).1.1.length=d.1.length:=by
 unfold zbm
 split
 ·
  split
  ·exact ⟨rfl,by simp⟩
  ·exact ⟨rfl,rfl⟩
 ·exact ⟨rfl,rfl⟩
theorem specLent (a:Option Addr) (len cap:Nat) (ts:List Ta) (ep nw:Int) (jr:List UInt8) (n:Int) (w:World) (hin:zaF w a len cap ts) (hsh:za1 ts) (hlen:len≤1048576) :
 Calls Tryz.prog 13 #[.agg #[.slice a len cap,.int .i64 ep,.int .i64 nw,.string ⟨jr.toArray⟩],.int .i64 n] w
  fun e w'=>∃ v,e=.returned (.tuple #[v,.int .i64 (zbd (ts,ep,nw,jr) n).2])∧zbQ w w' v (zbd (ts,ep,nw,jr) n).1:=by
 obtain rfl:ts.length=len:=hin.1;obtain ⟨D,hD⟩:∃ D,w.heap.size=D:=⟨_,rfl⟩
 obtain ⟨W1,hW1⟩:∃ W,w.alloc (.cells #[.slice a ts.length cap,.int .i64 ep,.int .i64 nw,.string ⟨jr.toArray⟩] 26)=W:=⟨_,rfl⟩
 obtain ⟨W2,hW2⟩:∃ W,W1.alloc (.cells #[.slice none 0 0,.int .i64 0,.int .i64 0,.string ⟨#[]⟩] 26)=W:=⟨_,rfl⟩
 have hs1:W1.heap.size=D+1:=by rw [←hW1,←hD];simp
 have hs2:W2.heap.size=D+2:=by rw [←hW2];simp [hs1]
 have hb1:Below D w W1:=by rw [←hW1,←hD];exact (Below.refl _ _).alloc (Nat.le_refl _) _
 have hb12:Below W1.heap.size W1 W2:=by rw [←hW2];exact (Below.refl _ _).alloc (Nat.le_refl _) _
 have hb2:Below D w W2:=hb1.trans (hb12.mono (by omega));have bD:=B4.new w (.slice a ts.length cap) (.int .i64 ep) (.int .i64 nw) (.string ⟨jr.toArray⟩) 26;rw [hW1,hD] at bD;have bR:=B4.new W1 (.slice none 0 0) (.int .i64 0) (.int .i64 0) (.string ⟨#[]⟩) 26;rw [hW2,hs1] at bR
 have HD:Hid (∀ Z,Below W2.heap.size W2 Z→B4 Z D (.slice a ts.length cap) (.int .i64 ep) (.int .i64 nw) (.string ⟨jr.toArray⟩)∧B4 Z (D+1) (.slice none 0 0) (.int .i64 0) (.int .i64 0) (.string ⟨#[]⟩)∧zaF Z a ts.length cap ts∧Below D w Z):=fun Z hz =>
  ⟨(bD.below hb12).below hz,bR.below hz,(hin.below (by rw [hD];exact hb2)).below hz,hb2.trans (hz.mono (by omega))⟩
 have HK:Hid (_):=zbW a ts.length cap ts ep nw jr W2 (hin.in.below (by rw [hD];exact hb2)) hsh hlen;have HCp:Hid (∀ Z,zaF Z a ts.length cap ts→_):=fun Z hz=>zgo a ts.length cap ts ep nw jr Z hz hsh hlen
 have HV0:Hid (zac (ts,ep,nw,jr)=false→zbd (ts,ep,nw,jr) n=(dk0,-1)):=fun h=>by unfold zbd;rw [h];rfl
 have HV1:Hid (zac (ts,ep,nw,jr)=true→zbd (ts,ep,nw,jr) n=zbm (ts,ep,nw,jr) n):=fun h=>by unfold zbd;rw [if_pos h]
 have HLe:Hid (_):=fun (B base:Nat) (va:Option Addr) (vc:Nat) (xs:List TV) (Z:World) (h1:B4 Z B (.slice va ts.length vc) (.int .i64 ep) (.int .i64 nw) (.string ⟨jr.toArray⟩)) (h2:za2 Z base (.slice va ts.length vc) xs) (h3:xs.map (·.1)=ts) (h4:zai (xs.map tvT)) (h5:∀ k,zan (.slice va ts.length vc) xs k→k≠B) (h6:base≤Z.heap.size) (h7:zac (ts,ep,nw,jr)=true)=>zlD B base va vc xs ts ep nw jr n Z h1 h2 h3 h4 h5 h6 h7 hsh
 have HRs:Hid (_):=zjA (d:=(ts,ep,nw,jr)) (worker:=n)
 obtain ⟨d0,d1,d2,d3⟩:W2.cell? ⟨D,0,none⟩=some (.slice a ts.length cap)∧W2.cell? ⟨D,1,none⟩=some (.int .i64 ep)∧W2.cell? ⟨D,2,none⟩=some (.int .i64 nw)∧W2.cell? ⟨D,3,none⟩=some (.string ⟨jr.toArray⟩):=by have h:=(HD.out W2 (Below.refl _ _)).1;exact ⟨h.c0,h.c1,h.c2,h.c3⟩
 generalize zbd (ts,ep,nw,jr) n=res at HV0 HV1 ⊢;generalize zbm (ts,ep,nw,jr) n=res2 at HV1 HLe HRs;generalize zac (ts,ep,nw,jr)=b1 at HK HV0 HV1 HLe;clear hin hsh bD bR hb1 hb12 hb2;rcases b1 with _ | _
 ·
  have HR:Hid (res=(dk0,-1)):=HV0.out rfl;clear HV0 HV1 HLe HCp HRs
  go_enter Tryz.func13,Tryz.ntmps13
  go_wp2_with fail
  refine Calls.mono HK.out ?_;rintro e w1 ⟨rfl,hb1⟩;obtain ⟨_,br,_,hbD⟩:=HD.out w1 hb1;have r0:=br.c0;have r1:=br.c1;have r2:=br.c2;have r3:=br.c3;have f0:=br.fr 0;have f1:=br.fr 1;have f2:=br.fr 2;have f3:=br.fr 3;have HBD:Hid (Below D w w1):=hbD;clear hbD br hb1 d0 d1 d2 d3;go_wp2;obtain ⟨X,hX,y0,y1,y2,y3,hg⟩:=set4 (.slice none 0 0) (.int .i64 0) (.int .i64 0) (.string ⟨#[]⟩) r0 r1 r2 r3;rw [hX];refine bodyPost_ret (v:=.tuple #[.agg #[.slice none 0 0,.int .i64 0,.int .i64 0,.string ⟨#[]⟩],.int .i64 (-1)]) (by simp [results,Tryz.results13,go_sem,y0,y1,y2,y3]) rfl ?_;rw [HR.out];exact ⟨_,rfl,zbQ.zero (by rw [hD];exact HBD.out.grown hg (by have:=HBD.out.size;omega) (fun k e=>by injection e with e;omega))⟩
 ·
  have HR:Hid (res=res2):=HV1.out rfl;clear HV0 HV1
  go_enter Tryz.func13,Tryz.ntmps13
  go_wp2_with fail
  refine Calls.mono HK.out ?_;rintro e w1 ⟨rfl,hb1⟩;have HB1:Hid (Below W2.heap.size W2 w1):=hb1;clear d0 d1 d2 d3 hb1 HK;obtain ⟨bd,_,hok1,_⟩:=HD.out w1 HB1.out;have d0:=bd.c0;have d1:=bd.c1;have d2:=bd.c2;have d3:=bd.c3;have HC1:Hid (_):=HCp.out w1 hok1;clear bd hok1 HCp;go_wp2_with fail
  refine Calls.mono HC1.out ?_;rintro e w2 ⟨va,vc,xs,rfl,hx,ho,hap,hb2⟩;have hB2:=HB1.out.trans (hb2.mono HB1.out.size);obtain ⟨Q,hQ⟩:∃ Q,w2.heap.size=Q:=⟨_,rfl⟩
  obtain ⟨w3,hw3⟩:∃ W,w2.alloc (.cells #[.slice va ts.length vc,.int .i64 ep,.int .i64 nw,.string ⟨jr.toArray⟩] 26)=W:=⟨_,rfl⟩
  have bQ:=B4.new w2 (.slice va ts.length vc) (.int .i64 ep) (.int .i64 nw) (.string ⟨jr.toArray⟩) 26;have hb3:Below w2.heap.size w2 w3:=by rw [←hw3];exact (Below.refl _ _).alloc (Nat.le_refl _) _
  have hs3:w3.heap.size=Q+1:=by rw [←hw3,←hQ];simp
  rw [hw3,hQ] at bQ;have hB3:Below W2.heap.size W2 w3:=hB2.trans (hb3.mono hB2.size);have hw1:D+2≤w1.heap.size:=by have:=HB1.out.size;omega
  have hQl:w1.heap.size≤Q:=by rw [←hQ];exact hb2.size
  have HO3:Hid (za2 w3 w1.heap.size (.slice va ts.length vc) xs∧xs.map (·.1)=ts∧zai (xs.map tvT)):=⟨ho.below hb3,hx,hap⟩
  have hO3:∀ k,(Value.slice va ts.length vc).ownBlock=some k∨(∃ x∈xs,(tvT x).ownBlock=some k)→k<Q:=by
   intro k hk;rw [←hQ];rcases hk with e | ⟨x,hx,e⟩
   ·exact (ho.row.lt k e).2
   ·exact ((ho.trees x hx).lt k e).2
  have HO3l:Hid (_):=hO3
  have HT:Hid (_):=HLe.out Q w1.heap.size va vc xs w3 bQ HO3.out.1 HO3.out.2.1 HO3.out.2.2 (fun k hk e=>by
   have h:=HO3l.out k hk;omega) (by rw [hs3];omega) (by first | rfl | trivial)
  have HB3:Hid (Below W2.heap.size W2 w3):=hB3;clear d0 d1 d2 d3 hb2 ho hap hx hb3 bQ hB3 hB2 hO3 HC1 HLe;go_wp2_with fail
  refine Calls.mono HT.out ?_;rintro e w4 ⟨rfl,xs4,hx4,ho4,hap4,bQ4,hb4,_⟩;have HB4:Hid (Below W2.heap.size W2 w4):=HB3.out.trans (hb4.mono HB1.out.size);obtain ⟨_,br,_,hbD⟩:=HD.out w4 HB4.out;have q0:=bQ4.c0;have q1:=bQ4.c1;have q2:=bQ4.c2;have q3:=bQ4.c3;have r0:=br.c0;have r1:=br.c1;have r2:=br.c2;have r3:=br.c3;have f0:=br.fr 0;have f1:=br.fr 1;have f2:=br.fr 2;have f3:=br.fr 3;have HBD:Hid (Below D w w4):=hbD;have HO4:Hid (za2 w4 w1.heap.size (.slice va ts.length vc) xs4∧xs4.map (·.1)=res2.1.1∧zai (xs4.map tvT)):=⟨ho4,hx4,hap4⟩;clear hbD br bQ4 ho4 hx4 hap4 hb4 HT;go_wp2;obtain ⟨X,hX,y0,y1,y2,y3,hg⟩:=set4 (.slice va ts.length vc) (.int .i64 ep) (.int .i64 nw) (.string ⟨jr.toArray⟩) r0 r1 r2 r3;rw [hX];refine bodyPost_ret (v:=.tuple #[.agg #[.slice va ts.length vc,.int .i64 ep,.int .i64 nw,.string ⟨jr.toArray⟩],.int .i64 res2.2]) (by simp [results,Tryz.results13,go_sem,y0,y1,y2,y3]) rfl ?_;rw [HR.out];have hk:=HO4.out.1.kept hg (za8 HO4.out.1.row (by omega)) (fun y hy=>za8 (HO4.out.1.trees y hy) (by omega));obtain ⟨hr1,hr2⟩:=HRs.out;unfold zbQ;rw [hr1,hr2];exact ⟨_,rfl,va,vc,xs4,rfl,HO4.out.2.1,hk.base (by omega),HO4.out.2.2,by rw [hD];exact HBD.out.grown hg (by have:=HBD.out.size;omega) (fun k e=>by injection e with e;omega)⟩
end Go.Proofs.YtponeoijfaepnaaGreatDoor
