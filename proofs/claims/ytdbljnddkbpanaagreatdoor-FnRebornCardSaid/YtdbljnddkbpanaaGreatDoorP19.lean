/-
  Parts of one proof, one behind the other: LendS, Math2T, Math18E, DkB, LendT.
-/
import Derived.Test.YtdbljnddkbpanaaGreatDoorP18
import Derived.Test.YtdbljnddkbpanaaGreatDoorP17
import Derived.Test.YtdbljnddkbpanaaGreatDoorP4
import Derived.Deep.RegionHeld3
import Derived.Test.YtdbljnddkbpanaaGreatDoorP8
namespace Go.Proofs.YtdbljnddkbpanaaGreatDoor
open Go.RowKit
set_option maxHeartbeats 2000000 in
set_option maxRecDepth 100000 in
theorem ziE (a:Option Addr) (len cap:Nat) (ts:List Ta) (ep nw:Int) (jr:List UInt8) (p:Nat) (w:World) (hin:zaK w a len ts) (hsh:zav ts) (hlen:len≤1048576) (hp:p<len)
 (hnd:∀ q,q<(ts.getD p ta0).2.1.length→0≤(ts.getD p ta0).2.1.getD q 0∧(ts.getD p ta0).2.1.getD q 0<len) :
 Calls Tryz.prog 61 #[.agg #[.slice a len cap,.int .i64 ep,.int .i64 nw,.string ⟨jr.toArray⟩],.int .i64 (p:Int)] w
  fun e w'=>e=.returned (.bool (zbj ts (ts.getD p ta0)))∧Below w.heap.size w w':=by
 obtain rfl:ts.length=len:=hin.1
 obtain ⟨W,hW⟩:∃ W,w.alloc (.cells #[.slice a ts.length cap,.int .i64 ep,.int .i64 nw,.string ⟨jr.toArray⟩] 29)=W:=⟨_,rfl⟩
 have hbW:Below w.heap.size w W:=by rw [←hW];exact (Below.refl _ _).alloc (Nat.le_refl _) _
 have hA:W.heap[w.heap.size]?=some (.cells #[.slice a ts.length cap,.int .i64 ep,.int .i64 nw,.string ⟨jr.toArray⟩] 29):=by rw [←hW];exact heap_alloc_new w _
 obtain ⟨D,hD⟩:∃ D,w.heap.size=D:=⟨_,rfl⟩
 rw [hD] at hA
 have k0:W.cell? ⟨D,0,none⟩=some (.slice a ts.length cap):=by simp [World.cell?,hA]
 have hI:=hin.below hbW
 have HB:Hid (∀ Z,Below W.heap.size W Z→Below D w Z):=fun Z hz=>hD▸hbW.trans (hz.mono hbW.size)
 have hDl:D<W.heap.size:=World.block_lt_of_cell? W ⟨D,0,none⟩ k0
 have HK:Hid (∀ Z,Below W.heap.size W Z→Z.cell? ⟨D,0,none⟩=some (.slice a ts.length cap)):=fun Z hz=>(hz.cell (p:=⟨D,0,none⟩) hDl).trans k0
 have HB0:Hid (Below W.heap.size W W):=Below.refl _ _
 obtain ⟨b,off,rfl,hbl,_,⟨na,nc,c1,hn⟩,_⟩:=hI.2 p hp
 have HC1:Hid (∀ Z,Below W.heap.size W Z→Z.cell? ⟨b,off+p*6+1,none⟩=some (.slice na (ts.getD p ta0).2.1.length nc)):=fun Z hz=>(hz.cell (p:=⟨b,off+p*6+1,none⟩) hbl).trans c1
 have HI:Hid (zaK W (some ⟨b,off,none⟩) ts.length ts):=hI
 have HN:Hid (∀ i,i<(ts.getD p ta0).2.1.length→(ts.getD ((ts.getD p ta0).2.1.getD i 0).toNat ta0).2.2.1≠2→zbj ts (ts.getD p ta0)=false):=fun i hi h=>zpk hi h
 have HY:Hid ((∀ i,i<(ts.getD p ta0).2.1.length→(ts.getD ((ts.getD p ta0).2.1.getD i 0).toNat ta0).2.2.1=2)→zbj ts (ts.getD p ta0)=true):=fun h=>znJ h
 have hnl:=(hsh p).2
 generalize zbj ts (ts.getD p ta0)=res at HN HY ⊢
 generalize (ts.getD p ta0).2.1=ns at HN HY c1 HC1 hn hnd hnl
 have HM:Hid (AsIn W na ns):=hn
 have HD:Hid (∀ q,q<ns.length→0≤ns.getD q 0∧ns.getD q 0<ts.length):=hnd
 clear hin hsh hbW hA hI hn hnd hDl
 go_enter Tryz.func61,Tryz.ntmps61
 go_wp2
 go_loopw [5] (fun iv wr=>∃ i:Nat,iv=.int .i64 (i:Int)∧i≤ns.length∧Hid (∀ q,q<i→(ts.getD (ns.getD q 0).toNat ta0).2.2.1=2)∧Hid (Below W.heap.size W wr)) (fun iv _=>ns.length-(intOf iv).toNat)
 case atStart=>exact ⟨0,rfl,by omega,(fun q hq=>by omega),HB0⟩
 case round =>
  obtain ⟨i,rfl,hi,HA,HBr⟩:=hrel
  clear k0 c1 HB0
  have k0:=HK.out wr HBr.out
  have c1:=HC1.out wr HBr.out
  by_cases hlt:(i:Int)<(ns.length:Int)
  ·
   obtain ⟨nb,no,rfl,_,d0⟩:=(HM.out.below HBr.out) i (by omega)
   obtain ⟨h0,h1⟩:=HD.out i (by omega)
   have HNi:Hid (_):=HN.out i (by omega)
   obtain ⟨y,hy⟩:∃ y,ns.getD i 0=y:=⟨_,rfl⟩
   rw [hy] at d0 h0 h1 HNi
   obtain ⟨m,rfl⟩:∃ m:Nat,y=(m:Int):=⟨y.toNat,by omega⟩
   obtain ⟨b',off',e,_,_,_,c2,_⟩:=(HI.out.below HBr.out).2 m (by omega)
   injection e with e
   injection e with e1 e2 _
   subst e1 e2
   obtain ⟨x,hx⟩:∃ x,(ts.getD m ta0).2.2.1=x:=⟨_,rfl⟩
   rw [hx] at c2
   by_cases h2:x=2
   ·
    have HR:Hid (∀ q,q<i+1→(ts.getD (ns.getD q 0).toNat ta0).2.2.1=2):=fun q hq=>by
     rcases Nat.lt_or_ge q i with g | g
     ·
      exact HA.out q g
     ·
      obtain rfl:q=i:=by omega
      rw [hy,Int.toNat_natCast,hx];exact h2
    clear HA hx hy HNi
    subst h2
    have HBd:Hid (Below W.heap.size W wr.drew):=HBr.out.trans (by exact ⟨rfl,rfl,rfl,Nat.le_refl _,fun _ _=>rfl⟩)
    go_wp2
    refine wp_region_held_drew (S:=(fun Z=>Z.cell? ⟨D,0,none⟩=some (.slice (some ⟨b,off,none⟩) ts.length cap)∧Z.cell? ⟨b,off+p*6+1,none⟩=some (.slice (some ⟨nb,no,none⟩) ns.length nc)∧Z.cell? ⟨nb,no+i,none⟩=some (.int .i64 (m:Int))∧Z.cell? ⟨b,off+m*6+2,none⟩=some (.int .i64 2))) (by kernel_rfl) ?_ (fun hHeld=>?_)
    ·
     exact ⟨k0,c1,d0,c2⟩
    refine tkO [(0,17),(1,18),(2,19),(3,20),(4,21),(5,22),(6,23),(7,24),(8,25),(9,26),(10,27),(11,28),(12,29),(13,30),(14,31)] ?_
    repeat (refine tkY ?_ rfl (by rfl) ?_ ?_;rotate_left;(focus (intro wq hSw;(try dsimp only at hSw);first | (go_simp;done) | (go_simp;with_reducible rfl)));simp only [zP])
    refine tkZ ?_
    refine wpAnyH_done (by kernel_rfl) ?_ _
    go_wp2
    go_roundw
    case rel=>exact ⟨i+1,by go_num,by omega,HR,HBd⟩
    case measure=>simp [intOf];omega
   ·
    have HF:Hid (res=false):=HNi.out (by rw [Int.toNat_natCast,hx];exact h2)
    have hxb:(x !=2)=true:=by simp [h2]
    have HBd:Hid (Below W.heap.size W wr.drew):=HBr.out.trans (by exact ⟨rfl,rfl,rfl,Nat.le_refl _,fun _ _=>rfl⟩)
    clear HA hx hy HN HY HNi
    go_wp2
    refine wp_region_held_drew (S:=(fun Z=>Z.cell? ⟨D,0,none⟩=some (.slice (some ⟨b,off,none⟩) ts.length cap)∧Z.cell? ⟨b,off+p*6+1,none⟩=some (.slice (some ⟨nb,no,none⟩) ns.length nc)∧Z.cell? ⟨nb,no+i,none⟩=some (.int .i64 (m:Int))∧Z.cell? ⟨b,off+m*6+2,none⟩=some (.int .i64 x))) (by kernel_rfl) ?_ (fun hHeld=>?_)
    ·
     exact ⟨k0,c1,d0,c2⟩
    refine tkO [(0,17),(1,18),(2,19),(3,20),(4,21),(5,22),(6,23),(7,24),(8,25),(9,26),(10,27),(11,28),(12,29),(13,30),(14,31)] ?_
    repeat (refine tkY ?_ rfl (by rfl) ?_ ?_;rotate_left;(focus (intro wq hSw;(try dsimp only at hSw);first | (go_simp;done) | (go_simp;with_reducible rfl)));simp only [zP])
    refine tkZ ?_
    refine wpAnyH_done (by kernel_rfl) ?_ _
    go_wp2
    go_ret
    exact ⟨by rw [HF.out];rfl,hD▸HB.out _ HBd.out⟩
  ·
   have HF:Hid (res=true):=HY.out (fun q hq=>HA.out q (by omega))
   clear HA HN HY
   go_wp2
   go_ret
   exact ⟨by rw [HF.out];rfl,hD▸HB.out _ HBr.out⟩
theorem zo2 (xs:List TV) (j:Nat) (hj:j<xs.length) (a b c:Int):(((tksV xs).set (j*6+2) (.int .i64 a)).set (j*6+3) (.int .i64 b)).set (j*6+4) (.int .i64 c)=tksV (xs.set j ((xs[j].1.1,xs[j].1.2.1,a,b,c,xs[j].1.2.2.2.2.2),xs[j].2)):=by
 induction xs generalizing j with
 | nil=>simp at hj
 | cons x r ih =>
  cases j with
  | zero=>simp [tksV,tvT]
  | succ j =>
   have:=ih j (by simpa using hj)
   rw [show (j+1)*6=j*6+1+1+1+1+1+1 by omega]
   simp only [tksV,Nat.add_right_comm _ 1 2,zC,List.getElem_cons_succ]
   rw [this]
theorem ziS {d:Dk} (h:DeskP d) {p:Nat} (hp:p<d.1.length):∀ q,q<(d.1.getD p ta0).2.1.length→0≤(d.1.getD p ta0).2.1.getD q 0∧(d.1.getD p ta0).2.1.getD q 0<d.1.length:=fun q hq=>by
 obtain ⟨_,h2,_⟩:=h.one p hp
 unfold zcd zcT at h2
 rw [Bool.and_eq_true] at h2
 have h3:=of_decide_eq_true h2.1 q hq
 unfold zbm at h3
 omega
theorem zfE {xs:List TV} {ts:List Ta} (h:xs.map (·.1)=ts) {i:Nat} (hi:i<xs.length):xs[i].1=ts.getD i ta0:=by
 rw [←h,zh2];simp [List.getD,hi]
set_option maxHeartbeats 8000000 in
set_option maxRecDepth 100000 in
theorem specLend (B base:Nat) (va:Option Addr) (vc:Nat) (xs:List TV) (ts:List Ta) (ep nw:Int) (jr:List UInt8) (wk0:Int) (w:World) (hb4:B4 w B (.slice va ts.length vc) (.int .i64 ep) (.int .i64 nw) (.string ⟨jr.toArray⟩)) (ho:za9 w base (.slice va ts.length vc) xs) (hx:xs.map (·.1)=ts) (hap:zao (xs.map tvT)) (hne:∀ k,zai (.slice va ts.length vc) xs k→k≠B) (hbase:base≤w.heap.size)
 (hd:zay (ts,ep,nw,jr)=true) (hsh:zav ts) :
 Calls Tryz.prog 72 #[.pointer (some ⟨B,0,none⟩),.int .i64 wk0] w fun e w'=>e=.returned (.int .i64 (zct (ts,ep,nw,jr) wk0).2)∧∃ xs',xs'.map (·.1)=(zct (ts,ep,nw,jr) wk0).1.1∧za9 w' base (.slice va ts.length vc) xs'∧zao (xs'.map tvT)∧B4 w' B (.slice va ts.length vc) (.int .i64 ep) (.int .i64 nw) (.string ⟨jr.toArray⟩)∧Below base w w'∧(∀ k,zai (.slice va ts.length vc) xs' k→zai (.slice va ts.length vc) xs k):=by
 have hP:=zau.1 hd
 have hn8:=hP.n
 have hnw:=hP.t
 simp only at hn8 hnw
 have hln:ts.length≤1048576:=by omega
 obtain ⟨g,cp,he⟩:=zaw ho.row (by rw [←hx,List.length_map] at hn8;omega)
 injection he with e1 e2 e3
 subst e1 e3
 have hxl:xs.length=ts.length:=e2.symm
 have HI:Hid (_):=zc0 wk0 0 3 w
 have HFr:Hid (∀ (Z:World) (p:Nat),zaK Z (some ⟨g,0,none⟩) ts.length ts→p<ts.length→_):=fun Z p hz hp=>ziE (some ⟨g,0,none⟩) ts.length vc ts ep nw jr p Z hz hsh hln hp (ziS hP hp)
 have HV0:Hid (inB wk0 0 3=false→zct (ts,ep,nw,jr) wk0=((ts,ep,nw,jr),-1)):=fun h=>by unfold zct;rw [h];rfl
 have HVn:Hid (inB wk0 0 3=true→(∀ q,q<ts.length→¬zey (ts,ep,nw,jr) q)→zct (ts,ep,nw,jr) wk0=((ts,ep,nw,jr),-1)):=fun h hq=>by
  have e:zoY (ts,ep,nw,jr)=none:=zeB (fun q _ h2=>hq q (by simpa using h2))
  unfold zct
  rw [if_pos h,e]
 have HVs:Hid (∀ i,inB wk0 0 3=true→i<ts.length→zey (ts,ep,nw,jr) i→(∀ q,q<i→¬zey (ts,ep,nw,jr) q)→zct (ts,ep,nw,jr) wk0=((ts.set i (zdF (ts,ep,nw,jr) wk0 (ts.getD i ta0)),ep,nw,jr),(i:Int))):=fun i h hi hc hq=>by
  have e:zoY (ts,ep,nw,jr)=some i:=zk7 (Nat.zero_le _) (by simpa using hi) hc (fun q _ h2=>hq q h2)
  unfold zct
  rw [if_pos h,e]
 generalize zct (ts,ep,nw,jr) wk0=res at HV0 HVn HVs ⊢
 have HIn:Hid (∀ Z,Below w.heap.size w Z→zaK Z (some ⟨g,0,none⟩) ts.length ts):=fun Z hz=>by
  obtain ⟨a7,c7,e7,hok7⟩:=(ho.below hz).ok
  rw [hx,hxl] at hok7
  rw [hxl] at e7
  injection e7 with e7 _ _
  subst e7
  exact hok7.in
 have HO:Hid (∀ Z,Below w.heap.size w Z→za9 Z base (.slice (some ⟨g,0,none⟩) ts.length vc) xs):=fun Z hz=>ho.below hz
 have HBx:Hid (∀ Z,Below w.heap.size w Z→B4 Z B (.slice (some ⟨g,0,none⟩) ts.length vc) (.int .i64 ep) (.int .i64 nw) (.string ⟨jr.toArray⟩)):=fun Z hz=>hb4.below hz
 have HX:Hid (xs.map (·.1)=ts∧zao (xs.map tvT)∧xs.length=ts.length):=⟨hx,hap,hxl⟩
 have HgB:Hid (g≠B∧base≤g∧base≤w.heap.size):=⟨hne g (Or.inl rfl),(ho.row.lt g rfl).1,hbase⟩
 have HBf:Hid (Below w.heap.size w w):=Below.refl _ _
 clear hb4 ho hx hap hne hbase hd hsh hP hxl e2
 generalize inB wk0 0 3=bw at HI HV0 HVn HVs
 rcases bw with _ | _
 ·
  have HR:Hid (_):=HV0.out rfl
  clear HV0 HVn HVs HFr
  go_enter Tryz.func72,Tryz.ntmps72
  go_wp2_with (go_at_call 38;refine Calls.mono HI.out ?_;rintro e w1 ⟨rfl,rfl⟩)
  go_ret
  rw [HR.out]
  exact ⟨rfl,xs,HX.out.1,HO.out _ HBf.out,HX.out.2.1,HBx.out _ HBf.out,Below.refl _ _,fun k h=>h⟩
 have HVn1:Hid (_):=HVn.out rfl
 have HVs1:Hid (_):=fun i=>HVs.out i rfl
 have b0:=(HBx.out w HBf.out).c0
 clear HV0 HVn HVs
 go_enter Tryz.func72,Tryz.ntmps72
 go_wp2_with (go_at_call 38;refine Calls.mono HI.out ?_;rintro e w1 ⟨rfl,hw1⟩;obtain rfl:=hw1.symm;clear hw1)
 clear HI
 go_loopw [5] (fun iv wr=>∃ i:Nat,iv=.int .i64 (i:Int)∧i≤ts.length∧Hid (∀ q,q<i→¬zey (ts,ep,nw,jr) q)∧Hid (Below w.heap.size w wr)) (fun iv _=>ts.length-(intOf iv).toNat)
 case atStart=>exact ⟨0,rfl,Nat.zero_le _,(fun q hq=>absurd hq (Nat.not_lt_zero _)),HBf⟩
 case round =>
  obtain ⟨i,rfl,hi,HA,HBr⟩:=hrel
  clear HBf b0
  have bB:=HBx.out wr HBr.out
  have b0:=bB.c0
  have b1:=bB.c1
  have b2:=bB.c2
  have b3:=bB.c3
  clear bB
  by_cases hlt:(i:Int)<(ts.length:Int)
  rotate_left
  ·
   have HR:Hid (_):=HVn1.out (fun q hq=>HA.out q (by omega))
   clear HVn1 HVs1 HA HFr b1 b2 b3
   go_wp2
   go_ret
   rw [HR.out]
   exact ⟨rfl,xs,HX.out.1,HO.out _ HBr.out,HX.out.2.1,HBx.out _ HBr.out,HBr.out.mono HgB.out.2.2,fun k h=>h⟩
  have hi2:i<ts.length:=by omega
  have hin:=HIn.out wr HBr.out
  obtain ⟨b',off',e,hgl,_,_,c2,c3,c4,_⟩:=hin.2 i hi2
  injection e with e
  injection e with e1 e2 _
  subst e1 e2
  rw [Nat.zero_add] at c2 c3 c4
  have HFd:Hid (Below w.heap.size w wr.drew):=HBr.out.trans (by exact ⟨rfl,rfl,rfl,Nat.le_refl _,fun _ _=>rfl⟩)
  have HF1:Hid (_):=HFr.out wr.drew i (HIn.out _ HFd.out) hi2
  have HCan:Hid (zey (ts,ep,nw,jr) i↔(ts.getD i ta0).2.2.1≠2∧zbj ts (ts.getD i ta0)=true∧¬((ts.getD i ta0).2.2.1=1∧nw<(ts.getD i ta0).2.2.2.2.1)):=Iff.rfl
  have HCe:Hid (∀ Z,Below w.heap.size w Z→Z.cell? ⟨g,i*6+2,none⟩=some (.int .i64 (ts.getD i ta0).2.2.1)∧Z.cell? ⟨g,i*6+4,none⟩=some (.int .i64 (ts.getD i ta0).2.2.2.2.1)):=fun Z hz=>by
   obtain ⟨b',off',e,_,_,_,c2,_,c4,_⟩:=(HIn.out Z hz).2 i hi2
   injection e with e
   injection e with e1 e2 _
   subst e1 e2
   rw [Nat.zero_add] at c2 c4
   exact ⟨c2,c4⟩
  have HNext:Hid (¬zey (ts,ep,nw,jr) i→∀ q,q<i+1→¬zey (ts,ep,nw,jr) q):=fun h q hq=>by
   rcases Nat.lt_or_ge q i with k | k
   ·
    exact HA.out q k
   ·
    obtain rfl:q=i:=by omega
    exact h
  have HSome:Hid (_):=fun h=>HVs1.out i hi2 h HA.out
  have HW:Hid (∀ Z,Below w.heap.size w Z→∃ u2 u3 u4,Z.cell? ⟨g,i*6+2,none⟩=some u2∧Z.cell? ⟨g,i*6+3,none⟩=some u3∧Z.cell? ⟨g,i*6+4,none⟩=some u4∧(∀ j,Z.frozen? ⟨g,j,none⟩=false)∧∀ a b c:Int,za9 (((Z.setCell ⟨g,i*6+2,none⟩ (.int .i64 a)).setCell ⟨g,i*6+3,none⟩ (.int .i64 b)).setCell ⟨g,i*6+4,none⟩ (.int .i64 c)) base (.slice (some ⟨g,0,none⟩) ts.length vc) (xs.set i ((xs[i]!.1.1,xs[i]!.1.2.1,a,b,c,xs[i]!.1.2.2.2.2.2),xs[i]!.2))∧Z.grownBy (((Z.setCell ⟨g,i*6+2,none⟩ (.int .i64 a)).setCell ⟨g,i*6+3,none⟩ (.int .i64 b)).setCell ⟨g,i*6+4,none⟩ (.int .i64 c)) (some g)):=fun Z hz=>by
   have hoZ:=HO.out Z hz
   have hxl:=HX.out.2.2
   have hix:i<xs.length:=by omega
   have hrow:=hoZ.row
   rw [hxl] at hrow
   obtain ⟨_,_,v2,v3,v4,_⟩:=zfl xs i hix
   refine ⟨_,_,_,(hrow.cellAt (i*6+2) (by omega)).trans v2,(hrow.cellAt (i*6+3) (by omega)).trans v3,(hrow.cellAt (i*6+4) (by omega)).trans v4,fun j=>hrow.frozenAt j,fun a b c=>?_⟩
   have hs2:=hrow.stored (i*6+2) (.int .i64 a)
   have hs3:=hs2.1.stored (i*6+3) (.int .i64 b)
   have hs4:=hs3.1.stored (i*6+4) (.int .i64 c)
   have hg:=(hs2.2.trans hs3.2).trans hs4.2
   have hr:=hs4.1
   have hb:xs[i]! = xs[i]:=by simp [hix]
   rw [zo2 xs i hix a b c] at hr
   rw [hb]
   refine ⟨hoZ.put hix _ hg (by rw [hxl];exact hr) rfl rfl,hg⟩
  obtain ⟨x,hx⟩:∃ x,ts.getD i ta0=x:=⟨_,rfl⟩
  have HX1:Hid (ts.getD i ta0=x):=hx
  rw [hx] at c2 c3 c4 HF1 HCan HCe HSome
  obtain ⟨nm,ns,st,wk,un,ke⟩:=x
  simp only at c2 c3 c4 HCan HCe
  generalize zbj ts (nm,ns,st,wk,un,ke)=fr at HF1 HCan
  have hwi:IntKind.i64.wrap (i:Int)=(i:Int):=by rw [IntKind.wrap_i64];omega
  clear hin hx hgl HA HVs1 HVn1 HFr
  by_cases h2:st=2
  ·
   have HN:Hid (_):=HNext.out (fun h=>(HCan.out.1 h).1 h2)
   subst h2
   clear HNext HSome HCan HF1 HW
   go_wp2
   refine wp_region_held_drew (S:=(fun Z=>Z.cell? ⟨B,0,none⟩=some (.slice (some ⟨g,0,none⟩) ts.length vc)∧Z.cell? ⟨B,1,none⟩=some (.int .i64 ep)∧Z.cell? ⟨B,2,none⟩=some (.int .i64 nw)∧Z.cell? ⟨B,3,none⟩=some (.string ⟨jr.toArray⟩)∧Z.cell? ⟨g,i*6+2,none⟩=some (.int .i64 2)∧Z.cell? ⟨g,i*6+4,none⟩=some (.int .i64 un))) (by kernel_rfl) ?_ (fun hHeld=>?_)
   ·
    exact ⟨b0,b1,b2,b3,c2,c4⟩
   refine tkO [(0,25),(1,26),(2,27),(3,28),(4,29),(5,30),(6,31),(7,32),(8,33),(9,34),(10,35),(11,36),(12,37),(13,38),(14,39),(15,40),(16,41),(17,42),(18,43),(19,44),(20,45),(21,46),(22,47),(23,48),(24,49),(25,50),(26,51),(27,52),(28,53),(29,54),(30,55)] ?_
   repeat ((first | (refine tkY ?_ rfl (by rfl) ?_ ?_;rotate_left;(focus (intro wq hSw;(try dsimp only at hSw);first | (go_simp;done) | (go_simp;with_reducible rfl)))) | refine tkN rfl (by rfl) ?_);simp only [zP])
   refine tkZ ?_
   refine wpAnyH_done (by kernel_rfl) ?_ _
   go_wp2
   go_roundw
   case rel=>exact ⟨i+1,by go_num,by omega,HN,HFd⟩
   case measure=>simp [intOf];omega
  have h2b:(st==2)=false:=beq_eq_false_iff_ne.2 h2
  rcases fr with _ | _
  ·
   have HN:Hid (_):=HNext.out (fun h=>by cases (HCan.out.1 h).2.1)
   clear HNext HSome HCan HW
   go_wp2
   refine wp_region_held_drew (S:=(fun Z=>Z.cell? ⟨B,0,none⟩=some (.slice (some ⟨g,0,none⟩) ts.length vc)∧Z.cell? ⟨B,1,none⟩=some (.int .i64 ep)∧Z.cell? ⟨B,2,none⟩=some (.int .i64 nw)∧Z.cell? ⟨B,3,none⟩=some (.string ⟨jr.toArray⟩)∧Z.cell? ⟨g,i*6+2,none⟩=some (.int .i64 st)∧Z.cell? ⟨g,i*6+4,none⟩=some (.int .i64 un))) (by kernel_rfl) ?_ (fun hHeld=>?_)
   ·
    exact ⟨b0,b1,b2,b3,c2,c4⟩
   refine tkO [(0,25),(1,26),(2,27),(3,28),(4,29),(5,30),(6,31),(7,32),(8,33),(9,34)] ?_
   repeat (refine tkY ?_ rfl (by rfl) ?_ ?_;rotate_left;(focus (intro wq hSw;(try dsimp only at hSw);first | (go_simp;done) | (go_simp;with_reducible rfl)));simp only [zP])
   refine tkZ ?_
   refine zR 10 rfl (fun K hK=>?_)
   go_simp
   (go_at_call 61;refine Calls.mono HF1.out ?_;rintro e wn ⟨rfl,hbn⟩;have HBn:Hid (Below w.heap.size w wn):=HFd.out.trans (hbn.mono HFd.out.size);clear b0 b1 b2 b3 c2 c4 hbn;obtain ⟨b0,b1,b2,b3⟩:_∧_∧_∧_:=⟨(HBx.out wn HBn.out).c0,(HBx.out wn HBn.out).c1,(HBx.out wn HBn.out).c2,(HBx.out wn HBn.out).c3⟩;obtain ⟨c2,c4⟩:=HCe.out wn HBn.out)
   refine hK.out _ _ ?_ (fun hHeld=>?_)
   ·
    exact ⟨b0,b1,b2,b3,c2,c4⟩
   clear hK K
   refine tkO [(11,36),(12,37),(13,38),(14,39),(15,40),(16,41),(17,42),(18,43),(19,44),(20,45),(21,46),(22,47),(23,48),(24,49),(25,50),(26,51),(27,52),(28,53),(29,54),(30,55)] ?_
   repeat ((first | (refine tkY ?_ rfl (by rfl) ?_ ?_;rotate_left;(focus (intro wq hSw;(try dsimp only at hSw);first | (go_simp;done) | (go_simp;with_reducible rfl)))) | refine tkN rfl (by rfl) ?_);simp only [zP])
   refine tkZ ?_
   refine wpAnyH_done (by kernel_rfl) ?_ _
   go_wp2
   go_roundw
   case rel=>exact ⟨i+1,by go_num,by omega,HN,HBn⟩
   case measure=>simp [intOf];omega
  by_cases h1:st=1
  ·
   subst h1
   by_cases hu:nw<un
   ·
    have HN:Hid (_):=HNext.out (fun h=>(HCan.out.1 h).2.2 ⟨rfl,hu⟩)
    clear HNext HSome HCan HW
    go_wp2
    refine wp_region_held_drew (S:=(fun Z=>Z.cell? ⟨B,0,none⟩=some (.slice (some ⟨g,0,none⟩) ts.length vc)∧Z.cell? ⟨B,1,none⟩=some (.int .i64 ep)∧Z.cell? ⟨B,2,none⟩=some (.int .i64 nw)∧Z.cell? ⟨B,3,none⟩=some (.string ⟨jr.toArray⟩)∧Z.cell? ⟨g,i*6+2,none⟩=some (.int .i64 1)∧Z.cell? ⟨g,i*6+4,none⟩=some (.int .i64 un))) (by kernel_rfl) ?_ (fun hHeld=>?_)
    ·
     exact ⟨b0,b1,b2,b3,c2,c4⟩
    refine tkO [(0,25),(1,26),(2,27),(3,28),(4,29),(5,30),(6,31),(7,32),(8,33),(9,34)] ?_
    repeat (refine tkY ?_ rfl (by rfl) ?_ ?_;rotate_left;(focus (intro wq hSw;(try dsimp only at hSw);first | (go_simp;done) | (go_simp;with_reducible rfl)));simp only [zP])
    refine tkZ ?_
    refine zR 10 rfl (fun K hK=>?_)
    go_simp
    (go_at_call 61;refine Calls.mono HF1.out ?_;rintro e wn ⟨rfl,hbn⟩;have HBn:Hid (Below w.heap.size w wn):=HFd.out.trans (hbn.mono HFd.out.size);clear b0 b1 b2 b3 c2 c4 hbn;obtain ⟨b0,b1,b2,b3⟩:_∧_∧_∧_:=⟨(HBx.out wn HBn.out).c0,(HBx.out wn HBn.out).c1,(HBx.out wn HBn.out).c2,(HBx.out wn HBn.out).c3⟩;obtain ⟨c2,c4⟩:=HCe.out wn HBn.out)
    refine hK.out _ _ ?_ (fun hHeld=>?_)
    ·
     exact ⟨b0,b1,b2,b3,c2,c4⟩
    clear hK K
    refine tkO [(11,36),(12,37),(13,38),(14,39),(15,40),(16,41),(17,42),(18,43),(19,44),(20,45),(21,46),(22,47),(23,48),(24,49),(25,50),(26,51),(27,52),(28,53),(29,54),(30,55)] ?_
    repeat (refine tkY ?_ rfl (by rfl) ?_ ?_;rotate_left;(focus (intro wq hSw;(try dsimp only at hSw);first | (go_simp;done) | (go_simp;with_reducible rfl)));simp only [zP])
    refine tkZ ?_
    refine wpAnyH_done (by kernel_rfl) ?_ _
    go_wp2
    go_roundw
    case rel=>exact ⟨i+1,by go_num,by omega,HN,HBn⟩
    case measure=>simp [intOf];omega
   ·
    have HR:Hid (_):=HSome.out (HCan.out.2 ⟨h2,rfl,fun h=>hu h.2⟩)
    clear HNext HSome HCan
    go_wp2
    refine wp_region_held_drew (S:=(fun Z=>Z.cell? ⟨B,0,none⟩=some (.slice (some ⟨g,0,none⟩) ts.length vc)∧Z.cell? ⟨B,1,none⟩=some (.int .i64 ep)∧Z.cell? ⟨B,2,none⟩=some (.int .i64 nw)∧Z.cell? ⟨B,3,none⟩=some (.string ⟨jr.toArray⟩)∧Z.cell? ⟨g,i*6+2,none⟩=some (.int .i64 1)∧Z.cell? ⟨g,i*6+4,none⟩=some (.int .i64 un))) (by kernel_rfl) ?_ (fun hHeld=>?_)
    ·
     exact ⟨b0,b1,b2,b3,c2,c4⟩
    refine tkO [(0,25),(1,26),(2,27),(3,28),(4,29),(5,30),(6,31),(7,32),(8,33),(9,34)] ?_
    repeat (refine tkY ?_ rfl (by rfl) ?_ ?_;rotate_left;(focus (intro wq hSw;(try dsimp only at hSw);first | (go_simp;done) | (go_simp;with_reducible rfl)));simp only [zP])
    refine tkZ ?_
    refine zR 10 rfl (fun K hK=>?_)
    go_simp
    (go_at_call 61;refine Calls.mono HF1.out ?_;rintro e wn ⟨rfl,hbn⟩;have HBn:Hid (Below w.heap.size w wn):=HFd.out.trans (hbn.mono HFd.out.size);clear b0 b1 b2 b3 c2 c4 hbn;obtain ⟨b0,b1,b2,b3⟩:_∧_∧_∧_:=⟨(HBx.out wn HBn.out).c0,(HBx.out wn HBn.out).c1,(HBx.out wn HBn.out).c2,(HBx.out wn HBn.out).c3⟩;obtain ⟨c2,c4⟩:=HCe.out wn HBn.out)
    refine hK.out _ _ ?_ (fun hHeld=>?_)
    ·
     exact ⟨b0,b1,b2,b3,c2,c4⟩
    clear hK K
    refine tkO [(11,36),(12,37),(13,38),(14,39),(15,40),(16,41),(17,42),(18,43),(19,44),(20,45),(21,46),(22,47),(23,48),(24,49),(25,50),(26,51),(27,52),(28,53),(29,54),(30,55)] ?_
    repeat (refine tkY ?_ rfl (by rfl) ?_ ?_;rotate_left;(focus (intro wq hSw;(try dsimp only at hSw);first | (go_simp;done) | (go_simp;with_reducible rfl)));simp only [zP])
    refine tkZ ?_
    refine wpAnyH_done (by kernel_rfl) ?_ _
    have HMin:Hid (∀ Z,_):=fun Z=>zjJ 1000000 (nw+10) Z
    have HUn:Hid ((if 1000000<nw+10 then 1000000 else nw+10)=(if nw+10≤1000000 then nw+10 else 1000000:Int)):=by exact (by split<;>split<;>omega:(if 1000000<nw+10 then 1000000 else nw+10)=(if nw+10≤1000000 then nw+10 else 1000000:Int))
    obtain ⟨u2,u3,u4,d2,d3,d4,df,hW⟩:=HW.out wn HBn.out
    have HWn:Hid (_):=hW
    have df2:=df (i*6+2)
    have df3:=df (i*6+3)
    have df4:=df (i*6+4)
    have hgB:¬g=B:=HgB.out.1
    have hBg:¬B=g:=fun e=>hgB e.symm
    generalize (if 1000000<nw+10 then 1000000 else nw+10:Int)=un2 at HMin HUn
    clear c2 c4 df hW HW
    go_wp2_with (go_at_call 97;refine Calls.mono (HMin.out _) ?_;rintro e wm ⟨rfl,rfl⟩)
    go_ret
    obtain ⟨hT,hG⟩:=HWn.out 1 wk0 un2
    rw [HR.out]
    have hix:i<xs.length:=by have:=HX.out.2.2;omega
    have hb:xs[i]! = xs[i]:=by simp [hix]
    have hxi:=zfE HX.out.1 hix
    rw [HX1.out] at hxi
    refine ⟨rfl,_,?_,hT,ze4 hix _ (by rw [hb]) (by rw [hb]) HX.out.2.1,(HBx.out wn HBn.out).grown hG (by intro e;injection e with e;exact hgB e),(HBn.out.mono HgB.out.2.2).grown hG (Nat.le_trans HgB.out.2.2 HBn.out.size) ?_,?_⟩
    ·
     rw [List.map_set,HX.out.1]
     show ts.set i _=ts.set i _
     congr 1
     rw [hb,hxi]
     unfold zdF
     rw [HUn.out]
    ·
     intro k e
     injection e with e
     have:=HgB.out.2.1
     omega
    ·
     rintro k (e | ⟨y,hy,e⟩)
     ·
      exact Or.inl e
     ·
      rcases List.mem_or_eq_of_mem_set hy with h | h
      ·
       exact Or.inr ⟨y,h,e⟩
      ·
       subst h
       rw [hb] at e
       exact Or.inr ⟨xs[i],List.getElem_mem hix,e⟩
  ·
   have h1b:(st==1)=false:=beq_eq_false_iff_ne.2 h1
   have HR:Hid (_):=HSome.out (HCan.out.2 ⟨h2,rfl,fun h=>h1 h.1⟩)
   clear HNext HSome HCan
   go_wp2
   refine wp_region_held_drew (S:=(fun Z=>Z.cell? ⟨B,0,none⟩=some (.slice (some ⟨g,0,none⟩) ts.length vc)∧Z.cell? ⟨B,1,none⟩=some (.int .i64 ep)∧Z.cell? ⟨B,2,none⟩=some (.int .i64 nw)∧Z.cell? ⟨B,3,none⟩=some (.string ⟨jr.toArray⟩)∧Z.cell? ⟨g,i*6+2,none⟩=some (.int .i64 st)∧Z.cell? ⟨g,i*6+4,none⟩=some (.int .i64 un))) (by kernel_rfl) ?_ (fun hHeld=>?_)
   ·
    exact ⟨b0,b1,b2,b3,c2,c4⟩
   refine tkO [(0,25),(1,26),(2,27),(3,28),(4,29),(5,30),(6,31),(7,32),(8,33),(9,34)] ?_
   repeat (refine tkY ?_ rfl (by rfl) ?_ ?_;rotate_left;(focus (intro wq hSw;(try dsimp only at hSw);first | (go_simp;done) | (go_simp;with_reducible rfl)));simp only [zP])
   refine tkZ ?_
   refine zR 10 rfl (fun K hK=>?_)
   go_simp
   (go_at_call 61;refine Calls.mono HF1.out ?_;rintro e wn ⟨rfl,hbn⟩;have HBn:Hid (Below w.heap.size w wn):=HFd.out.trans (hbn.mono HFd.out.size);clear b0 b1 b2 b3 c2 c4 hbn;obtain ⟨b0,b1,b2,b3⟩:_∧_∧_∧_:=⟨(HBx.out wn HBn.out).c0,(HBx.out wn HBn.out).c1,(HBx.out wn HBn.out).c2,(HBx.out wn HBn.out).c3⟩;obtain ⟨c2,c4⟩:=HCe.out wn HBn.out)
   refine hK.out _ _ ?_ (fun hHeld=>?_)
   ·
    exact ⟨b0,b1,b2,b3,c2,c4⟩
   clear hK K
   refine tkO [(11,36),(12,37),(13,38),(14,39),(15,40),(16,41),(17,42),(18,43),(19,44),(20,45),(21,46),(22,47),(23,48),(24,49),(25,50),(26,51),(27,52),(28,53),(29,54),(30,55)] ?_
   repeat ((first | (refine tkY ?_ rfl (by rfl) ?_ ?_;rotate_left;(focus (intro wq hSw;(try dsimp only at hSw);first | (go_simp;done) | (go_simp;with_reducible rfl)))) | refine tkN rfl (by rfl) ?_);simp only [zP])
   refine tkZ ?_
   refine wpAnyH_done (by kernel_rfl) ?_ _
   have HMin:Hid (∀ Z,_):=fun Z=>zjJ 1000000 (nw+10) Z
   have HUn:Hid ((if 1000000<nw+10 then 1000000 else nw+10)=(if nw+10≤1000000 then nw+10 else 1000000:Int)):=by exact (by split<;>split<;>omega:(if 1000000<nw+10 then 1000000 else nw+10)=(if nw+10≤1000000 then nw+10 else 1000000:Int))
   obtain ⟨u2,u3,u4,d2,d3,d4,df,hW⟩:=HW.out wn HBn.out
   have HWn:Hid (_):=hW
   have df2:=df (i*6+2)
   have df3:=df (i*6+3)
   have df4:=df (i*6+4)
   have hgB:¬g=B:=HgB.out.1
   have hBg:¬B=g:=fun e=>hgB e.symm
   generalize (if 1000000<nw+10 then 1000000 else nw+10:Int)=un2 at HMin HUn
   clear c2 c4 df hW HW
   go_wp2_with (go_at_call 97;refine Calls.mono (HMin.out _) ?_;rintro e wm ⟨rfl,rfl⟩)
   go_ret
   obtain ⟨hT,hG⟩:=HWn.out 1 wk0 un2
   rw [HR.out]
   have hix:i<xs.length:=by have:=HX.out.2.2;omega
   have hb:xs[i]! = xs[i]:=by simp [hix]
   have hxi:=zfE HX.out.1 hix
   rw [HX1.out] at hxi
   refine ⟨rfl,_,?_,hT,ze4 hix _ (by rw [hb]) (by rw [hb]) HX.out.2.1,(HBx.out wn HBn.out).grown hG (by intro e;injection e with e;exact hgB e),(HBn.out.mono HgB.out.2.2).grown hG (Nat.le_trans HgB.out.2.2 HBn.out.size) ?_,?_⟩
   ·
    rw [List.map_set,HX.out.1]
    show ts.set i _=ts.set i _
    congr 1
    rw [hb,hxi]
    unfold zdF
    rw [HUn.out]
   ·
    intro k e
    injection e with e
    have:=HgB.out.2.1
    omega
   ·
    rintro k (e | ⟨y,hy,e⟩)
    ·
     exact Or.inl e
    ·
     rcases List.mem_or_eq_of_mem_set hy with h | h
     ·
      exact Or.inr ⟨y,h,e⟩
     ·
      subst h
      rw [hb] at e
      exact Or.inr ⟨xs[i],List.getElem_mem hix,e⟩
section
def catF:List (List UInt8)→List UInt8
 | []=>[]
 | t :: r=>zaj t++catF r
theorem zfk (ts:List (List UInt8)):(catF ts).length=za1 ts:=by
 induction ts with
 | nil=>rfl
 | cons t r ih=>simp only [catF,za1,List.length_append,zaW,ih]
theorem zpJ (ts:List (List UInt8)) (t:List UInt8):catF (ts++[t])=catF ts++zaj t:=by
 induction ts with
 | nil=>simp [catF]
 | cons a r ih=>simp only [List.cons_append,catF,ih,List.append_assoc]
def zhU (ts:List (List UInt8)):Prop:=∀ t∈ts,t.length≤20000
theorem zkr (ts:List (List UInt8)) (hs:zhU ts) (k:Nat) (hk:ts.length≤k) (r:List UInt8):zad k (catF ts++r)=ts++zad (k-ts.length) r:=by
 induction ts generalizing k with
 | nil=>simp [catF]
 | cons t q ih =>
  obtain ⟨j,rfl⟩:∃ j,k=j+1:=⟨k-1,by simp only [List.length_cons] at hk;omega⟩
  have hf:=zfY t (hs t List.mem_cons_self) (catF q++r)
  simp only [catF,List.append_assoc]
  rw [zc2 j _ hf.1,hf.2.1,List.drop_left' (zaW t),ih (fun x hx=>hs x (List.mem_cons_of_mem _ hx)) j (by simp only [List.length_cons] at hk;omega)]
  simp only [List.cons_append,List.length_cons,Nat.add_sub_add_right]
theorem zh5 (k:Nat) (l:List UInt8):zhU (zad k l)∧l=catF (zad k l)++l.drop (za1 (zad k l)):=by
 induction k generalizing l with
 | zero=>exact ⟨(fun t h=>by cases h),by simp [zad,catF,za1]⟩
 | succ k ih =>
  rcases hb:zaU l with _ | _
  ·
   rw [zbX _ _ hb];exact ⟨(fun t h=>by cases h),by simp [catF,za1]⟩
  ·
   rw [zc2 k l hb]
   have hf:=zen l hb
   have hi:=ih (l.drop (16+(zap l).length))
   refine ⟨?_,?_⟩
   ·
    intro t ht
    rcases List.mem_cons.1 ht with e | ht
    ·
     rw [e];exact hf.1
    ·
     exact hi.1 t ht
   ·
    conv=>lhs;rw [hf.2.2]
    simp only [catF,za1,List.append_assoc]
    congr 1
    conv=>lhs;rw [hi.2]
    rw [List.drop_drop]
theorem zpo (l:List UInt8) (hl:l.length≤20000) (k:Nat) (hk:k<16+l.length):zaU ((zaj l).take k)=false:=by
 rcases hb:zaU ((zaj l).take k) with _ | _
 ·
  rfl
 ·
  have hf:=zen _ hb
  have hfit:=zfG _ hb
  have hlen:=zaW l
  have e1:((zaj l).take k).length=k:=by rw [List.length_take];omega
  rw [e1] at hfit
  have e3:((zaj l).take k).take 8=hexL l.length:=by
   rw [List.take_take,Nat.min_eq_left (by omega)];exact zja l
  have e4:((zaj l).take k).take 8=hexL (zap ((zaj l).take k)).length:=by
   conv=>lhs;rw [hf.2.2]
   rw [List.take_append_of_le_length (by rw [zaW];omega)]
   exact zja _
  rw [e3] at e4
  have:=hexL_inj _ _ (by omega) (by have:=hf.1;omega) e4
  omega
theorem zh4 (l:List UInt8):zhU (za2 l)∧l.take (za1 (za2 l))=catF (za2 l)∧za1 (za2 l)≤l.length:=by
 have h:=zh5 400 l
 have e:=congrArg List.length h.2
 rw [List.length_append,zfk] at e
 refine ⟨h.1,?_,by unfold za2;omega⟩
 conv=>lhs;arg 2;rw [h.2]
 exact List.take_left' (zfk _)
theorem znK (ts:List (List UInt8)):16*ts.length≤za1 ts:=by
 induction ts with
 | nil=>exact Nat.le_refl _
 | cons t r ih=>simp only [List.length_cons,za1];omega
theorem zjA {α:Type} (fs:List α) (k:Nat) (d:α) (h:k<fs.length):fs.take (k+1)=fs.take k++[fs.getD k d]:=by
 rw [List.take_succ_eq_append_getElem h,List.getD_eq_getElem?_getD,List.getElem?_eq_getElem h];rfl
theorem zhI (a b:List (List UInt8)):za1 (a++b)=za1 a+za1 b:=by
 induction a with
 | nil=>simp [za1]
 | cons t r ih=>simp only [List.cons_append,za1,ih];omega
theorem ze3 (fs:List (List UInt8)) (k:Nat):za1 (fs.take k)≤za1 fs:=by
 have h:=zhI (fs.take k) (fs.drop k)
 rw [List.take_append_drop] at h
 omega
end
section
theorem zdm (ps:List Pk):∀ j,((newV ps).1.1.getD j ta0).2.2.2.1=0∧((newV ps).1.1.getD j ta0).2.2.2.2.1=0:=by
 intro j
 rw [zeE]
 by_cases hj:j<(prtV ps).length
 ·
  have e:((List.range (prtV ps).length).map (zcf ps)).getD j ta0=zcf ps j:=by simp [List.getD,hj]
  rw [e]
  exact ⟨rfl,rfl⟩
 ·
  rw [List.getD_eq_getElem?_getD,List.getElem?_eq_none (by simp;omega)]
  exact ⟨rfl,rfl⟩
theorem zcN (ps:List Pk):(newV ps).1.1.length≤8:=by
 rcases hb:(newV ps).2 with _ | _
 ·
  rw [zf6 hb];simp [dk0]
 ·
  have h:=zef ps
  rw [hb] at h
  exact (zau.1 h).n.2
theorem zgP (ps:List Pk):∀ p,p<(newV ps).1.1.length→∀ q,q<((newV ps).1.1.getD p ta0).2.1.length→0≤((newV ps).1.1.getD p ta0).2.1.getD q 0∧((newV ps).1.1.getD p ta0).2.1.getD q 0<(newV ps).1.1.length:=by
 rcases hb:(newV ps).2 with _ | _
 ·
  intro p hp
  rw [zf6 hb] at hp
  simp [dk0] at hp
 ·
  have h:=zef ps
  rw [hb] at h
  intro p hp
  exact ziS (zau.1 h) (p:=p) hp
theorem zdS {ts ts':List Ta} {last last':Int} {f:List UInt8} (h:zb1 ts last f=some (ts',last')) :
 (f=zaX (last+1)∧ts'=ts∧last'=last+1)∨(∃ k key,zd5 ts f k key∧ts'=ts.set k.toNat (zbR (ts.getD k.toNat ta0) key)∧last'=last):=by
 unfold zb1 at h
 split at h
 ·
  rename_i hf
  injection h with h;injection h with h1 h2
  exact Or.inl ⟨hf,h1.symm,h2.symm⟩
 ·
  split at h
  ·
   rename_i hd
   injection h with h;injection h with h1 h2
   exact Or.inr ⟨_,_,hd,h1.symm,h2.symm⟩
  ·
   cases h
theorem zaT.yes {fs:List (List UInt8)} {ts0 ts ts':List Ta} {last last':Int} {i:Nat} (h:zaT fs ts0 ts last i) (hi:i<fs.length) (h4:fs.length≤400) (h8:ts0.length≤8) (hs:zb1 ts last (fs.getD i [])=some (ts',last')):zaT fs ts0 ts' last' (i+1):=by
 have hln:=h.ag.len
 rcases zdS hs with ⟨hf,rfl,rfl⟩ | ⟨k,key,hd,rfl,rfl⟩
 ·
  exact h.start hi h4 hf
 ·
  exact h.done hi h8 hd
theorem ziI {ps:List Pk} {jr:List UInt8} {ts:List Ta} {last:Int} {i:Nat} (hg:zag (za2 jr) (newV ps).1.1 0 0=(ts,last,za1 ((za2 jr).take i))):rebD ps jr=(ts,last+1,0,zaz (za2 jr) i++zaB (last+1)):=by
 unfold rebD
 simp only [hg]
 rw [zgp]
theorem zla {ps:List Pk} {jr:List UInt8} {d:Dk} (hd:rebD ps jr=d) (hb:zay d=true):rebV ps jr=(d,true):=by
 have hn:(newV ps).2=true:=by
  rcases hn:(newV ps).2 with _ | _
  ·
   have h1:=(zdL (za2 jr) (newV ps).1.1 0 0).1
   have h2:=(zau.1 hb).n.1
   rw [←hd] at h2
   rw [zf6 hn] at h1
   have h3:(rebD ps jr).1.length=0:=by
    unfold rebD
    simp only
    rw [zf6 hn]
    exact h1
   omega
  ·
   rfl
 unfold rebV
 rw [hd,if_pos ⟨hn,hb⟩]
theorem reb_no {ps:List Pk} {jr:List UInt8} {d:Dk} (hd:rebD ps jr=d) (hb:zay d=false):rebV ps jr=(dk0,false):=by
 unfold rebV
 rw [hd,if_neg (fun h=>by rw [hb] at h;cases h.2)]
theorem reb_new {ps:List Pk} {jr:List UInt8} (hb:(newV ps).2=false):rebV ps jr=(dk0,false):=by
 unfold rebV
 rw [if_neg (fun h=>by rw [hb] at h;cases h.1)]
theorem zh6 (jr:List UInt8) (i:Nat):((za2 jr).getD i []).length≤20000:=by
 have h:=(zh5 400 jr).1
 by_cases hi:i<(za2 jr).length
 ·
  have hg:(za2 jr).getD i []=(za2 jr)[i]:=by simp [List.getD,hi]
  rw [hg]
  exact h _ (List.getElem_mem hi)
 ·
  rw [List.getD_eq_getElem?_getD,List.getElem?_eq_none (by omega)]
  simp
end

theorem zoX {d:Dk} {worker:Int}:(zct d worker).1.2=d.2∧(zct d worker).1.1.length=d.1.length:=by
 unfold zct
 split
 ·
  split
  ·
   exact ⟨rfl,by simp⟩
  ·
   exact ⟨rfl,rfl⟩
 ·
  exact ⟨rfl,rfl⟩
end Go.Proofs.YtdbljnddkbpanaaGreatDoor
