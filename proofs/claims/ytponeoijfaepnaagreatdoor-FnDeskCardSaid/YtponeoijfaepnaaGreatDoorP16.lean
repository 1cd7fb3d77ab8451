/-
  Parts of one proof, one behind the other: Math18G, RetS.
-/
import Derived.Test.YtponeoijfaepnaaGreatDoorP15
namespace Go.Proofs.YtponeoijfaepnaaGreatDoor
open Go.RowKit
set_option maxHeartbeats 8000000
set_option maxRecDepth 100000
section
theorem zhF {own:Int} {ns:List Int} (h0:0≤own) (h:∀ i,i<ns.length→zbl own ns i):(ns.length:Int)≤own:=by
 have key:∀ i,i<ns.length→(i:Int)≤ns.getD i 0:=by
  intro i
  induction i with
  | zero=>intro hi;exact (h 0 hi).1
  | succ i ih =>
   intro hi;have h1:=ih (by omega);have h2:=(h (i+1) hi).2.2 (by omega);rw [Nat.add_sub_cancel] at h2;omega
 by_cases hl:ns.length=0
 ·omega
 ·have h1:=key (ns.length-1) (by omega);have h2:=(h (ns.length-1) (by omega)).2.1;omega
theorem zed {d:Dk} (hd:zac d=true):za1 d.1:=by
 have hp:=zao.1 hd;have h8:=hp.n;intro j;by_cases hj:j<d.1.length
 ·obtain ⟨h1,h2,_⟩:=hp.one j hj;refine ⟨by have:=(zcl h1).1.2;omega,?_⟩;unfold zc1 at h2;rw [Bool.and_eq_true] at h2;unfold zcL at h2;have h3:=zhF (by omega) (of_decide_eq_true h2.1);omega
 ·rw [List.getD_eq_getElem?_getD,List.getElem?_eq_none (by omega)];simp [ta0]
theorem zjB {d:Dk} {worker:Int} (h:zac d=true):zac (zbm d worker).1=true:=by
 have:=zox (worker:=worker) h;unfold zbd at this;rw [if_pos h] at this;exact this
theorem zen {d:Dk} {k e key:Int} (h:zac d=true):zac (zbx d k e key).1=true:=by
 by_cases hc:zaA d k e key=0
 ·
  rw [zdZ hc];have hp:=zao.1 h;have h8:=hp.n;unfold zaA at hc
  split at hc
  ·cases hc
  ·
   rename_i hb
   split at hc
   ·cases hc
   ·
    rename_i hj;have hb1:¬(k<0∨(d.1.length:Int)≤k):=fun e=>hb (Or.inl e)
    have hky:zbi key=true:=by
     rcases hk:zbi key with _ | _
     ·exact absurd (Or.inr hk) hb
     ·rfl
    have hs:zcv (zbo (d.1.getD k.toNat ta0) key)=true:=by unfold zbo zcv;simp [hky]
    exact zao.2 (zmd (e:=d.2.1) (n:=d.2.2.1) (j:=d.2.2.2++zbk k key) hp (i:=k.toNat) (by omega) (t:=zbo (d.1.getD k.toNat ta0) key) rfl rfl hs hp.e hp.t (by rw [List.length_append];omega))
 ·rw [zc2 rfl hc];exact h
theorem zhr {ts:List Ta} {ep nw n:Int} {jr:List UInt8} (h:zac (ts,ep,nw,jr)=true) (hn:inB n 0 (1000000-nw)=true):zac (ts,ep,nw+n,jr)=true:=by
 have hp:=zao.1 h;have h0:=hp.t;unfold inB at hn;have hn:=of_decide_eq_true hn;simp only at h0;exact zao.2 ⟨hp.n,hp.e,by show 0≤nw+n∧nw+n≤1000000;omega,hp.j,hp.one⟩
theorem znX {ps:List Pk} {jr:List UInt8} (h:(rebV ps jr).2=true):zac (rebV ps jr).1=true:=by
 unfold rebV at h ⊢
 split
 ·rename_i hc;exact hc.2
 ·rename_i hc;rw [if_neg hc] at h;cases h
theorem zhs {n:Int} (h0:0≤n) (h1:n≤1000000):(zaV n).length≤116:=by
 rw [zeG (by omega) (by omega),zcQ];have:=zda (n:=n) (by omega) (by omega);omega
theorem zjz {k key:Int} (h0:-9223372036854775808≤k) (h1:k≤9223372036854775807) (h2:-9223372036854775808≤key) (h3:key≤9223372036854775807):(zbk k key).length≤116:=by
 have:=zcR h0 h1 h2 h3;unfold zbk;rw [zcd _ (by omega),zcQ];omega
theorem zkw {d:Dk} {k e key:Int} (h0:-9223372036854775808≤k) (h1:k≤9223372036854775807) (h2:-9223372036854775808≤key) (h3:key≤9223372036854775807):(zbx d k e key).1.2.2.2.length≤d.2.2.2.length+116:=by
 by_cases hc:zaA d k e key=0
 ·
  rw [zdZ hc];have:=zjz h0 h1 h2 h3
  show (d.2.2.2++zbk k key).length≤_
  rw [List.length_append];omega
 ·rw [zc2 rfl hc];exact Nat.le_add_right _ _
theorem reb_j {ps:List Pk} {jr:List UInt8}:(rebV ps jr).1.2.2.2.length≤jr.length+116:=by
 unfold rebV
 split
 ·
  have h:=zeB (zaa jr) (newV ps).1.1 0 0;have h4:=zgN jr
  show (rebD ps jr).2.2.2.length≤_
  unfold rebD;simp only [List.length_append,List.length_take];have:=zhs (n:=(zaW (zaa jr) (newV ps).1.1 0 0).2.1+1) (by omega) (by omega);omega
 ·exact Nat.zero_le _
theorem lent_of {d:Dk} {worker j:Int} (h:zac d=true) (hj:(zbd d worker).2=j) (h0:0≤j):∃ i:Nat,j=(i:Int)∧zdE d=some i∧inB worker 0 3=true∧(zbd d worker).1=(d.1.set i (zbT d worker (d.1.getD i ta0)),d.2)∧i<d.1.length∧zcq d i∧∀ q,q<i→¬zcq d q:=by
 unfold zbd at hj ⊢;rw [if_pos h] at hj ⊢;unfold zbm at hj ⊢
 split at hj
 ·
  rename_i hw;rw [if_pos hw];rcases hl:zdE d with _ | i
  ·rw [hl] at hj;simp only at hj;omega
  ·rw [hl] at hj;simp only at hj ⊢;obtain ⟨_,h2,h3,h4⟩:=zdx hl;exact ⟨i,hj.symm,rfl,hw,rfl,by omega,h3,fun q hq=>h4 q (Nat.zero_le _) hq⟩
 ·simp only at hj;omega
end
theorem zfi (B base:Nat) (va:Option Addr) (vc:Nat) (xs:List TV) (ts:List Ta) (ep nw:Int) (jr:List UInt8) (kk ee key:Int) (w:World) (hb4:B4 w B (.slice va ts.length vc) (.int .i64 ep) (.int .i64 nw) (.string ⟨jr.toArray⟩)) (ho:za2 w base (.slice va ts.length vc) xs) (hx:xs.map (·.1)=ts) (hap:zai (xs.map tvT)) (hne:∀ k,zan (.slice va ts.length vc) xs k→k≠B) (hbase:base≤w.heap.size) (hbB:base≤B)
 (hd:zac (ts,ep,nw,jr)=true) (hsh:za1 ts) (hk0:-9223372036854775808≤kk) (hk1:kk≤9223372036854775807) (hy0:-9223372036854775808≤key) (hy1:key≤9223372036854775807) :
 Calls Tryz.prog 47 #[.pointer (some ⟨B,0,none⟩),.int .i64 kk,.int .i64 ee,.int .i64 key] w fun e w'=>e=.returned (.int .i64 (zbx (ts,ep,nw,jr) kk ee key).2)∧∃ xs',xs'.map (·.1)=(zbx (ts,ep,nw,jr) kk ee key).1.1∧za2 w' base (.slice va ts.length vc) xs'∧zai (xs'.map tvT)∧B4 w' B (.slice va ts.length vc) (.int .i64 ep) (.int .i64 nw) (.string ⟨(zbx (ts,ep,nw,jr) kk ee key).1.2.2.2.toArray⟩)∧Below base w w'∧(∀ k,zan (.slice va ts.length vc) xs' k→zan (.slice va ts.length vc) xs k):=by
 have hP:=zao.1 hd;have hn8:=hP.n;have hj6:=hP.j;simp only at hn8 hj6;have hln:ts.length≤1048576:=by omega
 obtain ⟨g,cp,he⟩:=zaw ho.row (by rw [←hx,List.length_map] at hn8;omega);injection he with e1 e2 e3;subst e1 e3;have hxl:xs.length=ts.length:=e2.symm;have HKe:Hid (∀ Z,_):=fun Z=>zko key Z
 have HL1:Hid (∀ Z,_):=fun Z=>zkp kk Z hk0 hk1
 have HL2:Hid (∀ Z,_):=fun Z=>zkp key Z hy0 hy1
 have HLF:Hid (∀ Z,_):=fun Z=>zfH (zd8 kk key) Z (by have:=zcR hk0 hk1 hy0 hy1;omega)
 have hll:=zgE hk0 hk1 hy0 hy1;have hlr:zbH (zd8 kk key)=zbk kk key:=(zcd _ (by have:=zcR hk0 hk1 hy0 hy1;omega)).symm;rw [hlr] at HLF;have HFr:Hid (∀ (Z:World) (p:Nat),zat Z (some ⟨g,0,none⟩) ts.length ts→p<ts.length→_):=fun Z p hz hp=>zia (some ⟨g,0,none⟩) ts.length vc ts ep nw jr p Z hz hsh hln hp (ze3 hP hp)
 have HBad:Hid ((kk<0∨(ts.length:Int)≤kk)∨zbi key=false→zbx (ts,ep,nw,jr) kk ee key=((ts,ep,nw,jr),3)):=fun h=>zc2 (zgs h) (by decide)
 have HRoom:Hid (¬((kk<0∨(ts.length:Int)≤kk)∨zbi key=false)→60000<jr.length+(zbk kk key).length→zbx (ts,ep,nw,jr) kk ee key=((ts,ep,nw,jr),3)):=fun h h2=>zc2 (zlN h h2) (by decide)
 have HOld:Hid (¬((kk<0∨(ts.length:Int)≤kk)∨zbi key=false)→¬60000<jr.length+(zbk kk key).length→ee≠ep→zbx (ts,ep,nw,jr) kk ee key=((ts,ep,nw,jr),1)):=fun h h2 h3=>zc2 (zkv h h2 h3) (by decide)
 have HAgain:Hid (¬((kk<0∨(ts.length:Int)≤kk)∨zbi key=false)→¬60000<jr.length+(zbk kk key).length→ee=ep→(ts.getD kk.toNat ta0).2.2.1=2→zbx (ts,ep,nw,jr) kk ee key=((ts,ep,nw,jr),2)):=fun h h2 h3 h4=>zc2 (zje h h2 h3 h4) (by decide)
 have HOpen:Hid (¬((kk<0∨(ts.length:Int)≤kk)∨zbi key=false)→¬60000<jr.length+(zbk kk key).length→ee=ep→(ts.getD kk.toNat ta0).2.2.1≠2→zbn ts (ts.getD kk.toNat ta0)=false→zbx (ts,ep,nw,jr) kk ee key=((ts,ep,nw,jr),4)):=fun h h2 h3 h4 h5=>zc2 (ret_open h h2 h3 h4 h5) (by decide)
 have HOk:Hid (¬((kk<0∨(ts.length:Int)≤kk)∨zbi key=false)→¬60000<jr.length+(zbk kk key).length→ee=ep→(ts.getD kk.toNat ta0).2.2.1≠2→zbn ts (ts.getD kk.toNat ta0)=true→zbx (ts,ep,nw,jr) kk ee key=((ts.set kk.toNat (zbo (ts.getD kk.toNat ta0) key),ep,nw,jr++zbk kk key),0)):=fun h h2 h3 h4 h5=>zdZ (ret_ok h h2 h3 h4 h5)
 generalize zbx (ts,ep,nw,jr) kk ee key=res at HBad HRoom HOld HAgain HOpen HOk ⊢
 have HIn:Hid (∀ Z,Below w.heap.size w Z→zat Z (some ⟨g,0,none⟩) ts.length ts):=fun Z hz=>by
  obtain ⟨a7,c7,e7,hok7⟩:=(ho.below hz).ok;rw [hx,hxl] at hok7;rw [hxl] at e7;injection e7 with e7 _ _;subst e7;exact hok7.in
 have HO:Hid (∀ Z,Below w.heap.size w Z→za2 Z base (.slice (some ⟨g,0,none⟩) ts.length vc) xs):=fun Z hz=>ho.below hz
 have HBx:Hid (∀ Z,Below w.heap.size w Z→B4 Z B (.slice (some ⟨g,0,none⟩) ts.length vc) (.int .i64 ep) (.int .i64 nw) (.string ⟨jr.toArray⟩)):=fun Z hz=>hb4.below hz
 have HX:Hid (xs.map (·.1)=ts∧zai (xs.map tvT)∧xs.length=ts.length):=⟨hx,hap,hxl⟩;have HgB:Hid (g≠B∧base≤g∧base≤w.heap.size∧base≤B):=⟨hne g (Or.inl rfl),(ho.row.lt g rfl).1,hbase,hbB⟩;have HNe:Hid (∀ k,zan (.slice (some ⟨g,0,none⟩) ts.length vc) xs k→k≠B):=hne
 have HSame:Hid (∀ Z c,Below w.heap.size w Z→res=((ts,ep,nw,jr),c)→(∃ xs',xs'.map (·.1)=res.1.1∧za2 Z base (.slice (some ⟨g,0,none⟩) ts.length vc) xs'∧zai (xs'.map tvT)∧B4 Z B (.slice (some ⟨g,0,none⟩) ts.length vc) (.int .i64 ep) (.int .i64 nw) (.string ⟨res.1.2.2.2.toArray⟩)∧Below base w Z∧(∀ k,zan (.slice (some ⟨g,0,none⟩) ts.length vc) xs' k→zan (.slice (some ⟨g,0,none⟩) ts.length vc) xs k))):=fun Z c hz hr=>by
  rw [hr];exact ⟨xs,hx,ho.below hz,hap,hb4.below hz,hz.mono hbase,fun k h=>h⟩
 have HBf:Hid (Below w.heap.size w w):=Below.refl _ _;have bB:=hb4;have b0:=bB.c0;have b1:=bB.c1;have b3:=bB.c3;clear hb4 ho hx hap hne hbase hd hsh hP hxl e2 hlr bB hbB;by_cases hkn:kk<0
 ·
  have HR:Hid (_):=HBad.out (Or.inl (Or.inl hkn));clear HRoom HOld HAgain HOpen HOk HFr
  go_enter Tryz.func47,Tryz.ntmps47
  go_wp2;go_ret;exact ⟨by rw [HR.out];rfl,HSame.out _ _ HBf.out HR.out⟩
 by_cases hkl:(ts.length:Int)≤kk
 ·
  have HR:Hid (_):=HBad.out (Or.inl (Or.inr hkl));clear HRoom HOld HAgain HOpen HOk HFr
  go_enter Tryz.func47,Tryz.ntmps47
  go_wp2;go_ret;exact ⟨by rw [HR.out];rfl,HSame.out _ _ HBf.out HR.out⟩
 obtain ⟨i,rfl⟩:∃ i:Nat,kk=(i:Int):=⟨kk.toNat,by omega⟩
 have hi2:i<ts.length:=by omega
 rw [Int.toNat_natCast] at HAgain HOpen HOk;generalize hky:zbi key=ky at HKe HBad HRoom HOld HAgain HOpen HOk;rcases ky with _ | _
 ·
  have HR:Hid (_):=HBad.out (Or.inr rfl);clear HRoom HOld HAgain HOpen HOk HFr
  go_enter Tryz.func47,Tryz.ntmps47
  go_wp2_with (go_at_call 77;refine Calls.mono (HKe.out _) ?_;rintro e wn ⟨rfl,rfl⟩)
  go_ret;exact ⟨by rw [HR.out];rfl,HSame.out _ _ HBf.out HR.out⟩
 have hnb:¬(((i:Int)<0∨(ts.length:Int)≤(i:Int))∨true=false):=by simp;omega
 have HRoom1:Hid (_):=HRoom.out hnb;have HOld1:Hid (_):=HOld.out hnb;have HAgain1:Hid (_):=HAgain.out hnb;have HOpen1:Hid (_):=HOpen.out hnb;have HOk1:Hid (_):=HOk.out hnb;have hcat:=zc7;have hi1:=zcF hk0 hk1;have hi2':=zcF hy0 hy1;have HDT:Hid (zd8 (i:Int) key=100 :: 111 :: 110 :: 101 :: 32 :: (intL (i:Int)++32 :: intL key)):=by exact (by unfold zd8;simp:zd8 (i:Int) key=100 :: 111 :: 110 :: 101 :: 32 :: (intL (i:Int)++32 :: intL key))
 have hd5:(⟨#[100,111,110,101,32]⟩:ByteArray)=⟨([100,111,110,101,32]:List UInt8).toArray⟩:=rfl;have hd1:(⟨#[32]⟩:ByteArray)=⟨([32]:List UInt8).toArray⟩:=rfl;generalize zbk (i:Int) key=ln at HLF hll HRoom1 HOld1 HAgain1 HOpen1 HOk1;rw [HDT.out] at HLF;have hkd0:decide ((i:Int)<0)=false:=decide_eq_false (by omega);have hkd1:decide (ts.length≤i)=false:=decide_eq_false (by omega);clear HBad HRoom HOld HAgain HOpen HOk hky hnb HDT hkn hkl;have HX1:Hid (_):=zes HX.out.1 (i:=i) (by have:=HX.out.2.2;omega);have hix:i<xs.length:=by have:=HX.out.2.2;omega
 have hgx:xs.getD i tv0=xs[i]:=by simp [List.getD,hix]
 have HT:Hid (_):=zdp xs i hix;rw [hgx] at HT;obtain ⟨tv,htv⟩:∃ tv,xs[i]=tv:=⟨_,rfl⟩
 rw [htv] at HT HX1;have HTV:Hid (∃ h:i<xs.length,xs[i]=tv):=⟨hix,htv⟩;obtain ⟨⟨nm,ns,st,wk,un,ke⟩,na,nc⟩:=tv;simp only [tvT] at HT;simp only at HX1;have HXi:Hid ((nm,ns,st,wk,un,ke)=ts.getD i ta0):=HX1.out
 have HRow:Hid (∀ Z,Below w.heap.size w Z→Z.ownsRow base 42 6 (.slice (some ⟨g,0,none⟩) ts.length vc) ts.length (tksV xs)):=fun Z hz=>by
  have h:=(HO.out Z hz).row;rw [HX.out.2.2] at h;exact h
 have HCe:Hid (∀ Z,Below w.heap.size w Z→Z.cell? ⟨g,i*6,none⟩=some (.string ⟨nm.toArray⟩)∧Z.cell? ⟨g,i*6+1,none⟩=some (.slice na ns.length nc)∧Z.cell? ⟨g,i*6+2,none⟩=some (.int .i64 st)∧Z.cell? ⟨g,i*6+3,none⟩=some (.int .i64 wk)∧Z.cell? ⟨g,i*6+4,none⟩=some (.int .i64 un)∧Z.cell? ⟨g,i*6+5,none⟩=some (.int .i64 ke)):=fun Z hz=>by
  obtain ⟨v0,v1,v2,v3,v4,v5⟩:=HT.out;have hr:=HRow.out Z hz;exact ⟨(hr.cellAt _ (by omega)).trans v0,(hr.cellAt _ (by omega)).trans v1,(hr.cellAt _ (by omega)).trans v2,(hr.cellAt _ (by omega)).trans v3,(hr.cellAt _ (by omega)).trans v4,(hr.cellAt _ (by omega)).trans v5⟩
 rw [←HXi.out] at HAgain1 HOpen1 HOk1;simp only at HAgain1 HOpen1 HOk1;have HFr1:Hid (∀ Z,Below w.heap.size w Z→_):=fun Z hz=>HFr.out Z i (HIn.out Z hz) hi2
 rw [←HXi.out] at HFr1;generalize zbn ts (nm,ns,st,wk,un,ke)=fr at HFr1 HOpen1 HOk1;clear HX1 hgx htv hix HFr;by_cases hrm:60000<jr.length+ln.length
 ·
  have HR:Hid (_):=HRoom1.out hrm;have hri:(60000:Int)<(jr.length:Int)+(ln.length:Int):=by omega
  clear HRoom1 HOld1 HAgain1 HOpen1 HOk1 HFr1
  go_enter Tryz.func47,Tryz.ntmps47
  go_wp2_with (go_at_call 77;refine Calls.mono (HKe.out _) ?_;rintro e wn ⟨rfl,hwn⟩;obtain rfl:=hwn.symm;clear hwn)
  refine Calls.mono (HL1.out _) ?_;rintro e w1 ⟨rfl,hb1⟩;have HB1:Hid (Below w.heap.size w w1):=hb1;clear hb1;go_wp2_with fail
  refine Calls.mono (HL2.out _) ?_;rintro e w2 ⟨rfl,hb2⟩;have HB2:Hid (Below w.heap.size w w2):=HB1.out.trans (hb2.mono HB1.out.size);clear hb2;go_wp2_with fail
  refine Calls.mono (HLF.out _) ?_;rintro e w3 ⟨rfl,hb3⟩;have HB3:Hid (Below w.heap.size w w3):=HB2.out.trans (hb3.mono HB2.out.size);clear hb3 b0 b1 b3;have b0:=(HBx.out w3 HB3.out).c0;have b1:=(HBx.out w3 HB3.out).c1;have b2:=(HBx.out w3 HB3.out).c2;have b3:=(HBx.out w3 HB3.out).c3;obtain ⟨c0,c1,c2,c3,c4,c5⟩:=HCe.out w3 HB3.out;go_wp2;go_ret;exact ⟨by rw [HR.out];rfl,HSame.out _ _ HB3.out HR.out⟩
 have hri:(jr.length:Int)+(ln.length:Int)≤60000:=by omega
 have HOld2:Hid (_):=HOld1.out hrm;have HAgain2:Hid (_):=HAgain1.out hrm;have HOpen2:Hid (_):=HOpen1.out hrm;have HOk2:Hid (_):=HOk1.out hrm;clear HRoom1 HOld1 HAgain1 HOpen1 HOk1 hrm;by_cases hee:ee=ep
 rotate_left
 ·
  have HR:Hid (_):=HOld2.out hee;have heb:(ee !=ep)=true:=by simp [hee]
  clear HOld2 HAgain2 HOpen2 HOk2 HFr1
  go_enter Tryz.func47,Tryz.ntmps47
  go_wp2_with (go_at_call 77;refine Calls.mono (HKe.out _) ?_;rintro e wn ⟨rfl,hwn⟩;obtain rfl:=hwn.symm;clear hwn)
  refine Calls.mono (HL1.out _) ?_;rintro e w1 ⟨rfl,hb1⟩;have HB1:Hid (Below w.heap.size w w1):=hb1;clear hb1;go_wp2_with fail
  refine Calls.mono (HL2.out _) ?_;rintro e w2 ⟨rfl,hb2⟩;have HB2:Hid (Below w.heap.size w w2):=HB1.out.trans (hb2.mono HB1.out.size);clear hb2;go_wp2_with fail
  refine Calls.mono (HLF.out _) ?_;rintro e w3 ⟨rfl,hb3⟩;have HB3:Hid (Below w.heap.size w w3):=HB2.out.trans (hb3.mono HB2.out.size);clear hb3 b0 b1 b3;have b0:=(HBx.out w3 HB3.out).c0;have b1:=(HBx.out w3 HB3.out).c1;have b2:=(HBx.out w3 HB3.out).c2;have b3:=(HBx.out w3 HB3.out).c3;obtain ⟨c0,c1,c2,c3,c4,c5⟩:=HCe.out w3 HB3.out;go_wp2;go_ret;exact ⟨by rw [HR.out];rfl,HSame.out _ _ HB3.out HR.out⟩
 subst hee;have heb:(ee !=ee)=false:=by simp
 by_cases h2:st=2
 ·
  have HR:Hid (_):=HAgain2.out rfl h2;clear HOld2 HAgain2 HOpen2 HOk2 HFr1;subst h2
  go_enter Tryz.func47,Tryz.ntmps47
  go_wp2_with (go_at_call 77;refine Calls.mono (HKe.out _) ?_;rintro e wn ⟨rfl,hwn⟩;obtain rfl:=hwn.symm;clear hwn)
  refine Calls.mono (HL1.out _) ?_;rintro e w1 ⟨rfl,hb1⟩;have HB1:Hid (Below w.heap.size w w1):=hb1;clear hb1;go_wp2_with fail
  refine Calls.mono (HL2.out _) ?_;rintro e w2 ⟨rfl,hb2⟩;have HB2:Hid (Below w.heap.size w w2):=HB1.out.trans (hb2.mono HB1.out.size);clear hb2;go_wp2_with fail
  refine Calls.mono (HLF.out _) ?_;rintro e w3 ⟨rfl,hb3⟩;have HB3:Hid (Below w.heap.size w w3):=HB2.out.trans (hb3.mono HB2.out.size);clear hb3 b0 b1 b3;have b0:=(HBx.out w3 HB3.out).c0;have b1:=(HBx.out w3 HB3.out).c1;have b2:=(HBx.out w3 HB3.out).c2;have b3:=(HBx.out w3 HB3.out).c3;obtain ⟨c0,c1,c2,c3,c4,c5⟩:=HCe.out w3 HB3.out;go_wp2;go_ret;exact ⟨by rw [HR.out];rfl,HSame.out _ _ HB3.out HR.out⟩
 have h2b:(st==2)=false:=beq_eq_false_iff_ne.2 h2;rcases fr with _ | _
 ·
  have HR:Hid (_):=HOpen2.out rfl h2 rfl;clear HOld2 HAgain2 HOpen2 HOk2
  go_enter Tryz.func47,Tryz.ntmps47
  go_wp2_with (go_at_call 77;refine Calls.mono (HKe.out _) ?_;rintro e wn ⟨rfl,hwn⟩;obtain rfl:=hwn.symm;clear hwn)
  refine Calls.mono (HL1.out _) ?_;rintro e w1 ⟨rfl,hb1⟩;have HB1:Hid (Below w.heap.size w w1):=hb1;clear hb1;go_wp2_with fail
  refine Calls.mono (HL2.out _) ?_;rintro e w2 ⟨rfl,hb2⟩;have HB2:Hid (Below w.heap.size w w2):=HB1.out.trans (hb2.mono HB1.out.size);clear hb2;go_wp2_with fail
  refine Calls.mono (HLF.out _) ?_;rintro e w3 ⟨rfl,hb3⟩;have HB3:Hid (Below w.heap.size w w3):=HB2.out.trans (hb3.mono HB2.out.size);clear hb3 b0 b1 b3;have b0:=(HBx.out w3 HB3.out).c0;have b1:=(HBx.out w3 HB3.out).c1;have b2:=(HBx.out w3 HB3.out).c2;have b3:=(HBx.out w3 HB3.out).c3;obtain ⟨c0,c1,c2,c3,c4,c5⟩:=HCe.out w3 HB3.out;go_wp2_with fail
  refine Calls.mono (HFr1.out _ HB3.out) ?_;rintro e w4 ⟨rfl,hb4⟩;have HB4:Hid (Below w.heap.size w w4):=HB3.out.trans (hb4.mono HB3.out.size);clear hb4 b0 b1 b2 b3 c0 c1 c2 c3 c4 c5;have b0:=(HBx.out w4 HB4.out).c0;have b1:=(HBx.out w4 HB4.out).c1;have b2:=(HBx.out w4 HB4.out).c2;have b3:=(HBx.out w4 HB4.out).c3;obtain ⟨c0,c1,c2,c3,c4,c5⟩:=HCe.out w4 HB4.out;go_wp2;go_ret;exact ⟨by rw [HR.out];rfl,HSame.out _ _ HB4.out HR.out⟩
 have HR:Hid (_):=HOk2.out rfl h2 rfl;clear HOld2 HAgain2 HOpen2 HOk2
 go_enter Tryz.func47,Tryz.ntmps47
 go_wp2_with (go_at_call 77;refine Calls.mono (HKe.out _) ?_;rintro e wn ⟨rfl,hwn⟩;obtain rfl:=hwn.symm;clear hwn)
 refine Calls.mono (HL1.out _) ?_;rintro e w1 ⟨rfl,hb1⟩;have HB1:Hid (Below w.heap.size w w1):=hb1;clear hb1;go_wp2_with fail
 refine Calls.mono (HL2.out _) ?_;rintro e w2 ⟨rfl,hb2⟩;have HB2:Hid (Below w.heap.size w w2):=HB1.out.trans (hb2.mono HB1.out.size);clear hb2;go_wp2_with fail
 refine Calls.mono (HLF.out _) ?_;rintro e w3 ⟨rfl,hb3⟩;have HB3:Hid (Below w.heap.size w w3):=HB2.out.trans (hb3.mono HB2.out.size);clear hb3 b0 b1 b3;have b0:=(HBx.out w3 HB3.out).c0;have b1:=(HBx.out w3 HB3.out).c1;have b2:=(HBx.out w3 HB3.out).c2;have b3:=(HBx.out w3 HB3.out).c3;obtain ⟨c0,c1,c2,c3,c4,c5⟩:=HCe.out w3 HB3.out;go_wp2_with fail
 refine Calls.mono (HFr1.out _ HB3.out) ?_;rintro e w4 ⟨rfl,hb4⟩;have HB4:Hid (Below w.heap.size w w4):=HB3.out.trans (hb4.mono HB3.out.size);clear hb4 b0 b1 b2 b3 c0 c1 c2 c3 c4 c5;have b0:=(HBx.out w4 HB4.out).c0;have b1:=(HBx.out w4 HB4.out).c1;have b2:=(HBx.out w4 HB4.out).c2;have b3:=(HBx.out w4 HB4.out).c3;obtain ⟨c0,c1,c2,c3,c4,c5⟩:=HCe.out w4 HB4.out;go_wp2;refine Till.region (S:=(fun Z=>Z.cell? ⟨B,0,none⟩=some (.slice (some ⟨g,0,none⟩) ts.length vc)∧Z.cell? ⟨B,1,none⟩=some (.int .i64 ee)∧Z.cell? ⟨B,2,none⟩=some (.int .i64 nw)∧Z.cell? ⟨B,3,none⟩=some (.string ⟨jr.toArray⟩)∧Z.cell? ⟨g,i*6,none⟩=some (.string ⟨nm.toArray⟩)∧Z.cell? ⟨g,i*6+1,none⟩=some (.slice na ns.length nc)∧Z.cell? ⟨g,i*6+2,none⟩=some (.int .i64 st)∧Z.cell? ⟨g,i*6+3,none⟩=some (.int .i64 wk)∧Z.cell? ⟨g,i*6+4,none⟩=some (.int .i64 un)∧Z.cell? ⟨g,i*6+5,none⟩=some (.int .i64 ke))) (E:=[12]) (by kernel_rfl) ?_ (fun hHeld hSh=>?_)
 ·exact ⟨b0,b1,b2,b3,c0,c1,c2,c3,c4,c5⟩
 refine tkO [(0,71),(1,72),(2,73),(3,74),(4,75),(5,76),(6,77),(7,78),(8,79),(9,80),(10,81),(11,82)] ?_
 repeat (refine tlY ?_ rfl (by rfl) ?_ (fun hSh2=>?_);rotate_left;(focus (intro wq hSw;(try dsimp only at hSw);first | (go_simp;done) | (go_simp;with_reducible rfl)));clear hSh;rename zaI _ _ _=>hSh;simp only [zP])
 refine tkZ ?_;have hr0:=HRow.out w4 HB4.out;have e0:=hr0.frozenAt (i*6);have hs0:=hr0.stored (i*6) (.string ⟨nm.toArray⟩);have e1:=hr0.frozenAt (i*6+1);have hs1:=hs0.1.stored (i*6+1) (.slice na ns.length nc);have e2:=hr0.frozenAt (i*6+2);have hs2:=hs1.1.stored (i*6+2) (.int .i64 2);have e3:=hr0.frozenAt (i*6+3);have hs3:=hs2.1.stored (i*6+3) (.int .i64 0);have e4:=hr0.frozenAt (i*6+4);have hs4:=hs3.1.stored (i*6+4) (.int .i64 0);have e5:=hr0.frozenAt (i*6+5);have hs5:=hs4.1.stored (i*6+5) (.int .i64 key);obtain ⟨V0,hV⟩:∃ V,((((((w4.setCell ⟨g,i*6,none⟩ (.string ⟨nm.toArray⟩)).setCell ⟨g,i*6+1,none⟩ (.slice na ns.length nc)).setCell ⟨g,i*6+2,none⟩ (.int .i64 2)).setCell ⟨g,i*6+3,none⟩ (.int .i64 0)).setCell ⟨g,i*6+4,none⟩ (.int .i64 0)).setCell ⟨g,i*6+5,none⟩ (.int .i64 key))=V:=⟨_,rfl⟩
 have hgV:w4.grownBy V0 (some g):=by rw [←hV];exact ((((hs0.2.trans hs1.2).trans hs2.2).trans hs3.2).trans hs4.2).trans hs5.2
 have hrV:=hs5.1;have hset:=zi8 xs i ((nm,ns,2,0,0,key),na,nc);simp only [tvT] at hset;rw [hset,hV] at hrV;have bQ0:=(HBx.out w4 HB4.out).grown hgV (by intro e;injection e with e;exact HgB.out.1 e);have hb0:Below base w V0:=(HB4.out.mono HgB.out.2.2.1).grown hgV (Nat.le_trans HgB.out.2.2.1 HB4.out.size) (fun k e=>by injection e with e;have:=HgB.out.2.1;omega);obtain ⟨V,hVd⟩:∃ V,V0.drew=V:=⟨_,rfl⟩
 have hdr:Below V0.heap.size V0 V:=by rw [←hVd];exact ⟨rfl,rfl,rfl,Nat.le_refl _,fun _ _=>rfl⟩
 have bQV:=bQ0.below hdr;have HBV:Hid (Below base w V):=hb0.trans (hdr.mono (Nat.le_trans HgB.out.2.2.1 hb0.size))
 have HOV:Hid (∃ h:i<xs.length,za2 V base (.slice (some ⟨g,0,none⟩) ts.length vc) (xs.set i ((nm,ns,2,0,0,key),na,nc))∧zai ((xs.set i ((nm,ns,2,0,0,key),na,nc)).map tvT)):=by obtain ⟨h,e⟩:=HTV.out;exact ⟨h,((HO.out _ HB4.out).put h _ hgV (by rw [HX.out.2.2];exact hrV) (by rw [e]) (by rw [e])).below hdr,zdn h _ (by rw [e]) (by rw [e]) HX.out.2.1⟩
 have p3:=bQV.c3;have pf3:=bQV.fr 3;have HBQ:Hid (B4 V B (.slice (some ⟨g,0,none⟩) ts.length vc) (.int .i64 ee) (.int .i64 nw) (.string ⟨jr.toArray⟩)):=bQV;clear hs0 hs1 hs2 hs3 hs4 hs5 hr0 hrV hset bQV hgV bQ0 hb0 hdr;refine Till.last (i:=12) (by kernel_rfl) rfl (by decide) (fun K hK=>?_);go_simp;refine hK.out _ _ ?_;clear hK K
 (try rw [hV])
 (try rw [hVd])
 refine Till.done (by kernel_rfl) ?_ _;go_wp2;go_ret;rw [HR.out];obtain ⟨hix,hoV,hapV⟩:=HOV.out;have hgF:=zae V B 3 (.string ⟨(jr++ln).toArray⟩)
 have hoff:∀ k,zan (.slice (some ⟨g,0,none⟩) ts.length vc) (xs.set i ((nm,ns,2,0,0,key),na,nc)) k→zan (.slice (some ⟨g,0,none⟩) ts.length vc) xs k:=by
  rintro k (e | ⟨y,hy,e⟩)
  ·exact Or.inl e
  ·
   rcases List.mem_or_eq_of_mem_set hy with h | h
   ·exact Or.inr ⟨y,h,e⟩
   ·subst h;obtain ⟨h1,h2⟩:=HTV.out;exact Or.inr ⟨xs[i],List.getElem_mem h1,by rw [h2];exact e⟩
 have hoW:=hoV.kept hgF (by
  rcases h:(Value.slice (some ⟨g,0,none⟩) ts.length vc).ownBlock with _ | k
  ·exact Or.inl rfl
  ·exact Or.inr (fun e=>by injection e with e;exact HNe.out k (Or.inl h) e)) (fun x hx=>by
  rcases h:(tvT x).ownBlock with _ | k
  ·exact Or.inl rfl
  ·exact Or.inr (fun e=>by injection e with e;exact HNe.out k (hoff k (Or.inr ⟨x,hx,h⟩)) e))
 refine ⟨rfl,_,?_,hoW,hapV,HBQ.out.s3 _,HBV.out.grown hgF (by have:=HBV.out.size;have:=HgB.out.2.2.1;omega) (fun k e=>by injection e with e;have:=HgB.out.2.2.2;omega),hoff⟩;rw [List.map_set,HX.out.1]
 show ts.set i _=ts.set i _
 congr 1
end Go.Proofs.YtponeoijfaepnaaGreatDoor
