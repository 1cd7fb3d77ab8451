/-
  Parts of one proof, one behind the other: RebS, FramesS.
-/
import Derived.Test.YtponeoijfaepnaaGreatDoorP16
namespace Go.Proofs.YtponeoijfaepnaaGreatDoor
open Go.RowKit
set_option maxHeartbeats 16000000
set_option maxRecDepth 100000
structure B1 (X:World) (b:Nat) (u:Value):Prop where
 c:X.cell? ⟨b,0,none⟩=some u
 f:X.frozen? ⟨b,0,none⟩=false
theorem B1.lt {X:World} {b:Nat} {u:Value} (h:B1 X b u):b<X.heap.size:=World.block_lt_of_cell? X ⟨b,0,none⟩ h.c
theorem B1.keep {X Y:World} {b:Nat} {u:Value} (h:B1 X b u) (hb:Y.heap[b]?=X.heap[b]?):B1 Y b u:=⟨(World.cell?_of_block (a:=⟨b,0,none⟩) hb).trans h.c,by have:=h.f;simp only [World.frozen?,hb] at this ⊢;exact this⟩
theorem B1.below {X Y:World} {b:Nat} {u:Value} (h:B1 X b u) (hb:Below X.heap.size X Y):B1 Y b u:=h.keep (hb.block b h.lt)
theorem B1.grown {X Y:World} {b:Nat} {u:Value} {row:Option Nat} (h:B1 X b u) (hg:X.grownBy Y row) (hne:some b≠row):B1 Y b u:=h.keep (hg.block b h.lt hne)
theorem B1.set {X:World} {b:Nat} {u:Value} (h:B1 X b u) (v:Value):B1 (X.setCell ⟨b,0,none⟩ v) b v:=⟨World.cell?_setCell_same _ _ _ h.c,by simpa using h.f⟩
theorem B1.new (X:World) (u:Value) (t:TypeId):B1 (X.alloc (.cells #[u] t)) X.heap.size u:=by
 have hA:=heap_alloc_new X (.cells #[u] t);exact ⟨by rw [cell_of_row _ _ _ _ _ _ hA];rfl,frozen_of_row _ _ _ _ _ hA⟩
theorem zmp (xs:List TV) (j:Nat) (hj:j<xs.length) (a b:Int):((tksV xs).set (j*6+2) (.int .i64 a)).set (j*6+5) (.int .i64 b)=tksV (xs.set j ((xs[j].1.1,xs[j].1.2.1,a,xs[j].1.2.2.2.1,xs[j].1.2.2.2.2.1,b),xs[j].2)):=by
 induction xs generalizing j with
 | nil=>simp at hj
 | cons x r ih =>
  cases j with
  | zero=>simp [tksV,tvT]
  | succ j =>
   have:=ih j (by simpa using hj);rw [show (j+1)*6=j*6+1+1+1+1+1+1 by omega];simp only [tksV,Nat.add_right_comm _ 1 2,zC,List.getElem_cons_succ];rw [this]
theorem znT (B G base:Nat) (va:Option Addr) (vc n:Nat) (xs:List TV) (ts:List Ta) (ep0:Int) (jr0 f:List UInt8) (last:Int) (w:World) (hn:ts.length=n) (hb4:B4 w B (.slice va n vc) (.int .i64 ep0) (.int .i64 0) (.string ⟨jr0.toArray⟩)) (hb1:B1 w G (.int .i64 last)) (ho:za2 w base (.slice va n vc) xs) (hx:xs.map (·.1)=ts) (hap:zai (xs.map tvT)) (hne:∀ k,zan (.slice va n vc) xs k→k≠B∧k≠G) (hGB:G≠B) (hbase:base≤w.heap.size)
 (h8:n≤8) (hsh:za1 ts) (hnd:∀ p,p<ts.length→∀ q,q<(ts.getD p ta0).2.1.length→0≤(ts.getD p ta0).2.1.getD q 0∧(ts.getD p ta0).2.1.getD q 0<ts.length) (hid:∀ j,(ts.getD j ta0).2.2.2.1=0∧(ts.getD j ta0).2.2.2.2.1=0) (h0:0≤last) (h1:last≤1000) (hf:f.length≤20000) :
 Calls Tryz.prog 108 #[.pointer (some ⟨B,0,none⟩),.pointer (some ⟨G,0,none⟩),.string ⟨f.toArray⟩] w fun e w'=>(∃ ts' last',zbz ts last f=some (ts',last')∧e=.returned (.bool true)∧∃ xs',xs'.map (·.1)=ts'∧za2 w' base (.slice va n vc) xs'∧zai (xs'.map tvT)∧B1 w' G (.int .i64 last')∧zb2 w w' (fun k=>(Value.slice va n vc).ownBlock=some k∨k=G)∧(∀ k,zan (.slice va n vc) xs' k→zan (.slice va n vc) xs k))∨(zbz ts last f=none∧e=.returned (.bool false)∧Below w.heap.size w w'):=by
 subst hn;have HSp:Hid (_):=znM f 32 32 w rfl (by omega);have HWl:Hid (∀ j,((zaq 32 f).getD j []).length≤1048576):=fun j=>Nat.le_trans (zkm 32 f j) (by omega)
 have HW1:Hid (1≤(zaq 32 f).length∧(zaq 32 f).length≤20001):=⟨zmy 32 f,Nat.le_trans (zj3 32 f) (by omega)⟩;have HNo:Hid (zef ts last (zaq 32 f)→zbz ts last f=none):=fun h=>znq rfl h8 h0 h1 h
 have HStart:Hid ((zaq 32 f).length=2→(zaq 32 f).getD 0 []=zcJ→zaX ((zaq 32 f).getD 1 [])=true→zaC ((zaq 32 f).getD 1 [])=last+1→zbz ts last f=some (ts,last+1)):=fun e1 e2 e3 e4=>zfF (zlt rfl e1 e2 e3 h0 h1 e4)
 have HDone:Hid (∀ (k:Nat) (key:Int),(zaq 32 f).length=3→(zaq 32 f).getD 0 []=zeh→zaX ((zaq 32 f).getD 1 [])=true→zaX ((zaq 32 f).getD 2 [])=true→zaC ((zaq 32 f).getD 1 [])=(k:Int)→zaC ((zaq 32 f).getD 2 [])=key→k<ts.length→zbi key=true→(ts.getD k ta0).2.2.1≠2→zbn ts (ts.getD k ta0)=true→zbz ts last f=some (ts.set k (zbo (ts.getD k ta0) key),last)):=fun k key e1 e2 e3 e4 e5 e6 e7 e8 e9 e10=>by
  have h:=zgm (last:=last) h8 (znr (k:=(k:Int)) (key:=key) rfl e1 e2 e3 e4 e5 e6 ⟨by omega,by omega⟩ h8 e8 (by rw [Int.toNat_natCast];exact e9) (by rw [Int.toNat_natCast];exact e10));rw [Int.toNat_natCast] at h;exact h
 generalize zaq 32 f=ws at HSp HWl HW1 HNo HStart HDone;generalize zbz ts last f=res at HNo HStart HDone ⊢;have HRd:Hid (∀ j Z,_):=fun j Z=>specRead (ws.getD j []) Z (HWl.out j)
 have HRb:Hid (∀ j,_):=fun j=>readV_bd (ws.getD j [])
 have HKe:Hid (∀ t Z,_):=fun t Z=>zko t Z
 have HIn:Hid (∀ Z,Below w.heap.size w Z→zat Z va ts.length ts):=fun Z hz=>by
  obtain ⟨a7,c7,e7,hok7⟩:=(ho.below hz).ok;have hxl:xs.length=ts.length:=by rw [←hx,List.length_map]
  rw [hx,hxl] at hok7;rw [hxl] at e7;injection e7 with e7 _ _;subst e7;exact hok7.in
 have HFr:Hid (∀ (Z:World) (p:Nat),Below w.heap.size w Z→p<ts.length→_):=fun Z p hz hp=>zia va ts.length vc ts ep0 0 jr0 p Z (HIn.out Z hz) hsh (by omega) hp (hnd p hp)
 have HO:Hid (∀ Z,Below w.heap.size w Z→za2 Z base (.slice va ts.length vc) xs):=fun Z hz=>ho.below hz
 have HBx:Hid (∀ Z,Below w.heap.size w Z→B4 Z B (.slice va ts.length vc) (.int .i64 ep0) (.int .i64 0) (.string ⟨jr0.toArray⟩)):=fun Z hz=>hb4.below hz
 have HGx:Hid (∀ Z,Below w.heap.size w Z→B1 Z G (.int .i64 last)):=fun Z hz=>hb1.below hz
 have HX:Hid (xs.map (·.1)=ts∧zai (xs.map tvT)∧xs.length=ts.length):=⟨hx,hap,by rw [←hx,List.length_map]⟩;have HNe:Hid (∀ k,zan (.slice va ts.length vc) xs k→k≠B∧k≠G):=hne;have HId:Hid (∀ j,(ts.getD j ta0).2.2.2.1=0∧(ts.getD j ta0).2.2.2.2.1=0):=hid;have HSz:Hid (base≤w.heap.size∧G<w.heap.size∧B<w.heap.size∧G≠B):=⟨hbase,hb1.lt,hb4.lt,hGB⟩;have hwb:ws.length≤1048576:=Nat.le_trans HW1.out.2 (by omega);have hl0:=h0;have hl1:=h1;have hwi:IntKind.i64.wrap (last+1)=last+1:=by rw [IntKind.wrap_i64];omega
 clear hb4 hb1 ho hx hap hne hGB hbase hsh hnd hid h0 h1 hf
 go_enter Tryz.func108,Tryz.ntmps108
 go_wp2_with fail
 refine Calls.mono HSp.out ?_;rintro e w1 ⟨wg,wc,rfl,how,hb1⟩;have HB1:Hid (Below w.heap.size w w1):=hb1;have HOw:Hid (w1.ownsRow w.heap.size 9 1 (.slice (some ⟨wg,0,none⟩) ws.length wc) ws.length (strV ws)):=how;have HR0:Hid ((w1.alloc (.cells #[] 2)).ownsRow w1.heap.size 2 1 (.slice (some ⟨w1.heap.size,0,none⟩) (zcK ws 0).length 0) (zcK ws 0).length (zaY (zcK ws 0))):=World.ownsRow_lit (base:=w1.heap.size) (e:=2) (size:=1) w1 #[] 0 (Nat.le_refl _) (by decide) rfl;have hb2:Below w1.heap.size w1 (w1.alloc (.cells #[] 2)):=(Below.refl _ _).alloc (Nat.le_refl _) _;have HBa:Hid (Below w.heap.size w (w1.alloc (.cells #[] 2))):=hb1.trans (hb2.mono hb1.size);have HOa:Hid ((w1.alloc (.cells #[] 2)).ownsRow w.heap.size 9 1 (.slice (some ⟨wg,0,none⟩) ws.length wc) ws.length (strV ws)):=za5 how hb2;have HS1:Hid (w1.heap.size≤(w1.alloc (.cells #[] 2)).heap.size):=hb2.size;have HA0:Hid (∀ j,1≤j→j≤0→zaX (ws.getD j [])=true):=fun j h1 h2=>by omega
 clear how hb1 hb2 HSp;go_wp2
 go_loopw [8,9] (fun nv iv wr=>∃ (m k:Nat) (na:Option Addr) (nc:Nat),nv=.slice na (zcK ws m).length nc∧iv=.int .i64 (k:Int)∧Hid (k=m+1)∧k≤ws.length∧Hid (∀ j,1≤j→j≤m→zaX (ws.getD j [])=true)∧Hid (wr.ownsRow w1.heap.size 2 1 (.slice na (zcK ws m).length nc) (zcK ws m).length (zaY (zcK ws m)))∧Hid (wr.ownsRow w.heap.size 9 1 (.slice (some ⟨wg,0,none⟩) ws.length wc) ws.length (strV ws))∧Hid (w1.heap.size≤wr.heap.size)∧Hid (Below w.heap.size w wr)) (fun _ iv _=>ws.length+1-(intOf iv).toNat)
 case atStart=>exact ⟨0,1,_,0,rfl,rfl,(rfl:(1:Nat)=0+1),HW1.out.1,HA0,HR0,HOa,HS1,HBa⟩
 case round =>
  obtain ⟨m,k,na,nc,rfl,rfl,HK,hkl,HAl,HR,HO2,HS,HB⟩:=hrel;clear HA0 HR0 HOa HBa HS1;obtain ⟨X0,hX0⟩:∃ X0,X0=wr:=⟨_,rfl⟩
  subst hX0;by_cases hlt:(k:Int)<(ws.length:Int)
  ·
   have hm2:m+1<ws.length:=by have:=HK.out;omega
   obtain ⟨_,a5,c5,e5,hWin⟩:=zaP HO2.out;injection e5 with e5 _ e6;subst e5;subst e6;obtain ⟨fb,fo,e7,hfl,d0⟩:=hWin.2 k (by omega);injection e7 with e7;injection e7 with e8 e9 _;subst e8;subst e9;have hkm:ws.getD k []=ws.getD (m+1) []:=by rw [HK.out]
   rw [hkm] at d0;have HRm:Hid (_):=HRd.out (m+1) X0;have hbd:=HRb.out (m+1);have HSn:Hid (_):=zmR ws m;have HNm:Hid (zaX (ws.getD (m+1) [])=false→res=none):=fun h=>HNo.out (zjs (i:=m+1) (by omega) hm2 h)
   have HAn:Hid (zaX (ws.getD (m+1) [])=true→∀ j,1≤j→j≤m+1→zaX (ws.getD j [])=true):=fun h j h1 h2=>by
    rcases Nat.lt_or_ge m j with g | g
    ·
     obtain rfl:j=m+1:=by omega
     exact h
    ·exact HAl.out j h1 g
   have HNl:Hid ((zcK ws m).length=m):=zeP ws m;obtain ⟨y,hy⟩:∃ y,ws.getD (m+1) []=y:=⟨_,rfl⟩
   rw [hy] at d0 HRm hbd HSn HNm HAn;generalize zaC y=v at HRm hbd HSn;generalize zaX y=b at HRm HNm HAn;rw [Nat.zero_add] at d0;rcases b with _ | _
   ·
    have HE:Hid (res=none):=HNm.out rfl;clear hWin hbd HSn HNm HAn hy HAl HR HO2 hkm;go_wp2_with fail
    refine Calls.mono HRm.out ?_;rintro e w2 ⟨rfl,hw2⟩;obtain rfl:=hw2.symm;go_wp2;go_ret;exact Or.inr ⟨HE.out,rfl,HB.out⟩
   ·
    have HA2:Hid (_):=HAn.out rfl;obtain ⟨v',Y,hr,ho,hg⟩:=ze1 v HR.out HS.out (by have h1:=HW1.out.2;have h2:=HNl.out;omega);obtain ⟨va',vc',rfl⟩:=zb4 ho;have hlen:(zcK ws (m+1)).length=(zcK ws m).length+1:=by rw [zeP,zeP]
    have HRY:Hid (Y.ownsRow w1.heap.size 2 1 (.slice va' (zcK ws (m+1)).length vc') (zcK ws (m+1)).length (zaY (zcK ws (m+1)))):=by rw [HSn.out] at hlen ⊢;rw [hlen];exact ho
    have HOY:Hid (Y.ownsRow w.heap.size 9 1 (.slice (some ⟨wg,0,none⟩) ws.length wc) ws.length (strV ws)):=HO2.out.kept hg (zba HO2.out HR.out (by decide));have HBY:Hid (Below w.heap.size w Y):=HB.out.grown hg HB.out.size (fun q e=>by have:=(HR.out.lt q e).1;have:=HB1.out.size;omega);have HSY:Hid (w1.heap.size≤Y.heap.size):=Nat.le_trans HS.out hg.size;have HL2:Hid ((zcK ws (m+1)).length=(zcK ws m).length+1):=hlen;clear hWin HSn HNm HAn hy hlen ho hg HAl HR HO2 HS HB hkm;go_wp2_with fail
    refine Calls.mono HRm.out ?_;rintro e w2 ⟨rfl,hw2⟩;obtain rfl:=hw2.symm;clear hw2
    go_wp2_with (at_builtin;refine za0 rfl _ _ 40 rfl _ _ _ rfl rfl hr ?_;clear hr)
    have HK2:Hid (k+1=m+1+1):=by exact (by have:=HK.out;omega:k+1=m+1+1)
    go_roundw
    case rel=>exact ⟨m+1,k+1,va',vc',by rw [HL2.out],by go_num,HK2,by omega,HA2,HRY,HOY,HSY,HBY⟩
    case measure=>simp [intOf];omega
  ·
   have hwl:ws.length=m+1:=by have:=HK.out;omega
   obtain ⟨_,a5,c5,e5,hWin⟩:=zaP HO2.out;injection e5 with e5 _ e6;subst e5;subst e6;obtain ⟨fb,fo,e7,hfl,d0⟩:=hWin.2 0 (by omega);injection e7 with e7;injection e7 with e8 e9 _;subst e8;subst e9;rw [Nat.add_zero] at d0;have hnl:=zeP ws m;have hw0:0<ws.length:=by omega
   have HNW:Hid (∀ j,j<m→(zcK ws m).getD j 0=zaC (ws.getD (j+1) [])):=fun j hj=>numsW_at ws hj
   clear hWin;by_cases hS:ws.getD 0 []=zcJ
   ·
    have hy0:ws.getD 0 []=[115,116,97,114,116]:=hS;rw [hy0] at d0;by_cases hm1:m=1
    ·
     subst hm1;obtain ⟨gn,cn,en⟩:=zaw HR.out (by omega);injection en with en1 en2 en3;subst en1;subst en3;have hnr:=HR.out;rw [hnl] at hnr;obtain ⟨_,_,en4,hgn,n0⟩:=(zij hnr hnl) 0 (by omega);injection en4 with en4;injection en4 with en5 en6 _;subst en5;subst en6;rw [HNW.out 0 (by omega)] at n0;have hg0:=(HGx.out X0 HB.out).c;have hgf:=(HGx.out X0 HB.out).f;obtain ⟨v,hv⟩:∃ v,zaC (ws.getD 1 [])=v:=⟨_,rfl⟩
     rw [show (0:Nat)+1=1 from rfl,hv] at n0;have hr1:=HAl.out 1 (by omega) (by omega);by_cases he:v=last+1
     ·
      have HE:Hid (_):=HStart.out (by omega) hS hr1 (by rw [hv];exact he);subst he;clear hnr hv hr1 HAl HO2 HR hwl HStart HDone HNo HNW hy0 hS;go_wp2
      go_quiet (fail)
      go_wp2;go_ret;have hbq:Below w.heap.size w (X0.drewN nq):=below_drewN HB.out _;have hg:=zae (X0.drewN nq) G 0 (.int .i64 (last+1));refine Or.inl ⟨ts,last+1,HE.out,rfl,xs,HX.out.1,(HO.out _ hbq).kept hg ?_ (fun x hx=>?_),HX.out.2.1,(HGx.out _ hbq).set _,(zb2.of_below hbq).trans (zb2.of_grown hg (fun k e=>Or.inr (by injection e with e;exact e.symm))),fun k hk=>hk⟩
      ·
       rcases h:(Value.slice va ts.length vc).ownBlock with _ | k
       ·exact Or.inl rfl
       ·exact Or.inr (fun e=>by injection e with e;exact (HNe.out k (Or.inl h)).2 e)
      ·
       rcases h:(tvT x).ownBlock with _ | k
       ·exact Or.inl rfl
       ·exact Or.inr (fun e=>by injection e with e;exact (HNe.out k (Or.inr ⟨x,hx,h⟩)).2 e)
     ·
      have HE:Hid (_):=HNo.out (zei hS (fun _=>by rw [hv];exact he));have hvb:(v !=last+1)=true:=by simp [he]
      clear hnr hv hr1 HAl HO2 HR hwl HStart HDone HNo HNW hy0 hS he;go_wp2
      go_quiet (fail)
      go_wp2;go_ret;exact Or.inr ⟨HE.out,rfl,below_drewN HB.out _⟩
    ·
     have HE:Hid (_):=HNo.out (zei hS (fun h=>absurd h (by omega)));have hmi:¬(m:Int)=1:=by omega
     have hmb:((m:Int)==1)=false:=by simp [hmi]
     rw [hnl];clear hnl HAl HO2 HR hwl HStart HDone HNo HNW hy0 hS hm1;go_wp2;go_ret;exact Or.inr ⟨HE.out,rfl,HB.out⟩
   by_cases hD:ws.getD 0 []=zeh
   rotate_left
   ·
    have HE:Hid (_):=HNo.out (zik hS hD);obtain ⟨y,hy⟩:∃ y,ws.getD 0 []=y:=⟨_,rfl⟩
    rw [hy] at d0 hS hD;have hSb:(y==[115,116,97,114,116])=false:=beq_eq_false_iff_ne.2 hS;have hDb:(y==[100,111,110,101])=false:=beq_eq_false_iff_ne.2 hD;clear hy HAl HO2 HR hwl HStart HDone HNo HNW hS hD;go_wp2;go_ret;exact Or.inr ⟨HE.out,rfl,HB.out⟩
   have hy0:ws.getD 0 []=[100,111,110,101]:=hD;rw [hy0] at d0;by_cases hm2:m=2
   rotate_left
   ·
    have HE:Hid (_):=HNo.out (zeQ hD (fun h=>absurd h (by omega)));have hmi:¬(m:Int)=2:=by omega
    have hmb:((m:Int)==2)=false:=by simp [hmi]
    rw [hnl];clear hnl HAl HO2 HR hwl HStart HDone HNo HNW hy0 hS hm2;go_wp2;go_ret;exact Or.inr ⟨HE.out,rfl,HB.out⟩
   subst hm2;obtain ⟨gn,cn,en⟩:=zaw HR.out (by omega);injection en with en1 en2 en3;subst en1;subst en3;have hnr:=HR.out;rw [hnl] at hnr;obtain ⟨_,_,en4,hgn,n0⟩:=(zij hnr hnl) 0 (by omega);injection en4 with en4;injection en4 with en5 en6 _;subst en5;subst en6;obtain ⟨_,_,en4,_,n1⟩:=(zij hnr hnl) 1 (by omega);injection en4 with en4;injection en4 with en5 en6 _;subst en5;subst en6;rw [HNW.out 0 (by omega)] at n0;rw [HNW.out 1 (by omega)] at n1;have hr1:=HAl.out 1 (by omega) (by omega);have hr2:=HAl.out 2 (by omega) (by omega);have HND:Hid (∀ k key,zaC (ws.getD 1 [])=k→zaC (ws.getD 2 [])=key→(0≤k∧k<(ts.length:Int)→zbi key=true→(ts.getD k.toNat ta0).2.2.1≠2→zbn ts (ts.getD k.toNat ta0)=true→False)→res=none):=fun k key e1 e2 h=>HNo.out (zeQ hD (fun _ h2 h3 h4 h5=>by rw [e1] at h2 h4 h5;rw [e2] at h3;exact h h2 h3 h4 h5))
   have HDn:Hid (∀ (k:Nat) key,zaC (ws.getD 1 [])=(k:Int)→zaC (ws.getD 2 [])=key→k<ts.length→zbi key=true→(ts.getD k ta0).2.2.1≠2→zbn ts (ts.getD k ta0)=true→res=some (ts.set k (zbo (ts.getD k ta0) key),last)):=fun k key e1 e2=>HDone.out k key (by omega) hD hr1 hr2 e1 e2
   have hb0:=HRb.out 1;have hb1:=HRb.out 2;obtain ⟨kk,hkk⟩:∃ v,zaC (ws.getD 1 [])=v:=⟨_,rfl⟩
   obtain ⟨key,hkey⟩:∃ v,zaC (ws.getD 2 [])=v:=⟨_,rfl⟩
   rw [show (0:Nat)+1=1 from rfl,hkk] at n0;rw [show (1:Nat)+1=2 from rfl,hkey] at n1;rw [show (0:Nat)+0=0 from rfl] at n0;rw [show (0:Nat)+1=1 from rfl] at n1;have HND1:Hid (_):=HND.out kk key hkk hkey;have HDn1:Hid (∀ (k:Nat),kk=(k:Int)→_):=fun k hk=>HDn.out k key (hkk.trans hk) hkey
   rw [hkk] at hb0;rw [hkey] at hb1;have HK1:Hid (∀ Z,_):=fun Z=>HKe.out key Z
   have hbx:=HBx.out X0 HB.out;have b0:=hbx.c0;have b1:=hbx.c1;have b2:=hbx.c2;have b3:=hbx.c3;have hlen20:=HW1.out.2;rw [hnl];clear hnr hr1 hr2 HAl HO2 HND HDn HNo HStart HDone HNW hD hS hy0 hkk hkey HRb HRd HWl HKe hbx;by_cases hkn:kk<0
   ·
    have HE:Hid (_):=HND1.out (fun h=>absurd h.1 (by omega));have hkd:decide (kk<0)=true:=decide_eq_true hkn;clear HND1 HDn1 HFr hwl;go_wp2
    go_quiet (fail)
    go_wp2;go_ret;exact Or.inr ⟨HE.out,rfl,below_drewN HB.out _⟩
   have hkd0:decide (kk<0)=false:=decide_eq_false hkn;by_cases hkl:(ts.length:Int)≤kk
   ·
    have HE:Hid (_):=HND1.out (fun h=>absurd h.2 (by omega));have hkd:decide ((ts.length:Int)≤kk)=true:=decide_eq_true hkl;clear HND1 HDn1 HFr hwl;go_wp2
    go_quiet (fail)
    go_wp2;go_ret;exact Or.inr ⟨HE.out,rfl,below_drewN HB.out _⟩
   obtain ⟨i,rfl⟩:∃ i:Nat,kk=(i:Int):=⟨kk.toNat,by omega⟩
   have hi2:i<ts.length:=by omega
   have hkd1:decide ((ts.length:Int)≤(i:Int))=false:=decide_eq_false hkl;have hkd1n:decide (ts.length≤i)=false:=decide_eq_false (by omega);rw [Int.toNat_natCast] at HND1;have HDn2:Hid (_):=HDn1.out i rfl;generalize hky:zbi key=ky at HK1 HND1 HDn2;rcases ky with _ | _
   ·
    have HE:Hid (_):=HND1.out (fun _ h=>by cases h);clear HND1 HDn1 HDn2 HFr hwl hky;go_wp2
    go_quiet (first | (go_at_call 77;exact Calls.quiet_of_same (HK1.out _)))
    go_wp2;go_ret;exact Or.inr ⟨HE.out,rfl,below_drewN HB.out _⟩
   obtain ⟨g,cp,he⟩:=zaw (HO.out X0 HB.out).row (by rw [HX.out.2.2];omega);injection he with e1 e2 e3;subst e1 e3;clear e2;have HX1:Hid (_):=zes HX.out.1 (i:=i) (by have:=HX.out.2.2;omega);have hix:i<xs.length:=by have:=HX.out.2.2;omega
   have hgx:xs.getD i tv0=xs[i]:=by simp [List.getD,hix]
   have HT:Hid (_):=zdp xs i hix;rw [hgx] at HT;obtain ⟨tv,htv⟩:∃ tv,xs[i]=tv:=⟨_,rfl⟩
   rw [htv] at HT HX1;have HTV:Hid (∃ h:i<xs.length,xs[i]=tv):=⟨hix,htv⟩;obtain ⟨⟨nm,ns,st,wk,un,ke⟩,na,nc⟩:=tv;simp only [tvT] at HT;simp only at HX1;have HXi:Hid ((nm,ns,st,wk,un,ke)=ts.getD i ta0):=HX1.out
   have HRow:Hid (∀ Z,Below w.heap.size w Z→Z.ownsRow base 42 6 (.slice (some ⟨g,0,none⟩) ts.length vc) ts.length (tksV xs)):=fun Z hz=>by
    have h:=(HO.out Z hz).row;rw [HX.out.2.2] at h;exact h
   have HC2:Hid (∀ Z,Below w.heap.size w Z→Z.cell? ⟨g,i*6+2,none⟩=some (.int .i64 st)):=fun Z hz=>by
    obtain ⟨v0,v1,v2,v3,v4,v5⟩:=HT.out;exact ((HRow.out Z hz).cellAt _ (by omega)).trans v2
   have hidl:=HId.out i;rw [←HXi.out] at HND1 HDn2 hidl;simp only at HND1 HDn2 hidl;have HFr1:Hid (∀ Z,Below w.heap.size w Z→_):=fun Z hz=>HFr.out Z i hz hi2
   rw [←HXi.out] at HFr1;have HIdl:Hid (_):=hidl;clear hidl;generalize zbn ts (nm,ns,st,wk,un,ke)=fr at HFr1 HND1 HDn2;have c2:=HC2.out X0 HB.out;clear HX1 hgx htv HFr HDn1;by_cases h2:st=2
   ·
    have HE:Hid (_):=HND1.out (fun _ _ h=>absurd h2 h);clear HND1 HDn2 HFr1 hwl hky;subst h2;go_wp2
    go_quiet (first | (go_at_call 77;exact Calls.quiet_of_same (HK1.out _)))
    go_wp2;go_ret;exact Or.inr ⟨HE.out,rfl,below_drewN HB.out _⟩
   have h2b:(st==2)=false:=beq_eq_false_iff_ne.2 h2;have HBd:Hid (Below w.heap.size w X0.drew):=⟨HB.out.os,HB.out.tape,HB.out.output,HB.out.size,HB.out.block⟩;have HXd:Hid (Below X0.heap.size X0 X0.drew):=⟨rfl,rfl,rfl,Nat.le_refl _,fun _ _=>rfl⟩
   have HSx:Hid (∀ Z,Below X0.heap.size X0 Z→Z.cell? ⟨B,0,none⟩=some (.slice (some ⟨g,0,none⟩) ts.length vc)∧Z.cell? ⟨B,1,none⟩=some (.int .i64 ep0)∧Z.cell? ⟨B,2,none⟩=some (.int .i64 0)∧Z.cell? ⟨B,3,none⟩=some (.string ⟨jr0.toArray⟩)∧Z.cell? ⟨gn,0,none⟩=some (.int .i64 (i:Int))∧Z.cell? ⟨gn,1,none⟩=some (.int .i64 key)∧Z.cell? ⟨g,i*6+2,none⟩=some (.int .i64 st)):=fun Z hz=>by
    have hzw:=HB.out.trans (hz.mono HB.out.size);have hb:=HBx.out Z hzw;exact ⟨hb.c0,hb.c1,hb.c2,hb.c3,(hz.cell (p:=⟨gn,0,none⟩) hgn).trans n0,(hz.cell (p:=⟨gn,1,none⟩) hgn).trans n1,HC2.out Z hzw⟩
   have HGN:Hid (w1.heap.size≤gn):=(HR.out.lt gn rfl).1;rcases fr with _ | _
   ·
    have HE:Hid (_):=HND1.out (fun _ _ _ h=>by cases h);clear HND1 HDn2 hwl hky;go_wp2;refine wp_region_held_drew (S:=(fun Z=>Z.cell? ⟨B,0,none⟩=some (.slice (some ⟨g,0,none⟩) ts.length vc)∧Z.cell? ⟨B,1,none⟩=some (.int .i64 ep0)∧Z.cell? ⟨B,2,none⟩=some (.int .i64 0)∧Z.cell? ⟨B,3,none⟩=some (.string ⟨jr0.toArray⟩)∧Z.cell? ⟨gn,0,none⟩=some (.int .i64 (i:Int))∧Z.cell? ⟨gn,1,none⟩=some (.int .i64 key)∧Z.cell? ⟨g,i*6+2,none⟩=some (.int .i64 st))) (by kernel_rfl) ?_ (fun hHeld=>?_)
    ·exact ⟨b0,b1,b2,b3,n0,n1,c2⟩
    refine tkO [(0,68),(1,69),(2,70),(3,71),(4,72),(5,73),(6,74),(7,75),(8,76),(9,77),(10,78),(11,79),(12,80),(13,81),(14,82),(15,83),(16,84),(17,85),(18,86)] ?_
    repeat (refine tkY ?_ rfl (by rfl) ?_ ?_;rotate_left;(focus (intro wq hSw;(try dsimp only at hSw);first | (go_simp;done) | (go_simp;with_reducible rfl)));simp only [zP])
    refine tkZ ?_;refine zR 19 rfl (fun K hK=>?_);go_simp
    (go_at_call 77;refine Calls.mono (HK1.out _) ?_;rintro e wn ⟨rfl,hwn⟩;obtain rfl:=hwn.symm;clear hwn)
    refine hK.out _ _ ?_ (fun hHeld=>?_)
    ·exact ⟨b0,b1,b2,b3,n0,n1,c2⟩
    clear hK K;refine tkO [(20,88),(21,89),(22,90),(23,91),(24,92),(25,93),(26,94),(27,95),(28,96),(29,97),(30,98),(31,99),(32,100),(33,101),(34,102),(35,103),(36,104),(37,105),(38,106),(39,107),(40,108),(41,109)] ?_
    repeat (refine tkY ?_ rfl (by rfl) ?_ ?_;rotate_left;(focus (intro wq hSw;(try dsimp only at hSw);first | (go_simp;done) | (go_simp;with_reducible rfl)));simp only [zP])
    refine tkZ ?_;refine zR 42 rfl (fun K hK=>?_);go_simp
    (go_at_call 71;refine Calls.mono (HFr1.out _ (by first | exact HBd.out | exact HB.out)) ?_;rintro e w5 ⟨rfl,hb5⟩;have HB5:Hid (Below w.heap.size w w5):=(by first | exact HBd.out.trans (hb5.mono HBd.out.size) | exact HB.out.trans (hb5.mono HB.out.size));have HC5:Hid (Below X0.heap.size X0 w5):=(by first | exact hb5 | exact HXd.out.trans (hb5.mono HXd.out.size));clear hb5)
    refine hK.out _ _ ?_ (fun hHeld=>?_)
    ·exact HSx.out w5 HC5.out
    clear hK K;refine tkO [(43,111),(44,112)] ?_
    repeat (refine tkY ?_ rfl (by rfl) ?_ ?_;rotate_left;(focus (intro wq hSw;(try dsimp only at hSw);first | (go_simp;done) | (go_simp;with_reducible rfl)));simp only [zP])
    refine tkZ ?_;refine wpAnyH_done (by kernel_rfl) ?_ _;go_wp2;go_ret;exact Or.inr ⟨HE.out,rfl,HB5.out⟩
   have HE:Hid (_):=HDn2.out hi2 (by first | exact hky | trivial) h2 (by first | rfl | trivial);clear HND1 HDn2 hwl hky;go_wp2;refine wp_region_held_drew (S:=(fun Z=>Z.cell? ⟨B,0,none⟩=some (.slice (some ⟨g,0,none⟩) ts.length vc)∧Z.cell? ⟨B,1,none⟩=some (.int .i64 ep0)∧Z.cell? ⟨B,2,none⟩=some (.int .i64 0)∧Z.cell? ⟨B,3,none⟩=some (.string ⟨jr0.toArray⟩)∧Z.cell? ⟨gn,0,none⟩=some (.int .i64 (i:Int))∧Z.cell? ⟨gn,1,none⟩=some (.int .i64 key)∧Z.cell? ⟨g,i*6+2,none⟩=some (.int .i64 st))) (by kernel_rfl) ?_ (fun hHeld=>?_)
   ·exact ⟨b0,b1,b2,b3,n0,n1,c2⟩
   refine tkO [(0,68),(1,69),(2,70),(3,71),(4,72),(5,73),(6,74),(7,75),(8,76),(9,77),(10,78),(11,79),(12,80),(13,81),(14,82),(15,83),(16,84),(17,85),(18,86)] ?_
   repeat (refine tkY ?_ rfl (by rfl) ?_ ?_;rotate_left;(focus (intro wq hSw;(try dsimp only at hSw);first | (go_simp;done) | (go_simp;with_reducible rfl)));simp only [zP])
   refine tkZ ?_;refine zR 19 rfl (fun K hK=>?_);go_simp
   (go_at_call 77;refine Calls.mono (HK1.out _) ?_;rintro e wn ⟨rfl,hwn⟩;obtain rfl:=hwn.symm;clear hwn)
   refine hK.out _ _ ?_ (fun hHeld=>?_)
   ·exact ⟨b0,b1,b2,b3,n0,n1,c2⟩
   clear hK K;refine tkO [(20,88),(21,89),(22,90),(23,91),(24,92),(25,93),(26,94),(27,95),(28,96),(29,97),(30,98),(31,99),(32,100),(33,101),(34,102),(35,103),(36,104),(37,105),(38,106),(39,107),(40,108),(41,109)] ?_
   repeat (refine tkY ?_ rfl (by rfl) ?_ ?_;rotate_left;(focus (intro wq hSw;(try dsimp only at hSw);first | (go_simp;done) | (go_simp;with_reducible rfl)));simp only [zP])
   refine tkZ ?_;refine zR 42 rfl (fun K hK=>?_);go_simp
   (go_at_call 71;refine Calls.mono (HFr1.out _ (by first | exact HBd.out | exact HB.out)) ?_;rintro e w5 ⟨rfl,hb5⟩;have HB5:Hid (Below w.heap.size w w5):=(by first | exact HBd.out.trans (hb5.mono HBd.out.size) | exact HB.out.trans (hb5.mono HB.out.size));have HC5:Hid (Below X0.heap.size X0 w5):=(by first | exact hb5 | exact HXd.out.trans (hb5.mono HXd.out.size));clear hb5)
   refine hK.out _ _ ?_ (fun hHeld=>?_)
   ·exact HSx.out w5 HC5.out
   clear hK K;refine tkO [(43,111),(44,112)] ?_
   repeat (refine tkY ?_ rfl (by rfl) ?_ ?_;rotate_left;(focus (intro wq hSw;(try dsimp only at hSw);first | (go_simp;done) | (go_simp;with_reducible rfl)));simp only [zP])
   refine tkZ ?_;refine wpAnyH_done (by kernel_rfl) ?_ _;clear b0 b1 b2 b3 n0 n1 c2;obtain ⟨b0,_,_,_,n0,n1,_⟩:=HSx.out w5 HC5.out;have hr0:=HRow.out w5 HB5.out;have e2:=hr0.frozenAt (i*6+2);have hs2:=hr0.stored (i*6+2) (.int .i64 2);have hG2:=hs2.2;have hn2:=hs2.1;obtain ⟨V,hV⟩:∃ V,w5.setCell ⟨g,i*6+2,none⟩ (.int .i64 2)=V:=⟨_,rfl⟩
   rw [hV] at hG2 hn2;have HN2:Hid (_):=hn2;have HgV:Hid (w5.grownBy V (some g)):=hG2;clear hs2 hG2 hn2 hr0;go_wp2;refine Till.region (S:=(fun Z=>Z.cell? ⟨B,0,none⟩=some (.slice (some ⟨g,0,none⟩) ts.length vc)∧Z.cell? ⟨gn,0,none⟩=some (.int .i64 (i:Int))∧Z.cell? ⟨gn,1,none⟩=some (.int .i64 key))) (E:=[9]) (by kernel_rfl) ?_ (fun hHeld hSh=>?_)
   ·exact ⟨b0,n0,n1⟩
   refine tkO [(0,113),(1,114),(2,115),(3,116),(4,117),(5,118),(6,119),(7,120),(8,121)] ?_
   repeat (refine tlY ?_ rfl (by rfl) ?_ (fun hSh2=>?_);rotate_left;(focus (intro wq hSw;(try dsimp only at hSw);first | (go_simp;done) | (go_simp;with_reducible rfl)));clear hSh;rename zaI _ _ _=>hSh;simp only [zP])
   refine tkZ ?_;refine Till.last (i:=9) (by kernel_rfl) rfl (by decide) (fun K hK=>?_);go_simp;refine hK.out _ _ ?_;clear hK K
   (try rw [hV])
   refine Till.done (by kernel_rfl) ?_ _;obtain ⟨V1,hV1⟩:∃ X,V.drew=X:=⟨_,rfl⟩
   (try rw [hV1])
   have hd1:Below V.heap.size V V1:=by rw [←hV1];exact ⟨rfl,rfl,rfl,Nat.le_refl _,fun _ _=>rfl⟩
   have hg1:V.grownBy V1 (some g):=by rw [←hV1];exact ⟨rfl,rfl,rfl,Nat.le_refl _,fun _ _ _=>rfl⟩
   have HG1:Hid (w5.grownBy V1 (some g)):=HgV.out.trans hg1;have hr1:=za5 HN2.out hd1;have hgg:g≠B∧g≠G:=HNe.out g (Or.inl rfl);have hggn:g<gn:=by have h1:=((HO.out w (Below.refl _ _)).row.lt g rfl).2;have h2:=HB1.out.size;have h3:=HGN.out;omega
   have bV:=(HBx.out w5 HB5.out).grown HG1.out (by intro e;injection e with e;exact hgg.1 e);have hgn5:gn<w5.heap.size:=Nat.lt_of_lt_of_le hgn HC5.out.size;have hng:some gn≠some g:=by intro e;injection e with e;omega
   have m0:=(World.cell?_of_block (a:=⟨gn,0,none⟩) (HG1.out.block gn hgn5 hng)).trans n0;have m1:=(World.cell?_of_block (a:=⟨gn,1,none⟩) (HG1.out.block gn hgn5 hng)).trans n1;have c5:V1.cell? ⟨g,i*6+5,none⟩=some (.int .i64 ke):=(hr1.cellAt _ (by omega)).trans (by rw [List.getElem?_set_ne (by omega)];exact HT.out.2.2.2.2.2);clear b0 n0 n1;have b0:=bV.c0;have n0:=m0;have n1:=m1;have e5:=hr1.frozenAt (i*6+5);have hs5:=hr1.stored (i*6+5) (.int .i64 key);have hG5:=hs5.2;have hn5:=hs5.1;obtain ⟨V2,hV2⟩:∃ V,V1.setCell ⟨g,i*6+5,none⟩ (.int .i64 key)=V:=⟨_,rfl⟩
   rw [hV2] at hG5 hn5;have HN5:Hid (_):=hn5;have HG2:Hid (w5.grownBy V2 (some g)):=HG1.out.trans hG5;have HGg:Hid (g≠B∧g≠G):=hgg;clear hs5 hG5 hn5 hr1 hgg hggn bV m0 m1 hd1 hg1 hgn5 hng hV1 hV;go_wp2;refine Till.region (S:=(fun Z=>Z.cell? ⟨B,0,none⟩=some (.slice (some ⟨g,0,none⟩) ts.length vc)∧Z.cell? ⟨gn,0,none⟩=some (.int .i64 (i:Int))∧Z.cell? ⟨gn,1,none⟩=some (.int .i64 key))) (E:=[12]) (by kernel_rfl) ?_ (fun hHeld hSh=>?_)
   ·exact ⟨b0,n0,n1⟩
   refine tkO [(0,122),(1,123),(2,124),(3,125),(4,126),(5,127),(6,128),(7,129),(8,130),(9,131),(10,132),(11,133)] ?_
   repeat (refine tlY ?_ rfl (by rfl) ?_ (fun hSh2=>?_);rotate_left;(focus (intro wq hSw;(try dsimp only at hSw);first | (go_simp;done) | (go_simp;with_reducible rfl)));clear hSh;rename zaI _ _ _=>hSh;simp only [zP])
   refine tkZ ?_;refine Till.last (i:=12) (by kernel_rfl) rfl (by decide) (fun K hK=>?_);go_simp;refine hK.out _ _ ?_;clear hK K
   (try rw [hV2])
   refine Till.done (by kernel_rfl) ?_ _;go_wp2;go_ret;have hgF:w5.grownBy V2.drew (some g):=HG2.out.trans ⟨rfl,rfl,rfl,Nat.le_refl _,fun _ _ _=>rfl⟩;have hrF:V2.drew.ownsRow base 42 6 (.slice (some ⟨g,0,none⟩) ts.length vc) ts.length (((tksV xs).set (i*6+2) (.int .i64 2)).set (i*6+5) (.int .i64 key)):=za5 HN5.out ⟨rfl,rfl,rfl,Nat.le_refl _,fun _ _=>rfl⟩;obtain ⟨hix,hxi⟩:=HTV.out;rw [zmp xs i hix,hxi] at hrF;simp only at hrF
   have hoff:∀ k,zan (.slice (some ⟨g,0,none⟩) ts.length vc) (xs.set i ((nm,ns,2,wk,un,key),na,nc)) k→zan (.slice (some ⟨g,0,none⟩) ts.length vc) xs k:=by
    rintro k (e | ⟨y,hy,e⟩)
    ·exact Or.inl e
    ·
     rcases List.mem_or_eq_of_mem_set hy with h | h
     ·exact Or.inr ⟨y,h,e⟩
     ·subst h;exact Or.inr ⟨xs[i],List.getElem_mem hix,by rw [hxi];exact e⟩
   refine Or.inl ⟨_,_,HE.out,rfl,xs.set i ((nm,ns,2,wk,un,key),na,nc),?_,(HO.out w5 HB5.out).put hix _ hgF (by rw [HX.out.2.2];exact hrF) (by rw [hxi]) (by rw [hxi]),zdn hix _ (by rw [hxi]) (by rw [hxi]) HX.out.2.1,(HGx.out w5 HB5.out).grown hgF (by intro e;injection e with e;exact HGg.out.2 e.symm),(zb2.of_below HB5.out).trans (zb2.of_grown hgF (fun k e=>Or.inl e)),hoff⟩;rw [List.map_set,HX.out.1,zlp HIdl.out]
theorem zhw (l t:List UInt8) (n:Int) (b:Bool) (w:World) (hl:l.length≤1048576) (ht:zax l=t) (hn:zcn l=n) (hb:zb1 l=b) :
 Calls Tryz.prog 129 #[.string ⟨l.toArray⟩] w fun e w'=>e=.returned (.tuple #[.string ⟨t.toArray⟩,.int .i64 n,.bool b])∧w'=w:=by
 subst ht hn hb;exact znQ l w hl
theorem zmH (l:List UInt8) (w:World) (hl:l.length≤1048576) :
 Calls Tryz.prog 107 #[.string ⟨l.toArray⟩] w fun e w'=>∃ v,e=.returned (.tuple #[v,.int .i64 (za3 (zaa l):Nat)])∧w'.ownsRow w.heap.size 9 1 v (zaa l).length (strV (zaa l))∧v≠.slice none 0 0∧Below w.heap.size w w':=by
 obtain ⟨i0,hi,hz0,hz1,hz2⟩:=info_parts zn1;have hext:=zd1;have htk:∀ u,List.take (l.length-u) (List.drop u l)=List.drop u l:=fun u=>List.take_of_length_le (by rw [List.length_drop];omega)
 have hown0:=(World.ownsRow_lit (base:=w.heap.size) (e:=9) (size:=1) w #[] 0 (Nat.le_refl _) (by decide) rfl)
 go_enter Tryz.func107,Tryz.ntmps107
 go_wp2_with fail
 go_loopw [4,5] (fun v i wr=>∃ o:List (List UInt8),∃ u cp g:Nat,o.length≤400∧u=za3 o∧u≤l.length∧o++zal (400-o.length) (l.drop u)=zaa l∧i=.int .i64 u∧v=.slice (some ⟨g,0,none⟩) o.length cp∧wr.ownsRow w.heap.size 9 1 v o.length (strV o)∧Below w.heap.size w wr) (fun v _ _=>400-(match v with | .slice _ n _=>n | _=>0))
 case atStart=>exact ⟨[],0,0,w.heap.size,by simp,rfl,Nat.zero_le _,by simp [zaa],rfl,rfl,hown0,(Below.refl _ _).alloc (Nat.le_refl _) _⟩
 case round =>
  obtain ⟨o,u,cp,g,ho,hu,hle,hgo,rfl,rfl,hown,hb⟩:=hrel;clear hown0;have HU:Hid (u=za3 o):=hu;have HG:Hid (o++zal (400-o.length) (l.drop u)=zaa l):=hgo;clear hu hgo;by_cases hlt:(o.length:Int)<400
  ·
   have hdl:(l.drop u).length≤1048576:=by rw [List.length_drop];omega
   have hul:(u:Int)≤(l.length:Int):=by omega
   rcases hbb:zb1 (l.drop u) with _ | _
   ·
    have HF:Hid (o=zaa l):=by have:=HG.out;rw [zdz _ _ hbb,List.append_nil] at this;exact this
    have hfn:=zco (l.drop u) (of_decide_eq_false hbb);have HX:Hid (zax (l.drop u)=[]∧zcn (l.drop u)=0∧zb1 (l.drop u)=false):=hfn;clear hfn hbb;go_wp2_with fail
    refine (zhw (l.drop u) [] 0 false _ hdl HX.out.1 HX.out.2.1 HX.out.2.2).mono ?_;rintro e w1 ⟨rfl,rfl⟩;go_wp2
    go_ret2
    refine ⟨.slice (some ⟨g,0,none⟩) o.length cp,?_,?_,?_,hb⟩
    ·rw [←HF.out,←HU.out];rfl
    ·rw [←HF.out];exact hown
    ·intro e;cases e
   ·
    have hst:=zlk l o u (by omega) HU.out hle HG.out hbb;obtain ⟨t,ht⟩:∃ t,zax (l.drop u)=t:=⟨_,rfl⟩
    have hN:=(zf9 (l.drop u) hbb).2.1;rw [ht] at hst hN;have HX:Hid (zax (l.drop u)=t∧zcn (l.drop u)=16+(t.length:Int)∧zb1 (l.drop u)=true):=⟨ht,hN,hbb⟩;have HS:Hid (o++[t]++zal (400-(o++[t]).length) (l.drop (u+(16+t.length)))=zaa l∧u+(16+t.length)=za3 (o++[t])):=⟨hst.1,hst.2.1⟩;have hfit:=hst.2.2;clear hst ht hN hbb;go_wp2_with fail
    refine (zhw (l.drop u) t (16+(t.length:Int)) true _ hdl HX.out.1 HX.out.2.1 HX.out.2.2).mono ?_;rintro e w1 ⟨rfl,rfl⟩
    go_wp2_with (at_builtin;refine wpList_append_own _ rfl _ _ 67 rfl w.heap.size 9 i0 (.string ⟨#[]⟩) 1 16 Tryz.underlying67 hi hz0 hz1 hz2 rfl (by decide) _ _ _ rfl (hown.alloc _) ⟨w1.heap.size,0,none⟩ 1 1 [.string ⟨t.toArray⟩] rfl rfl ?c1 ?c2 ?c3 ?c4 ?c5 ?_)
    case c1=>exact cell_one_new _ _ _
    case c2=>first | rfl | (intro u hu;simp at hu;subst hu;rfl)
    case c3=>unfold maxLen;omega
    case c4=>omega
    case c5=>have:=hb.size;simp;omega
    intro v' w3 hown3 hgrow3 hnil3;have hown4:=zeq hown3;have hv':v'≠.slice none 0 0:=hnil3;obtain ⟨g',cp',hv⟩:=zeM hown4 hv';have hb3:Below w.heap.size w w3:=(hb.alloc hb.size _).grown hgrow3 (by have:=hb.size;simp;omega) (fun k e=>(hown.lt k e).1);clear hown3 hgrow3 hnil3 hown hb hv';go_wp2;go_roundw
    case rel=>exact ⟨o++[t],u+(16+t.length),cp',g',by rw [List.length_append,List.length_singleton];omega,HS.out.2,hfit,HS.out.1,by go_num,hv,hown4,hb3⟩
    case measure=>rw [hv,List.length_append,List.length_singleton];simp;omega
  ·
   have HF:Hid (o=zaa l):=by have:=HG.out;rw [show 400-o.length=0 by omega] at this;exact (by simpa [zal] using this:o=zaa l)
   go_wp2
   go_ret2
   refine ⟨.slice (some ⟨g,0,none⟩) o.length cp,?_,?_,?_,hb⟩
   ·rw [←HF.out,←HU.out];rfl
   ·rw [←HF.out];exact hown
   ·intro e;cases e
end Go.Proofs.YtponeoijfaepnaaGreatDoor
