/-
  Parts of one proof, one behind the other: RebJ, TaskI2.
-/
import Derived.Test.YtdbljnddkbpanaaGreatDoorP47
import Derived.Test.YtdbljnddkbpanaaGreatDoorP19
import Derived.Test.YtdbljnddkbpanaaGreatDoorP46
import Derived.Test.YtdbljnddkbpanaaGreatDoorP34
import Derived.Test.YtdbljnddkbpanaaGreatDoorP17
import Derived.Test.YtdbljnddkbpanaaGreatDoorP15
namespace Go.Proofs.YtdbljnddkbpanaaGreatDoor
open Go.RowKit
set_option maxHeartbeats 2000000 in
set_option maxRecDepth 100000 in
theorem zpd (B base:Nat) (va:Option Addr) (vc n:Nat) (xs:List TV) (ts:List Ta) (ep:Int) (jr f:List UInt8) (w:World) (hn:ts.length=n) (hb4:B4 w B (.slice va n vc) (.int .i64 ep) (.int .i64 0) (.string ⟨jr.toArray⟩)) (ho:za9 w base (.slice va n vc) xs) (hx:xs.map (·.1)=ts) (hap:zao (xs.map tvT)) (hne:∀ k,zai (.slice va n vc) xs k→k≠B) (hbase:base≤w.heap.size) (hbB:base≤B)
 (h8:n≤8) (hsh:zav ts) (hnd:∀ p,p<ts.length→∀ q,q<(ts.getD p ta0).2.1.length→0≤(ts.getD p ta0).2.1.getD q 0∧(ts.getD p ta0).2.1.getD q 0<ts.length) (h0:0≤ep) (h1:ep≤1000000) (hj:jr.length≤60000) (hf:f.length≤20000) (ht:∀ Z,Below base w Z→zcB Z) :
 Calls Tryz.prog 22 #[.pointer (some ⟨B,0,none⟩),.string ⟨f.toArray⟩] w fun e w'=>(∃ ts' ep',zb1 ts ep f=some (ts',ep')∧e=.returned (.bool true)∧∃ xs',xs'.map (·.1)=ts'∧za9 w' base (.slice va n vc) xs'∧zao (xs'.map tvT)∧B4 w' B (.slice va n vc) (.int .i64 ep') (.int .i64 0) (.string ⟨(jr++zaj f).toArray⟩)∧zaS w w' (fun k=>(Value.slice va n vc).ownBlock=some k∨k=B)∧(∀ k,zai (.slice va n vc) xs' k→zai (.slice va n vc) xs k))∨(zb1 ts ep f=none∧e=.returned (.bool false)∧Below w.heap.size w w'):=by
 subst hn
 by_cases hs:f=zaX (ep+1)
 ·
  subst hs
  refine Calls.mono (zhG B base (.slice va ts.length vc) ep 0 jr w hb4 hbase hbB h0 h1 hj ht) ?_
  rintro e w' ⟨rfl,hb,hg⟩
  rw [zcE (by omega) (by omega)] at hb
  refine Or.inl ⟨ts,ep+1,zd3 rfl,rfl,xs,hx,ho.kept hg ?_ (fun x hx=>?_),hap,hb,zaS.of_grown hg (fun k e=>Or.inr (by injection e with e;exact e.symm)),fun k hk=>hk⟩
  ·
   rcases h:(Value.slice va ts.length vc).ownBlock with _ | k
   ·
    exact Or.inl rfl
   ·
    exact Or.inr (fun e=>by injection e with e;exact hne k (Or.inl h) e)
  ·
   rcases h:(tvT x).ownBlock with _ | k
   ·
    exact Or.inl rfl
   ·
    exact Or.inr (fun e=>by injection e with e;exact hne k (Or.inr ⟨x,hx,h⟩) e)
 ·
  by_cases hd:zd5 ts f (zdY f 1) (zdY f 2)
  ·
   obtain ⟨i,hi⟩:∃ i:Nat,zdY f 1=(i:Int):=⟨(zdY f 1).toNat,by have:=hd.2.1.1;omega⟩
   have hd2:=hd
   rw [hi] at hd
   have hl:i<ts.length:=by have:=hd.2.1.2;omega
   have hky:=zgj hd.2.2.1
   have hdl:=zcY (k:=(i:Int)) (key:=zdY f 2) (by omega) (by omega) (by omega) (by omega)
   have hln:zce (i:Int) (zdY f 2)=zaj f:=(zbY (zcA (i:Int) (zdY f 2)) (by omega)).trans (congrArg zaj hd.1.symm)
   have hst:=zeF (last:=ep) h8 hd
   rw [Int.toNat_natCast] at hst
   refine Calls.mono (zj7 B base va vc xs ts ep 0 jr f i (zdY f 2) w hb4 ho hx hap hne hbase hbB h8 hsh hnd h0 h1 hj (by omega) ht hd) ?_
   rintro e w' ⟨rfl,xs',hx',ho',hap',hb',hw',hk'⟩
   rw [hln] at hb'
   exact Or.inl ⟨_,_,hst,rfl,xs',hx',ho',hap',hb',hw',hk'⟩
  ·
   have hno:∀ k key,¬zd5 ts f k key:=fun k key h=>by
    obtain ⟨e1,e2⟩:=zeJ h8 h
    rw [e1,e2] at hd
    exact hd h
   refine Calls.mono (zlL B base va vc xs ts ep 0 jr f w hb4 ho hx hbase h8 hsh hnd h0 h1 (by omega) ht hs hno) ?_
   rintro e w' ⟨rfl,hb⟩
   exact Or.inr ⟨zgv hs hno,rfl,hb⟩
set_option maxHeartbeats 16000000 in
set_option maxRecDepth 100000 in
theorem zny (a:Option Addr) (len cap:Nat) (ps:List Pk) (jr:List UInt8) (er:Nat→Addr) (w:World) (hE:Err8 w er) (ht:zcB w) (h:zal w a len cap ps) (hjr:jr.length≤1048576) :
 Calls Tryz.prog 6 #[.slice a len cap,.string ⟨jr.toArray⟩] w fun e w'=>∃ v,e=.returned (.tuple #[v,.bool (rebV ps jr).2])∧ze9 w w' v (rebV ps jr).1:=by
 obtain ⟨D,hD⟩:∃ D,w.heap.size=D:=⟨_,rfl⟩
 obtain ⟨W1,hW1⟩:∃ W,w.alloc (.cells #[.slice none 0 0,.int .i64 0,.int .i64 0,.string ⟨#[]⟩] 29)=W:=⟨_,rfl⟩
 have hs1:W1.heap.size=D+1:=by rw [←hW1,←hD];simp
 have hb1:Below D w W1:=by rw [←hW1,←hD];exact (Below.refl _ _).alloc (Nat.le_refl _) _
 have bR:=B4.new w (.slice none 0 0) (.int .i64 0) (.int .i64 0) (.string ⟨#[]⟩) 29
 rw [hW1,hD] at bR
 have HD:Hid (∀ Z,Below W1.heap.size W1 Z→B4 Z D (.slice none 0 0) (.int .i64 0) (.int .i64 0) (.string ⟨#[]⟩)∧Below D w Z):=fun Z hz =>
  ⟨bR.below hz,hb1.trans (hz.mono (by omega))⟩
 have HPw:Hid (∀ Z,Below D w Z→zcB Z):=fun Z hz=>ht.below (by rw [hD];exact hz)
 have HT:Hid (_):=zlu a len cap ps er W1 (hE.below (by rw [hD];exact hb1)) (h.below (by rw [hD];exact hb1))
 have HFr:Hid (∀ Z,_):=fun Z=>zlG jr (za2 jr) (za2 jr).length (za1 (za2 jr)) Z hjr rfl rfl rfl
 have hsh:=zdE ps
 have h8:=zcN ps
 have HId:Hid (_):=zdm ps
 have HNd:Hid (_):=zgP ps
 have h4:=zdH jr
 have HFl:Hid (∀ i,((za2 jr).getD i []).length≤20000):=fun i=>zh6 jr i
 have HY:Hid (∀ ts last i,zag (za2 jr) (newV ps).1.1 0 0=(ts,last,za1 ((za2 jr).take i))→zay (ts,last+1,0,zaz (za2 jr) i++zaB (last+1))=true→rebV ps jr=((ts,last+1,0,zaz (za2 jr) i++zaB (last+1)),true)):=fun ts last i hg hb=>zla (ziI hg) hb
 have HN:Hid (∀ ts last i,zag (za2 jr) (newV ps).1.1 0 0=(ts,last,za1 ((za2 jr).take i))→zay (ts,last+1,0,zaz (za2 jr) i++zaB (last+1))=false→rebV ps jr=(dk0,false)):=fun ts last i hg hb=>reb_no (ziI hg) hb
 generalize rebV ps jr=res at HY HN ⊢
 generalize (newV ps).1.1=ts0 at HT hsh h8 HId HNd HY HN
 have HA0:Hid (_):=zaT.zero (fs:=za2 jr) HId.out
 have HW0:Hid (zaz (za2 jr) 0=[]):=zjt _
 generalize za2 jr=fs at HFr h4 HFl HY HN HA0 HW0
 generalize za1 fs=fu at HFr
 obtain ⟨n,hn⟩:∃ n,ts0.length=n:=⟨_,rfl⟩
 have HSt:Hid (_):=fun (B base:Nat) (v0:Value) (ep:Int) (j:List UInt8) (Z:World) (hb4:B4 Z B v0 (.int .i64 ep) (.int .i64 0) (.string ⟨j.toArray⟩)) (h1:base≤Z.heap.size) (h2:base≤B) (h3:∀ X,Below base Z X→zcB X) (h4:0≤ep) (h5:ep≤1000) (h6:j.length≤60000)=>zkg B base v0 ep 0 j Z hb4 h1 h2 h4 (by omega) h6 h3
 have HDk:Hid (_):=fun (va:Option Addr) (vc:Nat) (ts:List Ta) (ep:Int) (j:List UInt8) (Z:World) (h0:ts.length=n) (h1:zaK Z va n ts) (h2:n≤vc) (h3:zav ts)=>zfC va n vc ts ep 0 j Z h1 h2 h3 (by omega)
 have HAn:Hid (_):=fun (B base:Nat) (va:Option Addr) (vc:Nat) (xs:List TV) (ts:List Ta) (ep:Int) (j f:List UInt8) (Z:World) (g1:ts.length=n) g2 g3 g4 g5 g6 g7 g8 g9 g10 g11 (g12:ep≤1000) g13 g14 g15=>zpd B base va vc n xs ts ep j f Z g1 g2 g3 g4 g5 g6 g7 g8 (by omega) g9 g10 g11 (by omega) g13 g14 g15
 have HAg:Hid (∀ ts last i,zaT fs ts0 ts last i→ts.length=n∧zav ts∧(∀ p,p<ts.length→∀ q,q<(ts.getD p ta0).2.1.length→0≤(ts.getD p ta0).2.1.getD q 0∧(ts.getD p ta0).2.1.getD q 0<ts.length)∧(zaz fs i).length≤60000∧0≤last∧last≤1000):=fun ts last i h =>
  ⟨h.ag.len.trans hn,h.ag.short hsh,h.ag.needs HNd.out,by rw [zkT];have:=h.used;have:=h.le;omega,h.l0,by have:=h.l1;have:=h.le;omega⟩
 have HYs:Hid (∀ ts last i ts' last',zaT fs ts0 ts last i→i<fs.length→zb1 ts last (fs.getD i [])=some (ts',last')→zaT fs ts0 ts' last' (i+1)∧zaz fs (i+1)=zaz fs i++zaj (fs.getD i [])):=fun ts last i ts' last' h hi hs=>⟨h.yes hi h4 h8 hs,zju hi⟩
 have HNs:Hid (∀ ts last i,zaT fs ts0 ts last i→i<fs.length→zb1 ts last (fs.getD i [])=none→zag fs ts0 0 0=(ts,last,za1 (fs.take i))):=fun ts last i h hi hs=>h.no hi hs
 have HEs:Hid (∀ ts last i,zaT fs ts0 ts last i→fs.length≤i→zag fs ts0 0 0=(ts,last,za1 (fs.take i))):=fun ts last i h hi=>h.stop hi
 have hfl4:fs.length≤1048576:=by omega
 clear hE ht h bR hb1 hsh HId HNd h8 h4 hjr
 go_enter Tryz.func6,Tryz.ntmps6
 go_wp2_with fail
 refine Calls.mono HT.out ?_
 rintro e w2 ⟨v2,xs,rfl,hx,ho2,hap,hb2⟩
 have hxl:xs.length=n:=by rw [←hn,←hx,List.length_map]
 obtain ⟨va,vc,rfl⟩:=zb3 ho2.row
 rw [hxl] at ho2
 rw [hxl]
 have HB2:Hid (Below W1.heap.size W1 w2):=hb2
 obtain ⟨Q,hQ⟩:∃ Q,w2.heap.size=Q:=⟨_,rfl⟩
 obtain ⟨Z0,hZ0⟩:∃ Z0,w2.alloc (.cells #[.slice none 0 0,.int .i64 0,.int .i64 0,.string ⟨#[]⟩] 29)=Z0:=⟨_,rfl⟩
 have bz:=B4.new w2 (.slice none 0 0) (.int .i64 0) (.int .i64 0) (.string ⟨#[]⟩) 29
 have hbZ:Below w2.heap.size w2 Z0:=by rw [←hZ0];exact (Below.refl _ _).alloc (Nat.le_refl _) _
 rw [hZ0] at bz
 rw [hQ] at bz hbZ
 have z0:=bz.c0
 have z1:=bz.c1
 have z2:=bz.c2
 have z3:=bz.c3
 have zf:=bz.fr
 have b4:=(((bz.s0 (.slice va n vc)).s1 (.int .i64 0)).s2 (.int .i64 0)).s3 (.string ⟨#[]⟩)
 have hbX:Below Q w2 ((((Z0.setCell ⟨Q,0,none⟩ (.slice va n vc)).setCell ⟨Q,1,none⟩ (.int .i64 0)).setCell ⟨Q,2,none⟩ (.int .i64 0)).setCell ⟨Q,3,none⟩ (.string ⟨#[]⟩)):=(((hbZ.setCell (Nat.le_refl _) _).setCell (Nat.le_refl _) _).setCell (Nat.le_refl _) _).setCell (Nat.le_refl _) _
 obtain ⟨w3,hw3⟩:∃ W,(((Z0.setCell ⟨Q,0,none⟩ (.slice va n vc)).setCell ⟨Q,1,none⟩ (.int .i64 0)).setCell ⟨Q,2,none⟩ (.int .i64 0)).setCell ⟨Q,3,none⟩ (.string ⟨#[]⟩)=W:=⟨_,rfl⟩
 rw [hw3] at b4 hbX
 have HQ:Hid (W1.heap.size≤Q∧D+1≤Q):=by
  have:=hb2.size
  exact (by omega:W1.heap.size≤Q∧D+1≤Q)
 have hs3:w3.heap.size=Q+1:=by rw [←hw3,←hZ0,←hQ];simp
 have HS3:Hid (w3.heap.size=Q+1):=hs3
 have HB3:Hid (Below W1.heap.size W1 w3):=hb2.trans (hbX.mono HQ.out.1)
 have HO3:Hid (za9 w3 W1.heap.size (.slice va n vc) xs∧xs.map (·.1)=ts0∧zao (xs.map tvT)):=⟨ho2.below (by rw [hQ];exact hbX),hx,hap⟩
 have HTb:Hid (∀ k,zai (.slice va n vc) xs k→k<Q):=by
  refine (fun k hk=>?_:∀ k,zai (.slice va n vc) xs k→k<Q)
  rw [←hQ]
  rcases hk with e | ⟨x,hx,e⟩
  ·
   exact (ho2.row.lt k e).2
  ·
   exact ((ho2.trees x hx).lt k e).2
 have HQ4:Hid (B4 w3 Q (.slice va n vc) (.int .i64 0) (.int .i64 0) (.string ⟨#[]⟩)):=b4
 have HFm:Hid (_):=HFr.out w3
 clear ho2 hx hap hb2 bz hbZ hbX b4 HT HFr hs3
 go_wp2_with fail
 refine Calls.mono HFm.out ?_
 rintro e w4 ⟨v4,rfl,ho4,hb4⟩
 obtain ⟨_,a4,c4,rfl,_⟩:=zaC ho4
 have HB4:Hid (Below W1.heap.size W1 w4):=HB3.out.trans (hb4.mono HB3.out.size)
 have HO4:Hid (za9 w4 W1.heap.size (.slice va n vc) xs):=HO3.out.1.below hb4
 have HX4:Hid (xs.map (·.1)=ts0∧zao (xs.map tvT)):=⟨HO3.out.2.1,HO3.out.2.2⟩
 have HQ5:Hid (B4 w4 Q (.slice va n vc) (.int .i64 0) (.int .i64 0) (.string ⟨(zaz fs 0).toArray⟩)):=by rw [HW0.out];exact HQ4.out.below hb4
 have HF4:Hid (w4.ownsRow (Q+1) 9 1 (.slice a4 fs.length c4) fs.length (strV fs)):=zaI ho4 (by rw [HS3.out];exact Nat.le_refl _)
 clear ho4 hb4 HFm hZ0 hw3 z0 z1 z2 z3 zf HQ4 HO3 HB3 HS3 HW0 hxl
 go_wp2
 go_loopw [21] (fun iv wr=>∃ (i:Nat) (ts:List Ta) (last:Int) (xs:List TV),iv=.int .i64 (i:Int)∧i≤fs.length∧Hid (zaT fs ts0 ts last i)∧Hid (xs.map (·.1)=ts∧zao (xs.map tvT))∧Hid (za9 wr W1.heap.size (.slice va n vc) xs)∧Hid (B4 wr Q (.slice va n vc) (.int .i64 last) (.int .i64 0) (.string ⟨(zaz fs i).toArray⟩))∧Hid (∀ k,zai (.slice va n vc) xs k→k<Q)∧Hid (wr.ownsRow (Q+1) 9 1 (.slice a4 fs.length c4) fs.length (strV fs))∧Hid (Below W1.heap.size W1 wr)) (fun iv _=>fs.length-(intOf iv).toNat)
 case atStart=>exact ⟨0,ts0,0,xs,rfl,Nat.zero_le _,HA0,HX4,HO4,HQ5,HTb,HF4,HB4⟩
 case round =>
  obtain ⟨i,ts,last,xs,rfl,hi,HA,HX,HO,HQr,HTb,HF,HB⟩:=hrel
  clear HA0 HX4 HO4 HQ5 HF4 HB4
  obtain ⟨X0,hX0⟩:∃ X0,X0=wr:=⟨_,rfl⟩
  subst hX0
  by_cases hlt:(i:Int)<(fs.length:Int)
  ·
   have hi2:i<fs.length:=by omega
   obtain ⟨_,a5,c5,e5,hFin⟩:=zaC HF.out
   injection e5 with e5 _ e6
   subst e5
   subst e6
   obtain ⟨fb,fo,rfl,hfl,d0⟩:=hFin.2 i hi2
   obtain ⟨g1,g2,g3,g4,g5,g6⟩:=HAg.out _ _ _ HA.out
   have HYi:Hid (_):=fun ts' last'=>HYs.out ts last i ts' last' HA.out hi2
   have HNi:Hid (_):=HNs.out ts last i HA.out hi2
   have hfl20:=HFl.out i
   generalize fs.getD i []=f at d0 HYi HNi hfl20
   have HCl:Hid (_):=HAn.out Q W1.heap.size va vc xs ts last (zaz fs i) f X0 g1 HQr.out HO.out HX.out.1 HX.out.2 (fun k hk=>by have:=HTb.out k hk;omega) HB.out.size HQ.out.1 g2 g3 g5 g6 g4 hfl20 (fun Z hz=>HPw.out Z (HD.out Z (HB.out.trans hz)).2)
   clear hFin g1 g2 g3 g4 g5 g6 hfl20
   go_wp2_with fail
   refine Calls.mono HCl.out ?_
   rintro e X1 (⟨ts',last',hs,rfl,xs',hx',ho',hap',hb',hw',hk'⟩ | ⟨hs,rfl,hbn⟩)
   ·
    have HA':Hid (_):=(HYi.out ts' last' hs).1
    have HQ':Hid (B4 X1 Q (.slice va n vc) (.int .i64 last') (.int .i64 0) (.string ⟨(zaz fs (i+1)).toArray⟩)):=by rw [(HYi.out ts' last' hs).2];exact hb'
    have HX':Hid (xs'.map (·.1)=ts'∧zao (xs'.map tvT)):=⟨hx',hap'⟩
    have HO':Hid (za9 X1 W1.heap.size (.slice va n vc) xs'):=ho'
    have HTb':Hid (∀ k,zai (.slice va n vc) xs' k→k<Q):=fun k hk=>HTb.out k (hk' k hk)
    have HF':Hid (X1.ownsRow (Q+1) 9 1 (.slice (some ⟨fb,fo,none⟩) fs.length c4) fs.length (strV fs)):=zhY HF.out hw' (fun k hk hS=>by
     have h1:=(HF.out.lt k hk).1
     rcases hS with h | h
     ·
      have:=HTb.out k (Or.inl h);omega
     ·
      omega)
    have HB':Hid (Below W1.heap.size W1 X1):=HB.out.trans (hw'.below HB.out.size (fun k hS=>by
     rcases hS with h | h
     ·
      exact (HO.out.row.lt k h).1
     ·
      have:=HQ.out.1;omega))
    clear hs hx' ho' hap' hb' hw' hk' HCl HA HX HO HQr HTb HF HB HYi HNi d0
    go_wp2
    go_roundw
    case rel=>exact ⟨i+1,ts',last',xs',by go_num,by omega,HA',HX',HO',HQ',HTb',HF',HB'⟩
    case measure=>simp [intOf];omega
   ·
    have HGo:Hid (_):=HNi.out hs
    have HBn:Hid (Below W1.heap.size W1 X1):=HB.out.trans (hbn.mono HB.out.size)
    have HOn:Hid (za9 X1 W1.heap.size (.slice va n vc) xs):=HO.out.below hbn
    have HQn:Hid (B4 X1 Q (.slice va n vc) (.int .i64 last) (.int .i64 0) (.string ⟨(zaz fs i).toArray⟩)):=HQr.out.below hbn
    clear hs hbn HCl HQr HO HB HF HYi HNi d0
    obtain ⟨g1,g2,g3,g4,g5,g6⟩:=HAg.out _ _ _ HA.out
    have HSs:Hid (_):=HSt.out Q W1.heap.size (.slice va n vc) last (zaz fs i) X1 HQn.out HBn.out.size HQ.out.1 (fun Z hz=>HPw.out Z (HD.out Z (HBn.out.trans hz)).2) g5 g6 g4
    have HYt:Hid (_):=HY.out ts last i HGo.out
    have HNt:Hid (_):=HN.out ts last i HGo.out
    have HDt:Hid (_):=fun (Z:World) h1 h2=>HDk.out va vc ts (last+1) (zaz fs i++zaB (last+1)) Z g1 h1 h2 g2
    have HXl:Hid (xs.length=n):=by exact (by rw [←g1,←HX.out.1,List.length_map]:xs.length=n)
    have HXt:Hid (xs.map (·.1)=ts∧zao (xs.map tvT)):=HX.out
    have HTl:Hid (ts.length=n):=g1
    generalize zaz fs i++zaB (last+1)=sl at HSs HYt HNt HDt
    generalize last+1=ep at HSs HYt HNt HDt
    generalize hdb:zay (ts,ep,0,sl)=ok at HYt HNt HDt
    clear g1 g2 g3 g4 g5 g6 HGo HAg HY HN HSt HDk HYs HNs HEs HAn HA HX hdb
    go_wp2_with fail
    refine Calls.mono HSs.out ?_
    rintro e w5 ⟨rfl,b5,hg5⟩
    have hO5:=HOn.out.kept hg5 (by
     rcases hv:(Value.slice va n vc).ownBlock with _ | k
     ·
      exact Or.inl rfl
     ·
      exact Or.inr (fun e=>by injection e with e;have:=HTb.out k (Or.inl hv);omega)) (fun x hx=>by
     rcases hv:(tvT x).ownBlock with _ | k
     ·
      exact Or.inl rfl
     ·
      exact Or.inr (fun e=>by injection e with e;have:=HTb.out k (Or.inr ⟨x,hx,hv⟩);omega))
    have HB5:Hid (Below W1.heap.size W1 w5):=HBn.out.grown hg5 HBn.out.size (fun k e=>by injection e with e;have:=HQ.out.1;omega)
    have HO5:Hid (za9 w5 W1.heap.size (.slice va n vc) xs):=hO5
    obtain ⟨a7,c7,e7,hok7⟩:=hO5.ok
    rw [HXt.out.1,HXl.out] at hok7
    rw [HXl.out] at e7
    injection e7 with e7 _ e8
    subst e7
    subst e8
    have HK:Hid (_):=HDt.out w5 hok7.in (by have:=hO5.row;rw [HXl.out] at this;exact zgG this)
    have HQ6:Hid (B4 w5 Q (.slice va n vc) (.int .i64 ep) (.int .i64 0) (.string ⟨sl.toArray⟩)):=b5
    have q0:=b5.c0
    have q1:=b5.c1
    have q2:=b5.c2
    have q3:=b5.c3
    clear hO5 hok7 b5 hg5 HDt HSs HQn HOn HBn
    rcases ok with _ | _
    ·
     have HR:Hid (res=(dk0,false)):=HNt.out rfl
     go_wp2_with fail
     refine Calls.mono HK.out ?_
     rintro e w6 ⟨rfl,hb6⟩
     have HB6:Hid (Below W1.heap.size W1 w6):=HB5.out.trans (hb6.mono HB5.out.size)
     obtain ⟨br,hbD⟩:=HD.out w6 HB6.out
     have r0:=br.c0
     have r1:=br.c1
     have r2:=br.c2
     have r3:=br.c3
     have f0:=br.fr 0
     have f1:=br.fr 1
     have f2:=br.fr 2
     have f3:=br.fr 3
     have HBD:Hid (Below D w w6):=hbD
     clear hbD br hb6 q0 q1 q2 q3
     go_wp2
     obtain ⟨X,hX,y0,y1,y2,y3,hg⟩:=set4 (.slice none 0 0) (.int .i64 0) (.int .i64 0) (.string ⟨#[]⟩) r0 r1 r2 r3
     rw [hX]
     refine bodyPost_ret (v:=.tuple #[.agg #[.slice none 0 0,.int .i64 0,.int .i64 0,.string ⟨#[]⟩],.bool false]) (by simp [results,Tryz.results6,go_sem,y0,y1,y2,y3]) rfl ?_
     rw [HR.out]
     exact ⟨_,rfl,ze9.zero (by rw [hD];exact HBD.out.grown hg (by have:=HBD.out.size;omega) (fun k e=>by injection e with e;omega))⟩
    ·
     have HR:Hid (_):=HYt.out rfl
     go_wp2_with fail
     refine Calls.mono HK.out ?_
     rintro e w6 ⟨rfl,hb6⟩
     have HB6:Hid (Below W1.heap.size W1 w6):=HB5.out.trans (hb6.mono HB5.out.size)
     obtain ⟨br,hbD⟩:=HD.out w6 HB6.out
     have bq:=HQ6.out.below hb6
     have HO6:Hid (za9 w6 W1.heap.size (.slice va n vc) xs):=HO5.out.below hb6
     clear q0 q1 q2 q3
     have q0:=bq.c0
     have q1:=bq.c1
     have q2:=bq.c2
     have q3:=bq.c3
     have r0:=br.c0
     have r1:=br.c1
     have r2:=br.c2
     have r3:=br.c3
     have f0:=br.fr 0
     have f1:=br.fr 1
     have f2:=br.fr 2
     have f3:=br.fr 3
     have HBD:Hid (Below D w w6):=hbD
     clear hbD br bq hb6
     go_wp2
     obtain ⟨X,hX,y0,y1,y2,y3,hg⟩:=set4 (.slice va n vc) (.int .i64 ep) (.int .i64 0) (.string ⟨sl.toArray⟩) r0 r1 r2 r3
     rw [hX]
     refine bodyPost_ret (v:=.tuple #[.agg #[.slice va n vc,.int .i64 ep,.int .i64 0,.string ⟨sl.toArray⟩],.bool true]) (by simp [results,Tryz.results6,go_sem,y0,y1,y2,y3]) rfl ?_
     rw [HR.out]
     have hk:=HO6.out.kept hg (zcl HO6.out.row (by omega)) (fun y hy=>zcl (HO6.out.trees y hy) (by omega))
     refine ⟨_,rfl,va,vc,xs,?_,HXt.out.1,?_,HXt.out.2,by rw [hD];exact HBD.out.grown hg (by have:=HBD.out.size;omega) (fun k e=>by injection e with e;omega)⟩
     ·
      rw [HTl.out]
     ·
      rw [HTl.out]
      exact hk.base (by omega)
  ·
   have HGo:Hid (_):=HEs.out ts last i HA.out (by omega)
   have HBn:Hid (Below W1.heap.size W1 X0):=HB.out
   have HOn:Hid (za9 X0 W1.heap.size (.slice va n vc) xs):=HO.out
   have HQn:Hid (B4 X0 Q (.slice va n vc) (.int .i64 last) (.int .i64 0) (.string ⟨(zaz fs i).toArray⟩)):=HQr.out
   clear HQr HO HB HF
   obtain ⟨g1,g2,g3,g4,g5,g6⟩:=HAg.out _ _ _ HA.out
   have HSs:Hid (_):=HSt.out Q W1.heap.size (.slice va n vc) last (zaz fs i) X0 HQn.out HBn.out.size HQ.out.1 (fun Z hz=>HPw.out Z (HD.out Z (HBn.out.trans hz)).2) g5 g6 g4
   have HYt:Hid (_):=HY.out ts last i HGo.out
   have HNt:Hid (_):=HN.out ts last i HGo.out
   have HDt:Hid (_):=fun (Z:World) h1 h2=>HDk.out va vc ts (last+1) (zaz fs i++zaB (last+1)) Z g1 h1 h2 g2
   have HXl:Hid (xs.length=n):=by exact (by rw [←g1,←HX.out.1,List.length_map]:xs.length=n)
   have HXt:Hid (xs.map (·.1)=ts∧zao (xs.map tvT)):=HX.out
   have HTl:Hid (ts.length=n):=g1
   generalize zaz fs i++zaB (last+1)=sl at HSs HYt HNt HDt
   generalize last+1=ep at HSs HYt HNt HDt
   generalize hdb:zay (ts,ep,0,sl)=ok at HYt HNt HDt
   clear g1 g2 g3 g4 g5 g6 HGo HAg HY HN HSt HDk HYs HNs HEs HAn HA HX hdb
   go_wp2_with fail
   refine Calls.mono HSs.out ?_
   rintro e w5 ⟨rfl,b5,hg5⟩
   have hO5:=HOn.out.kept hg5 (by
    rcases hv:(Value.slice va n vc).ownBlock with _ | k
    ·
     exact Or.inl rfl
    ·
     exact Or.inr (fun e=>by injection e with e;have:=HTb.out k (Or.inl hv);omega)) (fun x hx=>by
    rcases hv:(tvT x).ownBlock with _ | k
    ·
     exact Or.inl rfl
    ·
     exact Or.inr (fun e=>by injection e with e;have:=HTb.out k (Or.inr ⟨x,hx,hv⟩);omega))
   have HB5:Hid (Below W1.heap.size W1 w5):=HBn.out.grown hg5 HBn.out.size (fun k e=>by injection e with e;have:=HQ.out.1;omega)
   have HO5:Hid (za9 w5 W1.heap.size (.slice va n vc) xs):=hO5
   obtain ⟨a7,c7,e7,hok7⟩:=hO5.ok
   rw [HXt.out.1,HXl.out] at hok7
   rw [HXl.out] at e7
   injection e7 with e7 _ e8
   subst e7
   subst e8
   have HK:Hid (_):=HDt.out w5 hok7.in (by have:=hO5.row;rw [HXl.out] at this;exact zgG this)
   have HQ6:Hid (B4 w5 Q (.slice va n vc) (.int .i64 ep) (.int .i64 0) (.string ⟨sl.toArray⟩)):=b5
   have q0:=b5.c0
   have q1:=b5.c1
   have q2:=b5.c2
   have q3:=b5.c3
   clear hO5 hok7 b5 hg5 HDt HSs HQn HOn HBn
   rcases ok with _ | _
   ·
    have HR:Hid (res=(dk0,false)):=HNt.out rfl
    go_wp2_with fail
    refine Calls.mono HK.out ?_
    rintro e w6 ⟨rfl,hb6⟩
    have HB6:Hid (Below W1.heap.size W1 w6):=HB5.out.trans (hb6.mono HB5.out.size)
    obtain ⟨br,hbD⟩:=HD.out w6 HB6.out
    have r0:=br.c0
    have r1:=br.c1
    have r2:=br.c2
    have r3:=br.c3
    have f0:=br.fr 0
    have f1:=br.fr 1
    have f2:=br.fr 2
    have f3:=br.fr 3
    have HBD:Hid (Below D w w6):=hbD
    clear hbD br hb6 q0 q1 q2 q3
    go_wp2
    obtain ⟨X,hX,y0,y1,y2,y3,hg⟩:=set4 (.slice none 0 0) (.int .i64 0) (.int .i64 0) (.string ⟨#[]⟩) r0 r1 r2 r3
    rw [hX]
    refine bodyPost_ret (v:=.tuple #[.agg #[.slice none 0 0,.int .i64 0,.int .i64 0,.string ⟨#[]⟩],.bool false]) (by simp [results,Tryz.results6,go_sem,y0,y1,y2,y3]) rfl ?_
    rw [HR.out]
    exact ⟨_,rfl,ze9.zero (by rw [hD];exact HBD.out.grown hg (by have:=HBD.out.size;omega) (fun k e=>by injection e with e;omega))⟩
   ·
    have HR:Hid (_):=HYt.out rfl
    go_wp2_with fail
    refine Calls.mono HK.out ?_
    rintro e w6 ⟨rfl,hb6⟩
    have HB6:Hid (Below W1.heap.size W1 w6):=HB5.out.trans (hb6.mono HB5.out.size)
    obtain ⟨br,hbD⟩:=HD.out w6 HB6.out
    have bq:=HQ6.out.below hb6
    have HO6:Hid (za9 w6 W1.heap.size (.slice va n vc) xs):=HO5.out.below hb6
    clear q0 q1 q2 q3
    have q0:=bq.c0
    have q1:=bq.c1
    have q2:=bq.c2
    have q3:=bq.c3
    have r0:=br.c0
    have r1:=br.c1
    have r2:=br.c2
    have r3:=br.c3
    have f0:=br.fr 0
    have f1:=br.fr 1
    have f2:=br.fr 2
    have f3:=br.fr 3
    have HBD:Hid (Below D w w6):=hbD
    clear hbD br bq hb6
    go_wp2
    obtain ⟨X,hX,y0,y1,y2,y3,hg⟩:=set4 (.slice va n vc) (.int .i64 ep) (.int .i64 0) (.string ⟨sl.toArray⟩) r0 r1 r2 r3
    rw [hX]
    refine bodyPost_ret (v:=.tuple #[.agg #[.slice va n vc,.int .i64 ep,.int .i64 0,.string ⟨sl.toArray⟩],.bool true]) (by simp [results,Tryz.results6,go_sem,y0,y1,y2,y3]) rfl ?_
    rw [HR.out]
    have hk:=HO6.out.kept hg (zcl HO6.out.row (by omega)) (fun y hy=>zcl (HO6.out.trees y hy) (by omega))
    refine ⟨_,rfl,va,vc,xs,?_,HXt.out.1,?_,HXt.out.2,by rw [hD];exact HBD.out.grown hg (by have:=HBD.out.size;omega) (fun k e=>by injection e with e;omega)⟩
    ·
     rw [HTl.out]
    ·
     rw [HTl.out]
     exact hk.base (by omega)
set_option maxHeartbeats 2000000 in
set_option maxRecDepth 100000 in
theorem zh1 (a:Option Addr) (len cap:Nat) (ts:List Ta) (ep nw:Int) (jr:List UInt8) (w:World) (hin:zaK w a len ts) (hc:len≤cap) (hsh:zav ts) (hlen:len≤1048576) :
 Calls Tryz.prog 12 #[.agg #[.slice a len cap,.int .i64 ep,.int .i64 nw,.string ⟨jr.toArray⟩]] w fun e w'=>e=.returned (.bool (zbO (ts,ep,nw,jr)))∧Below w.heap.size w w':=by
 obtain rfl:ts.length=len:=hin.1
 obtain ⟨W,hW⟩:∃ W,w.alloc (.cells #[.slice a ts.length cap,.int .i64 ep,.int .i64 nw,.string ⟨jr.toArray⟩] 29)=W:=⟨_,rfl⟩
 have hbW:Below w.heap.size w W:=by rw [←hW];exact (Below.refl _ _).alloc (Nat.le_refl _) _
 have hA:W.heap[w.heap.size]?=some (.cells #[.slice a ts.length cap,.int .i64 ep,.int .i64 nw,.string ⟨jr.toArray⟩] 29):=by rw [←hW];exact heap_alloc_new w _
 have hsW:W.heap.size=w.heap.size+1:=by rw [←hW];simp
 have HT:Hid (_):=zfC a ts.length cap ts ep nw jr W (hin.below hbW) hc hsh hlen
 have HI:Hid (∀ Z,Below W.heap.size W Z→zaK Z a ts.length ts):=fun Z hz=>(hin.below hbW).below hz
 have HB:Hid (Below w.heap.size w W):=hbW
 obtain ⟨D,hD⟩:∃ D,w.heap.size=D:=⟨_,rfl⟩
 rw [hD] at hA HB hsW ⊢
 have HC:Hid (∀ Z,Below W.heap.size W Z→_):=fun Z hz=>(fourF hz (by omega) hA).1
 obtain ⟨k0,k1,k2,k3⟩:=HC.out W (Below.refl _ _)
 have HV:Hid (zbO (ts,ep,nw,jr)=(zay (ts,ep,nw,jr) && zkB (ts,ep,nw,jr))):=rfl
 have HN:Hid (∀ i,i<ts.length→(ts.getD i ta0).2.2.1≠2→zkB (ts,ep,nw,jr)=false):=fun i hi h=>doneD_no (d:=(ts,ep,nw,jr)) hi h
 have HY:Hid ((∀ i,i<ts.length→(ts.getD i ta0).2.2.1=2)→zkB (ts,ep,nw,jr)=true):=fun h=>zpC (d:=(ts,ep,nw,jr)) h
 generalize zbO (ts,ep,nw,jr)=res at HV ⊢
 generalize zkB (ts,ep,nw,jr)=b2 at HN HY HV
 generalize zay (ts,ep,nw,jr)=b1 at HT HV
 clear hin hsh hbW hA
 go_enter Tryz.func12,Tryz.ntmps12
 go_wp2_with fail
 refine Calls.mono HT.out ?_
 rintro e w1 ⟨rfl,hb1⟩
 rcases b1 with _ | _
 ·
  have HR:Hid (res=false):=HV.out
  go_wp2
  go_ret
  exact ⟨by rw [HR.out];rfl,HB.out.trans (hb1.mono (by omega))⟩
 ·
  have HR:Hid (res=b2):=by exact (by rw [HV.out,Bool.true_and]:res=b2)
  have HB1:Hid (Below W.heap.size W w1):=hb1
  clear k0 k1 k2 k3 hb1
  obtain ⟨k0,-,-,-⟩:=HC.out w1 HB1.out
  clear HT HV
  go_wp2
  go_loopw [11] (fun iv wr=>∃ i:Nat,iv=.int .i64 (i:Int)∧i≤ts.length∧Hid (∀ q,q<i→(ts.getD q ta0).2.2.1=2)∧Hid (Below W.heap.size W wr)) (fun iv _=>ts.length-(intOf iv).toNat)
  case atStart=>exact ⟨0,rfl,by omega,(fun q hq=>by omega),HB1⟩
  case round =>
   obtain ⟨i,rfl,hi,HA,HBr⟩:=hrel
   clear HB1 k0
   by_cases hlt:(i:Int)<(ts.length:Int)
   ·
    obtain ⟨b,off,rfl,hbl,c0,⟨na,nc,c1,hn1⟩,c2,c3,c4,c5⟩:=(HI.out wr HBr.out).2 i (by omega)
    have HNo:Hid (_):=HN.out i (by omega)
    have hst:(ts.getD i ta0).2.2.1=2→∀ q,q<i+1→(ts.getD q ta0).2.2.1=2:=fun h q hq=>by
     rcases Nat.lt_or_ge q i with g | g
     ·
      exact HA.out q g
     ·
      obtain rfl:q=i:=by omega
      exact h
    obtain ⟨f,hf⟩:∃ f,ts.getD i ta0=f:=⟨_,rfl⟩
    rw [hf] at c0 c1 c2 c3 c4 c5 HNo hst
    obtain ⟨nm,ns,st,wk,un,ke⟩:=f
    simp only at c0 c1 c2 c3 c4 c5 HNo hst
    obtain ⟨Y,hY⟩:∃ Y,wr.alloc (.cells #[.string ⟨nm.toArray⟩,.slice na ns.length nc,.int .i64 st,.int .i64 wk,.int .i64 un,.int .i64 ke] 40)=Y:=⟨_,rfl⟩
    have hb:Below wr.heap.size wr Y:=by rw [←hY];exact (Below.refl _ _).alloc (Nat.le_refl _) _
    have hsY:Y.heap.size=wr.heap.size+1:=by rw [←hY];simp
    have hR:Y.heap[wr.heap.size]?=some (.cells #[.string ⟨nm.toArray⟩,.slice na ns.length nc,.int .i64 st,.int .i64 wk,.int .i64 un,.int .i64 ke] 40):=by rw [←hY];exact heap_alloc_new wr _
    have HBY:Hid (Below W.heap.size W Y):=HBr.out.trans (hb.mono HBr.out.size)
    obtain ⟨⟨-,-,y2,-,-,-⟩,-⟩:=sixF (Below.refl _ Y) (by omega) hR
    clear hf hn1 hb hR
    by_cases h2:st=2
    ·
     have HA2:Hid (_):=hst h2
     clear HNo hst HA
     subst h2
     go_wp2
     go_roundw
     case rel=>exact ⟨i+1,by go_num,by omega,HA2,HBY⟩
     case measure=>simp [intOf];omega
    ·
     have HF:Hid (b2=false):=HNo.out h2
     have h2b:(st !=2)=true:=by simp [h2]
     clear HNo hst HA
     go_wp2
     go_ret
     exact ⟨by rw [HR.out,HF.out];rfl,HB.out.trans (HBY.out.mono (by omega))⟩
   ·
    have HF:Hid (b2=true):=HY.out (fun q hq=>HA.out q (by omega))
    clear HA HN HY
    go_wp2
    go_ret
    exact ⟨by rw [HR.out,HF.out];rfl,HB.out.trans (HBr.out.mono (by omega))⟩
end Go.Proofs.YtdbljnddkbpanaaGreatDoor
