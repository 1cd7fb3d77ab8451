/-
  Parts of one proof, one behind the other: RebT, EqT, FnE, ProjL, CellA, FnT, NodeM, FnMS, FnMP, ProjT, ProjM, ProjK, Draw3, DrawW, DrawT, DrawX, DrawN.
-/
import Derived.Test.YtponeoijfaepnaaGreatDoorP17
namespace Go.Proofs.YtponeoijfaepnaaGreatDoor
open Go.RowKit
set_option maxHeartbeats 16000000
set_option maxRecDepth 100000
theorem zks (l:List UInt8) (w:World) (hl:l.length≤1048576) :
 Calls Tryz.prog 107 #[.string ⟨l.toArray⟩] w fun e w'=>∃ v,e=.returned (.tuple #[v,.int .i64 (za3 (zaa l):Nat)])∧w'.ownsRow w.heap.size 9 1 v (zaa l).length (strV (zaa l))∧Below w.heap.size w w' :=
 (zmH l w hl).mono fun _ _ ⟨v,h,k,_,m⟩=>⟨v,h,k,m⟩
theorem zmC (a:Option Addr) (len cap:Nat) (ps:List Pk) (jr:List UInt8) (w:World) (hin:zav w a len ps) (hlen:len≤1048576) (hsh:zby ps) (hjr:jr.length≤1048576) :
 Calls Tryz.prog 85 #[.slice a len cap,.string ⟨jr.toArray⟩] w fun e w'=>∃ v,e=.returned (.tuple #[v,.bool (rebV ps jr).2])∧zbQ w w' v (rebV ps jr).1:=by
 obtain ⟨D,hD⟩:∃ D,w.heap.size=D:=⟨_,rfl⟩
 obtain ⟨W1,hW1⟩:∃ W,w.alloc (.cells #[.slice none 0 0,.int .i64 0,.int .i64 0,.string ⟨#[]⟩] 26)=W:=⟨_,rfl⟩
 have hs1:W1.heap.size=D+1:=by rw [←hW1,←hD];simp
 have hb1:Below D w W1:=by rw [←hW1,←hD];exact (Below.refl _ _).alloc (Nat.le_refl _) _
 have bR:=B4.new w (.slice none 0 0) (.int .i64 0) (.int .i64 0) (.string ⟨#[]⟩) 26;rw [hW1,hD] at bR
 have HD:Hid (∀ Z,Below W1.heap.size W1 Z→B4 Z D (.slice none 0 0) (.int .i64 0) (.int .i64 0) (.string ⟨#[]⟩)∧Below D w Z):=fun Z hz =>
  ⟨bR.below hz,hb1.trans (hz.mono (by omega))⟩
 have HNw:Hid (_):=zel a len cap ps W1 (hin.below (by rw [hD];exact hb1)) hlen hsh;rcases hok:(newV ps).2 with _ | _
 ·
  have HR:Hid (rebV ps jr=(dk0,false)):=reb_new hok;rw [hok] at HNw;generalize (newV ps).1=d at HNw;obtain ⟨ts,ep,nw,j0⟩:=d;clear hin bR hb1 hok hsh
  go_enter Tryz.func85,Tryz.ntmps85
  go_wp2_with fail
  refine Calls.mono HNw.out ?_;rintro e w2 ⟨_,rfl,va,vc,xs,rfl,hx,ho,hap,hb⟩;obtain ⟨Q,hQ⟩:∃ Q,w2.heap.size=Q:=⟨_,rfl⟩
  obtain ⟨Z0,hZ0⟩:∃ Z0,w2.alloc (.cells #[.slice none 0 0,.int .i64 0,.int .i64 0,.string ⟨#[]⟩] 26)=Z0:=⟨_,rfl⟩
  have bz:=B4.new w2 (.slice none 0 0) (.int .i64 0) (.int .i64 0) (.string ⟨#[]⟩) 26;have hbZ:Below w2.heap.size w2 Z0:=by rw [←hZ0];exact (Below.refl _ _).alloc (Nat.le_refl _) _
  rw [hZ0] at bz;rw [hQ] at bz hbZ;have z0:=bz.c0;have z1:=bz.c1;have z2:=bz.c2;have z3:=bz.c3;have zf:=bz.fr;have hbX:Below Q w2 ((((Z0.setCell ⟨Q,0,none⟩ (.slice va ts.length vc)).setCell ⟨Q,1,none⟩ (.int .i64 ep)).setCell ⟨Q,2,none⟩ (.int .i64 nw)).setCell ⟨Q,3,none⟩ (.string ⟨j0.toArray⟩)):=(((hbZ.setCell (Nat.le_refl _) _).setCell (Nat.le_refl _) _).setCell (Nat.le_refl _) _).setCell (Nat.le_refl _) _;obtain ⟨w3,hw3⟩:∃ W,(((Z0.setCell ⟨Q,0,none⟩ (.slice va ts.length vc)).setCell ⟨Q,1,none⟩ (.int .i64 ep)).setCell ⟨Q,2,none⟩ (.int .i64 nw)).setCell ⟨Q,3,none⟩ (.string ⟨j0.toArray⟩)=W:=⟨_,rfl⟩
  rw [hw3] at hbX;obtain ⟨br,hbD⟩:=HD.out w3 (hb.trans (hbX.mono (by rw [←hQ];exact hb.size)));have r0:=br.c0;have r1:=br.c1;have r2:=br.c2;have r3:=br.c3;have f0:=br.fr 0;have f1:=br.fr 1;have f2:=br.fr 2;have f3:=br.fr 3;have HBD:Hid (Below D w w3):=hbD;clear hbD br bz hbZ hbX hx ho hap hb HNw;go_wp2;obtain ⟨X,hX,y0,y1,y2,y3,hg⟩:=set4 (.slice none 0 0) (.int .i64 0) (.int .i64 0) (.string ⟨#[]⟩) r0 r1 r2 r3;rw [hX];refine bodyPost_ret (v:=.tuple #[.agg #[.slice none 0 0,.int .i64 0,.int .i64 0,.string ⟨#[]⟩],.bool false]) (by simp [results,Tryz.results85,go_sem,y0,y1,y2,y3]) rfl ?_;rw [HR.out];exact ⟨_,rfl,zbQ.zero (by rw [hD];exact HBD.out.grown hg (by have:=HBD.out.size;omega) (fun k e=>by injection e with e;omega))⟩
 have hnv:=zdM hok;rw [hok] at HNw;have HFr:Hid (∀ Z,_):=fun Z=>zks jr Z hjr
 have hst:=zdw ps;have h8:=zhE ps;have HId:Hid (_):=zmY ps;have HNd:Hid (_):=zkG ps;have h4:=zgN jr;have HFl:Hid (∀ i,((zaa jr).getD i []).length≤20000):=fun i=>zll jr i
 have HUj:Hid (∀ i,za3 ((zaa jr).take i)≤jr.length):=fun i=>Nat.le_trans (zjQ _ i) (zoT jr).2.2
 have HWp:Hid (∀ i,jr.take (za3 ((zaa jr).take i))=zd2 (zaa jr) i):=fun i=>zgh jr i
 have HY:Hid (∀ ts last i,zaW (zaa jr) (newV ps).1.1 0 0=(ts,last,za3 ((zaa jr).take i))→zac (ts,last+1,0,zd2 (zaa jr) i++zaV (last+1))=true→rebV ps jr=((ts,last+1,0,zd2 (zaa jr) i++zaV (last+1)),true)):=fun ts last i hg hb=>reb_yes (znY hg) hb
 have HN:Hid (∀ ts last i,zaW (zaa jr) (newV ps).1.1 0 0=(ts,last,za3 ((zaa jr).take i))→zac (ts,last+1,0,zd2 (zaa jr) i++zaV (last+1))=false→rebV ps jr=(dk0,false)):=fun ts last i hg hb=>reb_no (znY hg) hb
 generalize rebV ps jr=res at HY HN ⊢;rw [hnv] at HNw;simp only at HNw;generalize (newV ps).1.1=ts0 at HNw hst h8 HId HNd HY HN;have HA0:Hid (_):=zb9.zero (fs:=zaa jr) HId.out;generalize zaa jr=fs at HFr h4 HFl HUj HWp HY HN HA0;have HU0:Hid (za3 (fs.take 0)=0):=by exact (by simp [za3]:za3 (fs.take 0)=0)
 generalize za3 fs=fu at HFr;obtain ⟨n,hn⟩:∃ n,ts0.length=n:=⟨_,rfl⟩
 have hj1:=zdW (n:=1) (by omega) (by omega);generalize zaV 1=sl1 at HNw hj1;have HSt:Hid (_):=fun (ep:Int) (Z:World) (h4:0≤ep) (h5:ep≤1001)=>zgn ep Z (by omega) (by omega)
 have HSL:Hid (∀ ep:Int,0≤ep→ep≤1001→(zaV ep).length≤1000):=fun ep h4 h5=>zdW (by omega) (by omega)
 have HDk:Hid (_):=fun (va:Option Addr) (vc:Nat) (ts:List Ta) (ep:Int) (j:List UInt8) (Z:World) (h0:ts.length=n) (h1:zat Z va n ts) (h3:za1 ts)=>zbW va n vc ts ep 0 j Z h1 h3 (by omega)
 have HAn:Hid (_):=fun (B G base:Nat) (va:Option Addr) (vc:Nat) (xs:List TV) (ts:List Ta) (j f:List UInt8) (last:Int) (Z:World) (g1:ts.length=n) g2 g3 g4 g5 g6 g7 g8 g9 g10 g11 g12 g13 (g14:last≤1000) g15=>znT B G base va vc n xs ts 1 j f last Z g1 g2 g3 g4 g5 g6 g7 g8 g9 (by omega) g10 g11 g12 g13 g14 g15
 have HAg:Hid (∀ ts last i,zb9 fs ts0 ts last i→ts.length=n∧za1 ts∧(∀ p,p<ts.length→∀ q,q<(ts.getD p ta0).2.1.length→0≤(ts.getD p ta0).2.1.getD q 0∧(ts.getD p ta0).2.1.getD q 0<ts.length)∧(∀ j,(ts.getD j ta0).2.2.2.1=0∧(ts.getD j ta0).2.2.2.2.1=0)∧0≤last∧last≤1000∧za3 (fs.take i)≤60000):=fun ts last i h =>
  ⟨h.ag.len.trans hn,h.ag.short hst,h.ag.needs HNd.out,h.ag.idle,h.l0,by have:=h.l1;have:=h.le;omega,by have:=h.used;have:=h.le;omega⟩
 have HYs:Hid (∀ ts last i ts' last',zb9 fs ts0 ts last i→i<fs.length→zbz ts last (fs.getD i [])=some (ts',last')→zb9 fs ts0 ts' last' (i+1)∧za3 (fs.take (i+1))=za3 (fs.take i)+16+(fs.getD i []).length):=fun ts last i ts' last' h hi hs=>⟨h.yes hi h4 h8 hs,by
  rw [List.take_succ_eq_append_getElem hi,zbY];have hg:fs.getD i []=fs[i]:=by simp [List.getD,hi]
  rw [hg];omega⟩
 have HNs:Hid (∀ ts last i,zb9 fs ts0 ts last i→i<fs.length→zbz ts last (fs.getD i [])=none→zaW fs ts0 0 0=(ts,last,za3 (fs.take i))):=fun ts last i h hi hs=>h.no hi hs
 have HEs:Hid (∀ ts last i,zb9 fs ts0 ts last i→fs.length≤i→zaW fs ts0 0 0=(ts,last,za3 (fs.take i))):=fun ts last i h hi=>h.stop hi
 have hfl4:fs.length≤1048576:=by omega
 have HJr:Hid (jr.length≤1048576):=hjr;have hext:=zd1;have hcat:=zc7;clear hin bR hb1 hok hsh hst HId HNd h8 h4 hjr hnv hlen
 go_enter Tryz.func85,Tryz.ntmps85
 go_wp2_with fail
 refine Calls.mono HNw.out ?_;rintro e w2 ⟨_,rfl,va,vc,xs,rfl,hx,ho2,hap,hb2⟩;simp only at hx ho2;rw [hn] at ho2 ⊢;have HB2:Hid (Below W1.heap.size W1 w2):=hb2;obtain ⟨Q,hQ⟩:∃ Q,w2.heap.size=Q:=⟨_,rfl⟩
 obtain ⟨Z0,hZ0⟩:∃ Z0,w2.alloc (.cells #[.slice none 0 0,.int .i64 0,.int .i64 0,.string ⟨#[]⟩] 26)=Z0:=⟨_,rfl⟩
 have bz:=B4.new w2 (.slice none 0 0) (.int .i64 0) (.int .i64 0) (.string ⟨#[]⟩) 26;have hbZ:Below w2.heap.size w2 Z0:=by rw [←hZ0];exact (Below.refl _ _).alloc (Nat.le_refl _) _
 rw [hZ0] at bz;rw [hQ] at bz hbZ;have z0:=bz.c0;have z1:=bz.c1;have z2:=bz.c2;have z3:=bz.c3;have zf:=bz.fr;have b4:=(((bz.s0 (.slice va n vc)).s1 (.int .i64 1)).s2 (.int .i64 0)).s3 (.string ⟨sl1.toArray⟩);have hbX:Below Q w2 ((((Z0.setCell ⟨Q,0,none⟩ (.slice va n vc)).setCell ⟨Q,1,none⟩ (.int .i64 1)).setCell ⟨Q,2,none⟩ (.int .i64 0)).setCell ⟨Q,3,none⟩ (.string ⟨sl1.toArray⟩)):=(((hbZ.setCell (Nat.le_refl _) _).setCell (Nat.le_refl _) _).setCell (Nat.le_refl _) _).setCell (Nat.le_refl _) _;obtain ⟨w3,hw3⟩:∃ W,(((Z0.setCell ⟨Q,0,none⟩ (.slice va n vc)).setCell ⟨Q,1,none⟩ (.int .i64 1)).setCell ⟨Q,2,none⟩ (.int .i64 0)).setCell ⟨Q,3,none⟩ (.string ⟨sl1.toArray⟩)=W:=⟨_,rfl⟩
 rw [hw3] at b4 hbX
 have HQ:Hid (W1.heap.size≤Q∧D+1≤Q):=by have:=hb2.size;exact (by omega:W1.heap.size≤Q∧D+1≤Q)
 have hs3:w3.heap.size=Q+1:=by rw [←hw3,←hZ0,←hQ];simp
 have HS3:Hid (w3.heap.size=Q+1):=hs3;have HB3:Hid (Below W1.heap.size W1 w3):=hb2.trans (hbX.mono HQ.out.1);have HO3:Hid (za2 w3 W1.heap.size (.slice va n vc) xs∧xs.map (·.1)=ts0∧zai (xs.map tvT)):=⟨ho2.below (by rw [hQ];exact hbX),hx,hap⟩
 have HTb:Hid (∀ k,zan (.slice va n vc) xs k→k<Q):=by
  refine (fun k hk=>?_:∀ k,zan (.slice va n vc) xs k→k<Q);rw [←hQ];rcases hk with e | ⟨x,hx,e⟩
  ·exact (ho2.row.lt k e).2
  ·exact ((ho2.trees x hx).lt k e).2
 have HQ4:Hid (B4 w3 Q (.slice va n vc) (.int .i64 1) (.int .i64 0) (.string ⟨sl1.toArray⟩)):=b4;have HFm:Hid (_):=HFr.out w3;clear ho2 hx hap hb2 bz hbZ hbX b4 HNw HFr hs3;go_wp2_with fail
 refine Calls.mono HFm.out ?_;rintro e w4 ⟨v4,rfl,ho4,hb4⟩;obtain ⟨_,a4,c4,rfl,_⟩:=zaP ho4;obtain ⟨G,hG⟩:∃ G,w4.heap.size=G:=⟨_,rfl⟩
 obtain ⟨Y0,hY0⟩:∃ Y0,w4.alloc (.cells #[.int .i64 0] 2)=Y0:=⟨_,rfl⟩
 have bg:=B1.new w4 (.int .i64 0) 2;have hbY:Below G w4 Y0:=by rw [←hY0,←hG];exact (Below.refl _ _).alloc (Nat.le_refl _) _
 rw [hY0,hG] at bg;have g0:=bg.c;have gf:=bg.f;have bg2:=bg.set (.int .i64 0);have hbY2:Below G w4 (Y0.setCell ⟨G,0,none⟩ (.int .i64 0)):=hbY.setCell (Nat.le_refl _) _;obtain ⟨w5,hw5⟩:∃ W,Y0.setCell ⟨G,0,none⟩ (.int .i64 0)=W:=⟨_,rfl⟩
 rw [hw5] at bg2 hbY2;have hb45:Below w4.heap.size w4 w5:=by rw [hG];exact hbY2
 have HGQ:Hid (Q<G):=by have h1:=hb4.size;rw [HS3.out] at h1;exact (by omega:Q<G)
 have HB4:Hid (Below W1.heap.size W1 w5):=(HB3.out.trans (hb4.mono HB3.out.size)).trans (hb45.mono (Nat.le_trans HB3.out.size hb4.size));have HO4:Hid (za2 w5 W1.heap.size (.slice va n vc) xs):=(HO3.out.1.below hb4).below hb45;have HX4:Hid (xs.map (·.1)=ts0∧zai (xs.map tvT)):=⟨HO3.out.2.1,HO3.out.2.2⟩;have HQ5:Hid (B4 w5 Q (.slice va n vc) (.int .i64 1) (.int .i64 0) (.string ⟨sl1.toArray⟩)):=(HQ4.out.below hb4).below hb45;have HF4:Hid (w5.ownsRow (Q+1) 9 1 (.slice a4 fs.length c4) fs.length (strV fs)):=za5 (zaD ho4 (by rw [HS3.out];exact Nat.le_refl _)) hb45;have HFg:Hid (∀ k,(Value.slice a4 fs.length c4).ownBlock=some k→k<G):=fun k hk=>by rw [←hG];exact (ho4.lt k hk).2
 have HG5:Hid (B1 w5 G (.int .i64 0)):=bg2;clear ho4 hb4 HFm hZ0 hw3 z0 z1 z2 z3 zf HQ4 HO3 HB3 HS3 bg bg2 hbY hbY2 hb45;go_wp2
 go_loopw [11,12] (fun uv iv wr=>∃ (i u:Nat) (ts:List Ta) (last:Int) (xs:List TV),uv=.int .i64 (u:Int)∧iv=.int .i64 (i:Int)∧i≤fs.length∧u≤60000∧Hid (za3 (fs.take i)=u)∧Hid (zb9 fs ts0 ts last i)∧Hid (xs.map (·.1)=ts∧zai (xs.map tvT))∧Hid (za2 wr W1.heap.size (.slice va n vc) xs)∧Hid (B4 wr Q (.slice va n vc) (.int .i64 1) (.int .i64 0) (.string ⟨sl1.toArray⟩))∧Hid (B1 wr G (.int .i64 last))∧Hid (∀ k,zan (.slice va n vc) xs k→k<Q)∧Hid (wr.ownsRow (Q+1) 9 1 (.slice a4 fs.length c4) fs.length (strV fs))∧Hid (Below W1.heap.size W1 wr)) (fun _ iv _=>fs.length-(intOf iv).toNat)
 case atStart=>exact ⟨0,0,ts0,0,xs,rfl,rfl,Nat.zero_le _,Nat.zero_le _,HU0,HA0,HX4,HO4,HQ5,HG5,HTb,HF4,HB4⟩
 case round =>
  obtain ⟨i,u,ts,last,xs,rfl,rfl,hi,hu6,HU,HA,HX,HO,HQr,HGr,HTb,HF,HB⟩:=hrel;clear HA0 HX4 HO4 HQ5 HF4 HB4 HG5 HU0;obtain ⟨X0,hX0⟩:∃ X0,X0=wr:=⟨_,rfl⟩
  subst hX0
  (try clear g0 gf hY0 hw5)
  by_cases hlt:(i:Int)<(fs.length:Int)
  ·
   have hi2:i<fs.length:=by omega
   obtain ⟨_,a5,c5,e5,hFin⟩:=zaP HF.out;injection e5 with e5 _ e6;subst e5;subst e6;obtain ⟨fb,fo,rfl,hfl,d0⟩:=hFin.2 i hi2;obtain ⟨g1,g2,g3,g4,g5,g6,g7⟩:=HAg.out _ _ _ HA.out;have HYi:Hid (_):=fun ts' last'=>HYs.out ts last i ts' last' HA.out hi2
   have HNi:Hid (_):=HNs.out ts last i HA.out hi2;have hfl20:=HFl.out i
   have HDf:Hid (∀ Z:World,Z.ownsRow (Q+1) 9 1 (.slice (some ⟨fb,fo,none⟩) fs.length c4) fs.length (strV fs)→Z.cell? ⟨fb,fo+i,none⟩=some (.string ⟨(fs.getD i []).toArray⟩)):=fun Z hz=>by
    obtain ⟨_,a6,c6,e6,hin6⟩:=zaP hz;injection e6 with e6 _ e7;subst e6;subst e7;obtain ⟨fb2,fo2,e8,_,d2⟩:=hin6.2 i hi2;injection e8 with e8;injection e8 with e8 e9 _;subst e8;subst e9;exact d2
   generalize fs.getD i []=f at d0 HYi HNi hfl20 HDf;have HCl:Hid (_):=HAn.out Q G W1.heap.size va vc xs ts sl1 f last X0 g1 HQr.out HGr.out HO.out HX.out.1 HX.out.2 (fun k hk=>by have:=HTb.out k hk;have:=HGQ.out;omega) (by have:=HGQ.out;omega) HB.out.size g2 g3 g4 g5 g6 hfl20;clear hFin g1 g2 g3 g4 g5 g6 g7;go_wp2_with fail
   refine Calls.mono HCl.out ?_;rintro e X1 (⟨ts',last',hs,rfl,xs',hx',ho',hap',hg',hw',hk'⟩ | ⟨hs,rfl,hbn⟩)
   ·
    have HA':Hid (_):=(HYi.out ts' last' hs).1;have HU':Hid (za3 (fs.take (i+1))=u+16+f.length):=(HYi.out ts' last' hs).2.trans (by rw [HU.out]);have hu':u+16+f.length≤60000:=by rw [←HU'.out];exact (HAg.out _ _ _ HA'.out).2.2.2.2.2.2
    have HX':Hid (xs'.map (·.1)=ts'∧zai (xs'.map tvT)):=⟨hx',hap'⟩;have HO':Hid (za2 X1 W1.heap.size (.slice va n vc) xs'):=ho';have HG':Hid (B1 X1 G (.int .i64 last')):=hg';have HTb':Hid (∀ k,zan (.slice va n vc) xs' k→k<Q):=fun k hk=>HTb.out k (hk' k hk)
    have HF':Hid (X1.ownsRow (Q+1) 9 1 (.slice (some ⟨fb,fo,none⟩) fs.length c4) fs.length (strV fs)):=zmN HF.out hw' (fun k hk hS=>by
     have h1:=(HF.out.lt k hk).1;have h2:=HFg.out k hk;rcases hS with h | h
     ·have:=HTb.out k (Or.inl h);omega
     ·omega)
    have HQ':Hid (B4 X1 Q (.slice va n vc) (.int .i64 1) (.int .i64 0) (.string ⟨sl1.toArray⟩)):=HQr.out.keep (hw'.block Q HQr.out.lt (fun hS=>by
     rcases hS with h | h
     ·have:=HTb.out Q (Or.inl h);omega
     ·have:=HGQ.out;omega))
    have HB':Hid (Below W1.heap.size W1 X1):=HB.out.trans (hw'.below HB.out.size (fun k hS=>by
     rcases hS with h | h
     ·exact (HO.out.row.lt k h).1
     ·have:=HQ.out.1;have:=HGQ.out;omega))
    have d2:=HDf.out X1 HF'.out;clear hs hx' ho' hap' hg' hw' hk' HCl HA HX HO HQr HGr HTb HF HB HYi HNi d0 HU;go_wp2;go_roundw
    case rel=>exact ⟨i+1,u+16+f.length,ts',last',xs',by go_num,by go_num,by omega,hu',HU',HA',HX',HO',HQ',HG',HTb',HF',HB'⟩
    case measure=>simp [intOf];omega
   ·
    have HGo:Hid (_):=HNi.out hs;have HBn:Hid (Below W1.heap.size W1 X1):=HB.out.trans (hbn.mono HB.out.size);have HOn:Hid (za2 X1 W1.heap.size (.slice va n vc) xs):=HO.out.below hbn;have HQn:Hid (B4 X1 Q (.slice va n vc) (.int .i64 1) (.int .i64 0) (.string ⟨sl1.toArray⟩)):=HQr.out.below hbn;have HGn:Hid (B1 X1 G (.int .i64 last)):=HGr.out.below hbn;clear hs hbn HCl HQr HGr HO HB HF HYi HNi d0 HDf hfl20;obtain ⟨g1,g2,g3,g4,g5,g6,g7⟩:=HAg.out _ _ _ HA.out;have hwl:IntKind.i64.wrap (last+1)=last+1:=by rw [IntKind.wrap_i64];omega
    have HYt:Hid (_):=HY.out ts last i HGo.out;have HNt:Hid (_):=HN.out ts last i HGo.out;have HWu:Hid (jr.take u=zd2 fs i):=by rw [←HU.out];exact HWp.out i
    have huj:u≤jr.length:=by rw [←HU.out];exact HUj.out i
    have HSs:Hid (∀ Z,_):=fun Z=>HSt.out (last+1) Z (by omega) (by omega)
    have hsl:=HSL.out (last+1) (by omega) (by omega);have HDt:Hid (_):=fun (Z:World) h1=>HDk.out va vc ts (last+1) (zd2 fs i++zaV (last+1)) Z g1 h1 g2
    have HXl:Hid (xs.length=n):=by exact (by rw [←g1,←HX.out.1,List.length_map]:xs.length=n)
    have HXt:Hid (xs.map (·.1)=ts∧zai (xs.map tvT)):=HX.out;have HTl:Hid (ts.length=n):=g1;rw [←HWu.out] at HYt HNt HDt;generalize hse:zaV (last+1)=se at HSs HYt HNt HDt hsl;have hwl2:Hid (last+1=last+1):=rfl;have qg:=HGn.out.c;have q1:=HQn.out.c1;have q3:=HQn.out.c3;have qf1:=HQn.out.fr 1;have qf3:=HQn.out.fr 3;have hGQ:(⟨Q,1,none⟩:Addr)≠⟨G,0,none⟩:=by intro e;injection e with e;have:=HGQ.out;omega
    have hjl:(jr.take u).length=u:=by rw [List.length_take];omega
    have hjr:=HJr.out;have hxs:(⟨jr.toArray⟩:ByteArray).extract 0 u=⟨(jr.take u).toArray⟩:=by rw [zd1];simp
    clear hext g1 g2 g3 g4 g7 HGo HAg HY HN HSt HDk HYs HNs HEs HAn HA HX hse HUj HWp HU HWu hGQ hwl2;obtain ⟨Y1,hY1⟩:∃ Y,X1.setCell ⟨Q,1,none⟩ (.int .i64 (last+1))=Y:=⟨_,rfl⟩
    have HQ1:Hid (B4 Y1 Q (.slice va n vc) (.int .i64 (last+1)) (.int .i64 0) (.string ⟨sl1.toArray⟩)):=by rw [←hY1];exact HQn.out.s1 _
    have HgY:Hid (X1.grownBy Y1 (some Q)):=by rw [←hY1];exact zae _ _ _ _
    have HYd:Hid (Below Y1.heap.size Y1 Y1.drew):=⟨rfl,rfl,rfl,Nat.le_refl _,fun _ _=>rfl⟩;go_wp2;clear q1 q3 qf1 qf3;have q1:=HQ1.out.c1;have q3:=HQ1.out.c3;have qf3:=HQ1.out.fr 3;refine Till.region (S:=(fun Z=>Z.cell? ⟨Q,1,none⟩=some (.int .i64 (last+1)))) (E:=[8]) (by kernel_rfl) ?_ (fun hHeld hSh=>?_)
    ·exact q1
    refine tkO [(0,49),(1,50),(2,51),(3,52),(4,53)] ?_
    repeat (refine tlY ?_ rfl (by rfl) ?_ (fun hSh2=>?_);rotate_left;(focus (intro wq hSw;(try dsimp only at hSw);first | (go_simp;done) | (go_simp;with_reducible rfl) | (go_simp;rw [if_neg (by omega)])));clear hSh;rename zaI _ _ _=>hSh;simp only [zP])
    refine tkZ ?_;refine Till.one (i:=5) (by kernel_rfl) rfl hSh (fun K hK=>?_);clear hSh;go_simp
    (go_at_call 51;refine Calls.mono (HSs.out _) ?_;rintro e w8 ⟨rfl,hb8⟩;have HB8:Hid (Below Y1.heap.size Y1 w8):=(by first | exact hb8 | exact HYd.out.trans (hb8.mono HYd.out.size));clear hb8 q1 qf3;have q1:=(HQ1.out.below HB8.out).c1;have qf3:=(HQ1.out.below HB8.out).fr 3;have q3:=(HQ1.out.below HB8.out).c3)
    refine hK.out _ _ ?_ (fun hHeld hSh=>?_)
    ·exact q1
    clear hK K;refine tkO [(6,55),(7,56)] ?_
    repeat (refine tlY ?_ rfl (by rfl) ?_ (fun hSh2=>?_);rotate_left;(focus (intro wq hSw;(try dsimp only at hSw);first | (go_simp;done) | (go_simp;with_reducible rfl) | (go_simp;rw [if_neg (by omega)])));clear hSh;rename zaI _ _ _=>hSh;simp only [zP])
    refine tkZ ?_;obtain ⟨w9,hw9⟩:∃ W,w8.setCell ⟨Q,3,none⟩ (.string ⟨(jr.take u++se).toArray⟩)=W:=⟨_,rfl⟩
    have hg9:w8.grownBy w9 (some Q):=by rw [←hw9];exact zae _ _ _ _
    have HQ9:Hid (B4 w9 Q (.slice va n vc) (.int .i64 (last+1)) (.int .i64 0) (.string ⟨(jr.take u++se).toArray⟩)):=by rw [←hw9];exact (HQ1.out.below HB8.out).s3 _
    have hBY:Below W1.heap.size W1 Y1:=HBn.out.grown HgY.out HBn.out.size (fun k e=>by injection e with e;have:=HQ.out.1;omega);have hB8w:Below W1.heap.size W1 w8:=hBY.trans (HB8.out.mono hBY.size);have HB9:Hid (Below W1.heap.size W1 w9):=hB8w.grown hg9 hB8w.size (fun k e=>by injection e with e;have:=HQ.out.1;omega)
    have hoff:∀ v:Value,(∀ k,v.ownBlock=some k→k<Q)→v.ownBlock=none∨v.ownBlock≠some Q:=fun v h=>by
     rcases hv:v.ownBlock with _ | k
     ·exact Or.inl rfl
     ·exact Or.inr (fun e=>by injection e with e;have:=h k hv;omega)
    have hOY:=HOn.out.kept HgY.out (hoff _ (fun k hk=>HTb.out k (Or.inl hk))) (fun x hx=>hoff _ (fun k hk=>HTb.out k (Or.inr ⟨x,hx,hk⟩)));have HO9:Hid (za2 w9 W1.heap.size (.slice va n vc) xs):=(hOY.below HB8.out).kept hg9 (hoff _ (fun k hk=>HTb.out k (Or.inl hk))) (fun x hx=>hoff _ (fun k hk=>HTb.out k (Or.inr ⟨x,hx,hk⟩)));clear hg9 hBY hB8w hoff hOY;refine Till.last (i:=8) (by kernel_rfl) rfl (by decide) (fun K hK=>?_);go_simp;refine hK.out _ _ ?_;clear hK K
    (try rw [hw9])
    refine Till.done (by kernel_rfl) ?_ _;obtain ⟨a7,c7,e7,hok7⟩:=HO9.out.ok;rw [HXt.out.1,HXl.out] at hok7;rw [HXl.out] at e7;injection e7 with e7 _ e8;subst e7;subst e8;have HK:Hid (_):=HDt.out w9 hok7.in;generalize hdb:zac (ts,last+1,0,jr.take u++se)=ok at HK HYt HNt;clear hok7 q1 qf3 q3 hw9 HDt;have q0:=HQ9.out.c0;have q1:=HQ9.out.c1;have q2:=HQ9.out.c2;have q3:=HQ9.out.c3;go_wp2_with fail
    refine Calls.mono HK.out ?_;rintro e w10 ⟨rfl,hb10⟩;have HB10:Hid (Below W1.heap.size W1 w10):=HB9.out.trans (hb10.mono HB9.out.size);have HO10:Hid (za2 w10 W1.heap.size (.slice va n vc) xs):=HO9.out.below hb10;have HQ10:Hid (B4 w10 Q (.slice va n vc) (.int .i64 (last+1)) (.int .i64 0) (.string ⟨(jr.take u++se).toArray⟩)):=HQ9.out.below hb10;obtain ⟨br,hbD⟩:=HD.out w10 HB10.out;clear hb10 q0 q1 q2 q3;have r0:=br.c0;have r1:=br.c1;have r2:=br.c2;have r3:=br.c3;have f0:=br.fr 0;have f1:=br.fr 1;have f2:=br.fr 2;have f3:=br.fr 3;have HBD:Hid (Below D w w10):=hbD;clear hbD br;rcases ok with _ | _
    ·have HR:Hid (res=(dk0,false)):=HNt.out (by first | exact hdb | rfl);go_wp2;obtain ⟨X,hX,y0,y1,y2,y3,hg⟩:=set4 (.slice none 0 0) (.int .i64 0) (.int .i64 0) (.string ⟨#[]⟩) r0 r1 r2 r3;rw [hX];refine bodyPost_ret (v:=.tuple #[.agg #[.slice none 0 0,.int .i64 0,.int .i64 0,.string ⟨#[]⟩],.bool false]) (by simp [results,Tryz.results85,go_sem,y0,y1,y2,y3]) rfl ?_;rw [HR.out];exact ⟨_,rfl,zbQ.zero (by rw [hD];exact HBD.out.grown hg (by have:=HBD.out.size;omega) (fun k e=>by injection e with e;omega))⟩
    ·
     have HR:Hid (_):=HYt.out (by first | exact hdb | rfl);have q0:=HQ10.out.c0;have q1:=HQ10.out.c1;have q2:=HQ10.out.c2;have q3:=HQ10.out.c3;go_wp2;obtain ⟨X,hX,y0,y1,y2,y3,hg⟩:=set4 (.slice va n vc) (.int .i64 (last+1)) (.int .i64 0) (.string ⟨(jr.take u++se).toArray⟩) r0 r1 r2 r3;rw [hX];refine bodyPost_ret (v:=.tuple #[.agg #[.slice va n vc,.int .i64 (last+1),.int .i64 0,.string ⟨(jr.take u++se).toArray⟩],.bool true]) (by simp [results,Tryz.results85,go_sem,y0,y1,y2,y3]) rfl ?_;rw [HR.out];have hk:=HO10.out.kept hg (za8 HO10.out.row (by omega)) (fun y hy=>za8 (HO10.out.trees y hy) (by omega));refine ⟨_,rfl,va,vc,xs,?_,HXt.out.1,?_,HXt.out.2,by rw [hD];exact HBD.out.grown hg (by have:=HBD.out.size;omega) (fun k e=>by injection e with e;omega)⟩
     ·rw [HTl.out]
     ·rw [HTl.out];exact hk.base (by omega)
  ·
   have HGo:Hid (_):=HEs.out ts last i HA.out (by omega);have HBn:Hid (Below W1.heap.size W1 X0):=HB.out;have HOn:Hid (za2 X0 W1.heap.size (.slice va n vc) xs):=HO.out;have HQn:Hid (B4 X0 Q (.slice va n vc) (.int .i64 1) (.int .i64 0) (.string ⟨sl1.toArray⟩)):=HQr.out;have HGn:Hid (B1 X0 G (.int .i64 last)):=HGr.out;clear HQr HGr HO HB HF;obtain ⟨g1,g2,g3,g4,g5,g6,g7⟩:=HAg.out _ _ _ HA.out;have hwl:IntKind.i64.wrap (last+1)=last+1:=by rw [IntKind.wrap_i64];omega
   have HYt:Hid (_):=HY.out ts last i HGo.out;have HNt:Hid (_):=HN.out ts last i HGo.out;have HWu:Hid (jr.take u=zd2 fs i):=by rw [←HU.out];exact HWp.out i
   have huj:u≤jr.length:=by rw [←HU.out];exact HUj.out i
   have HSs:Hid (∀ Z,_):=fun Z=>HSt.out (last+1) Z (by omega) (by omega)
   have hsl:=HSL.out (last+1) (by omega) (by omega);have HDt:Hid (_):=fun (Z:World) h1=>HDk.out va vc ts (last+1) (zd2 fs i++zaV (last+1)) Z g1 h1 g2
   have HXl:Hid (xs.length=n):=by exact (by rw [←g1,←HX.out.1,List.length_map]:xs.length=n)
   have HXt:Hid (xs.map (·.1)=ts∧zai (xs.map tvT)):=HX.out;have HTl:Hid (ts.length=n):=g1;rw [←HWu.out] at HYt HNt HDt;generalize hse:zaV (last+1)=se at HSs HYt HNt HDt hsl;have hwl2:Hid (last+1=last+1):=rfl;have qg:=HGn.out.c;have q1:=HQn.out.c1;have q3:=HQn.out.c3;have qf1:=HQn.out.fr 1;have qf3:=HQn.out.fr 3;have hGQ:(⟨Q,1,none⟩:Addr)≠⟨G,0,none⟩:=by intro e;injection e with e;have:=HGQ.out;omega
   have hjl:(jr.take u).length=u:=by rw [List.length_take];omega
   have hjr:=HJr.out;have hxs:(⟨jr.toArray⟩:ByteArray).extract 0 u=⟨(jr.take u).toArray⟩:=by rw [zd1];simp
   clear hext g1 g2 g3 g4 g7 HGo HAg HY HN HSt HDk HYs HNs HEs HAn HA HX hse HUj HWp HU HWu hGQ hwl2;obtain ⟨Y1,hY1⟩:∃ Y,X0.setCell ⟨Q,1,none⟩ (.int .i64 (last+1))=Y:=⟨_,rfl⟩
   have HQ1:Hid (B4 Y1 Q (.slice va n vc) (.int .i64 (last+1)) (.int .i64 0) (.string ⟨sl1.toArray⟩)):=by rw [←hY1];exact HQn.out.s1 _
   have HgY:Hid (X0.grownBy Y1 (some Q)):=by rw [←hY1];exact zae _ _ _ _
   have HYd:Hid (Below Y1.heap.size Y1 Y1.drew):=⟨rfl,rfl,rfl,Nat.le_refl _,fun _ _=>rfl⟩;go_wp2;clear q1 q3 qf1 qf3;have q1:=HQ1.out.c1;have q3:=HQ1.out.c3;have qf3:=HQ1.out.fr 3;refine Till.region (S:=(fun Z=>Z.cell? ⟨Q,1,none⟩=some (.int .i64 (last+1)))) (E:=[8]) (by kernel_rfl) ?_ (fun hHeld hSh=>?_)
   ·exact q1
   refine tkO [(0,49),(1,50),(2,51),(3,52),(4,53)] ?_
   repeat (refine tlY ?_ rfl (by rfl) ?_ (fun hSh2=>?_);rotate_left;(focus (intro wq hSw;(try dsimp only at hSw);first | (go_simp;done) | (go_simp;with_reducible rfl) | (go_simp;rw [if_neg (by omega)])));clear hSh;rename zaI _ _ _=>hSh;simp only [zP])
   refine tkZ ?_;refine Till.one (i:=5) (by kernel_rfl) rfl hSh (fun K hK=>?_);clear hSh;go_simp
   (go_at_call 51;refine Calls.mono (HSs.out _) ?_;rintro e w8 ⟨rfl,hb8⟩;have HB8:Hid (Below Y1.heap.size Y1 w8):=(by first | exact hb8 | exact HYd.out.trans (hb8.mono HYd.out.size));clear hb8 q1 qf3;have q1:=(HQ1.out.below HB8.out).c1;have qf3:=(HQ1.out.below HB8.out).fr 3;have q3:=(HQ1.out.below HB8.out).c3)
   refine hK.out _ _ ?_ (fun hHeld hSh=>?_)
   ·exact q1
   clear hK K;refine tkO [(6,55),(7,56)] ?_
   repeat (refine tlY ?_ rfl (by rfl) ?_ (fun hSh2=>?_);rotate_left;(focus (intro wq hSw;(try dsimp only at hSw);first | (go_simp;done) | (go_simp;with_reducible rfl) | (go_simp;rw [if_neg (by omega)])));clear hSh;rename zaI _ _ _=>hSh;simp only [zP])
   refine tkZ ?_;obtain ⟨w9,hw9⟩:∃ W,w8.setCell ⟨Q,3,none⟩ (.string ⟨(jr.take u++se).toArray⟩)=W:=⟨_,rfl⟩
   have hg9:w8.grownBy w9 (some Q):=by rw [←hw9];exact zae _ _ _ _
   have HQ9:Hid (B4 w9 Q (.slice va n vc) (.int .i64 (last+1)) (.int .i64 0) (.string ⟨(jr.take u++se).toArray⟩)):=by rw [←hw9];exact (HQ1.out.below HB8.out).s3 _
   have hBY:Below W1.heap.size W1 Y1:=HBn.out.grown HgY.out HBn.out.size (fun k e=>by injection e with e;have:=HQ.out.1;omega);have hB8w:Below W1.heap.size W1 w8:=hBY.trans (HB8.out.mono hBY.size);have HB9:Hid (Below W1.heap.size W1 w9):=hB8w.grown hg9 hB8w.size (fun k e=>by injection e with e;have:=HQ.out.1;omega)
   have hoff:∀ v:Value,(∀ k,v.ownBlock=some k→k<Q)→v.ownBlock=none∨v.ownBlock≠some Q:=fun v h=>by
    rcases hv:v.ownBlock with _ | k
    ·exact Or.inl rfl
    ·exact Or.inr (fun e=>by injection e with e;have:=h k hv;omega)
   have hOY:=HOn.out.kept HgY.out (hoff _ (fun k hk=>HTb.out k (Or.inl hk))) (fun x hx=>hoff _ (fun k hk=>HTb.out k (Or.inr ⟨x,hx,hk⟩)));have HO9:Hid (za2 w9 W1.heap.size (.slice va n vc) xs):=(hOY.below HB8.out).kept hg9 (hoff _ (fun k hk=>HTb.out k (Or.inl hk))) (fun x hx=>hoff _ (fun k hk=>HTb.out k (Or.inr ⟨x,hx,hk⟩)));clear hg9 hBY hB8w hoff hOY;refine Till.last (i:=8) (by kernel_rfl) rfl (by decide) (fun K hK=>?_);go_simp;refine hK.out _ _ ?_;clear hK K
   (try rw [hw9])
   refine Till.done (by kernel_rfl) ?_ _;obtain ⟨a7,c7,e7,hok7⟩:=HO9.out.ok;rw [HXt.out.1,HXl.out] at hok7;rw [HXl.out] at e7;injection e7 with e7 _ e8;subst e7;subst e8;have HK:Hid (_):=HDt.out w9 hok7.in;generalize hdb:zac (ts,last+1,0,jr.take u++se)=ok at HK HYt HNt;clear hok7 q1 qf3 q3 hw9 HDt;have q0:=HQ9.out.c0;have q1:=HQ9.out.c1;have q2:=HQ9.out.c2;have q3:=HQ9.out.c3;go_wp2_with fail
   refine Calls.mono HK.out ?_;rintro e w10 ⟨rfl,hb10⟩;have HB10:Hid (Below W1.heap.size W1 w10):=HB9.out.trans (hb10.mono HB9.out.size);have HO10:Hid (za2 w10 W1.heap.size (.slice va n vc) xs):=HO9.out.below hb10;have HQ10:Hid (B4 w10 Q (.slice va n vc) (.int .i64 (last+1)) (.int .i64 0) (.string ⟨(jr.take u++se).toArray⟩)):=HQ9.out.below hb10;obtain ⟨br,hbD⟩:=HD.out w10 HB10.out;clear hb10 q0 q1 q2 q3;have r0:=br.c0;have r1:=br.c1;have r2:=br.c2;have r3:=br.c3;have f0:=br.fr 0;have f1:=br.fr 1;have f2:=br.fr 2;have f3:=br.fr 3;have HBD:Hid (Below D w w10):=hbD;clear hbD br;rcases ok with _ | _
   ·have HR:Hid (res=(dk0,false)):=HNt.out (by first | exact hdb | rfl);go_wp2;obtain ⟨X,hX,y0,y1,y2,y3,hg⟩:=set4 (.slice none 0 0) (.int .i64 0) (.int .i64 0) (.string ⟨#[]⟩) r0 r1 r2 r3;rw [hX];refine bodyPost_ret (v:=.tuple #[.agg #[.slice none 0 0,.int .i64 0,.int .i64 0,.string ⟨#[]⟩],.bool false]) (by simp [results,Tryz.results85,go_sem,y0,y1,y2,y3]) rfl ?_;rw [HR.out];exact ⟨_,rfl,zbQ.zero (by rw [hD];exact HBD.out.grown hg (by have:=HBD.out.size;omega) (fun k e=>by injection e with e;omega))⟩
   ·
    have HR:Hid (_):=HYt.out (by first | exact hdb | rfl);have q0:=HQ10.out.c0;have q1:=HQ10.out.c1;have q2:=HQ10.out.c2;have q3:=HQ10.out.c3;go_wp2;obtain ⟨X,hX,y0,y1,y2,y3,hg⟩:=set4 (.slice va n vc) (.int .i64 (last+1)) (.int .i64 0) (.string ⟨(jr.take u++se).toArray⟩) r0 r1 r2 r3;rw [hX];refine bodyPost_ret (v:=.tuple #[.agg #[.slice va n vc,.int .i64 (last+1),.int .i64 0,.string ⟨(jr.take u++se).toArray⟩],.bool true]) (by simp [results,Tryz.results85,go_sem,y0,y1,y2,y3]) rfl ?_;rw [HR.out];have hk:=HO10.out.kept hg (za8 HO10.out.row (by omega)) (fun y hy=>za8 (HO10.out.trees y hy) (by omega));refine ⟨_,rfl,va,vc,xs,?_,HXt.out.1,?_,HXt.out.2,by rw [hD];exact HBD.out.grown hg (by have:=HBD.out.size;omega) (fun k e=>by injection e with e;omega)⟩
    ·rw [HTl.out]
    ·rw [HTl.out];exact hk.base (by omega)



theorem zbU {w:World} {a:Addr} {v:Value} (o:Obj) (h:w.cell? a=some v):(w.alloc o).cell? a=some v :=
 (World.cell?_of_block (Below.heap_alloc _ _ _ (World.block_lt_of_cell? w a h))).trans h


def FnBlocks (v:Value) (xs:List FV) (k:Nat):Prop:=v.ownBlock=some k∨∃ x∈xs,(fvT x).ownBlock=some k
theorem zaU.alloc {w:World} {base:Nat} {v:Value} {xs:List FV} (h:zaU w base v xs) (o:Obj):zaU (w.alloc o) base v xs:=⟨h.row.alloc o,fun x hx=>(h.trees x hx).alloc o⟩
theorem zaU.none {w w':World} {base:Nat} {v:Value} {xs:List FV} (h:zaU w base v xs) (hg:w.grownBy w' none):zaU w' base v xs:=⟨zcX h.row hg,fun x hx=>zcX (h.trees x hx) hg⟩
theorem zaU.texts {w w':World} {base b2 n:Nat} {v vi:Value} {xs:List FV} {ys:List Value} (h:zaU w base v xs) (hi:w.ownsRow b2 9 1 vi n ys) (hg:w.grownBy w' vi.ownBlock):zaU w' base v xs :=
 ⟨h.row.kept hg (zam h.row hi (by decide)),fun x hx=>(h.trees x hx).kept hg (zam (h.trees x hx) hi (by decide))⟩
def PkBlocks (vi vf:Value) (xs:List FV) (k:Nat):Prop:=vi.ownBlock=some k∨FnBlocks vf xs k
structure PV where
 nm:List UInt8
 ims:List (List UInt8)
 xs:List FV
 ia:Option Addr
 ic:Nat
 fa:Option Addr
 fc:Nat
 lo:Nat
 hi:Nat
def pvI (y:PV):Value:=.slice y.ia y.ims.length y.ic
def pvF (y:PV):Value:=.slice y.fa y.xs.length y.fc
def pvP (y:PV):Pk:=(y.nm,y.ims,y.xs.map (·.1))
def pv0:PV:=⟨[],[],[],none,0,none,0,0,0⟩
def pvsV:List PV→List Value
 | []=>[]
 | y :: r=>.string ⟨y.nm.toArray⟩ :: pvI y :: pvF y :: pvsV r
theorem zo0 (ys:List PV) (j:Nat) (hj:j<ys.length):(pvsV ys)[j*3]?=some (.string ⟨(ys.getD j pv0).nm.toArray⟩)∧(pvsV ys)[j*3+1]?=some (pvI (ys.getD j pv0))∧(pvsV ys)[j*3+2]?=some (pvF (ys.getD j pv0)):=by
 induction ys generalizing j with
 | nil=>simp at hj
 | cons n r ih =>
  cases j with
  | zero=>simp [pvsV]
  | succ j =>
   obtain ⟨h0,h1,h2⟩:=ih j (by simpa using hj);refine ⟨?_,?_,?_⟩
   ·rw [show (j+1)*3=j*3+1+1+1 by omega];simpa [pvsV] using h0
   ·rw [show (j+1)*3+1=j*3+1+1+1+1 by omega];simpa [pvsV] using h1
   ·rw [show (j+1)*3+2=j*3+2+1+1+1 by omega];simpa [pvsV] using h2
theorem zlh (ys:List PV) (j:Nat):(ys.map pvP).getD j pk0=pvP (ys.getD j pv0):=by
 rw [List.getD_eq_getElem?_getD,List.getD_eq_getElem?_getD,List.getElem?_map];cases ys[j]?<;>rfl
theorem zkO:(Tryz.prog.info? 99).map (fun i=>(i.zero,i.size,i.bytes))=some (some (.agg #[.string ⟨#[]⟩,.slice none 0 0,.slice none 0 0]),3,64):=by kernel_rfl

structure zab (w:World) (a:Option Addr) (len cap:Nat) (ps:List Pk):Prop where
 hlen:ps.length=len
 nil:a=none→cap=0
 hcap:len≤cap
 small:len≤1048576
 each:∀ j,j<len→∃ b off,a=some ⟨b,off,none⟩∧b<w.heap.size∧w.cell? ⟨b,off+j*3,none⟩=some (.string ⟨(ps.getD j pk0).1.toArray⟩) ∧
  ∃ ia il ic fa fl fc,w.cell? ⟨b,off+j*3+1,none⟩=some (.slice ia il ic)∧w.cell? ⟨b,off+j*3+2,none⟩=some (.slice fa fl fc)∧PkOk w (ps.getD j pk0).1 ia il ic fa fl fc (ps.getD j pk0).2.1 (ps.getD j pk0).2.2
theorem zab.below {w w':World} {a:Option Addr} {len cap:Nat} {ps:List Pk} (h:zab w a len cap ps) (hb:Below w.heap.size w w'):zab w' a len cap ps :=
 ⟨h.hlen,h.nil,h.hcap,h.small,fun j hj=>by
  obtain ⟨b,off,e,hlt,c0,ia,il,ic,fa,fl,fc,c1,c2,hk⟩:=h.each j hj;exact ⟨b,off,e,Nat.lt_of_lt_of_le hlt hb.size,(hb.cell (p:=⟨b,off+j*3,none⟩) hlt).trans c0,ia,il,ic,fa,fl,fc,(hb.cell (p:=⟨b,off+j*3+1,none⟩) hlt).trans c1,(hb.cell (p:=⟨b,off+j*3+2,none⟩) hlt).trans c2,hk.below hb⟩⟩
theorem zab.in {w:World} {a:Option Addr} {len cap:Nat} {ps:List Pk} (h:zab w a len cap ps):zav w a len ps :=
 ⟨h.hlen,fun j hj=>by
  obtain ⟨b,off,e,hlt,c0,ia,il,ic,fa,fl,fc,c1,c2,hk⟩:=h.each j hj;exact ⟨b,off,e,hlt,c0,ia,il,ic,fa,fl,fc,c1,c2,hk.i,hk.f⟩⟩
theorem zab.short {w:World} {a:Option Addr} {len cap:Nat} {ps:List Pk} (h:zab w a len cap ps):zby ps:=fun j=>by
 by_cases hj:j<len
 ·obtain ⟨b,off,e,hlt,c0,ia,il,ic,fa,fl,fc,c1,c2,hk⟩:=h.each j hj;exact ⟨hk.nm,by rw [hk.i.1];exact hk.il,hk.is,by rw [hk.f.1];exact hk.fl,hk.fs⟩
 ·
  have:ps.getD j pk0=pk0:=by rw [List.getD,List.getElem?_eq_none (by rw [h.hlen];omega)];rfl
  rw [this];exact ⟨by simp [pk0],by simp [pk0],fun i=>by simp [pk0],by simp [pk0],fun i=>by simp [pk0,fn0,zdo,nd0]⟩
def pick (l:List Int) (x:Int):Int:=l.getD x.toNat 0
theorem zoa (l:List Int) (x:Int) (h0:0≤x) (h1:x<l.length) (W:World) (e:TypeId) :
 (W.alloc (.cells (l.map (Value.int .i64)).toArray e)).cell? ⟨W.heap.size,x.toNat,none⟩=some (.int .i64 (pick l x)):=by
 have hx:x.toNat<l.length:=by omega
 rw [World.cell?_alloc_mark];simp [pick,hx]
theorem pick_in (l:List Int) (x lo hi:Int) (h0:0≤x) (h1:x<l.length) (h:∀ y∈l,lo≤y∧y≤hi):lo≤pick l x∧pick l x≤hi:=by
 have hx:x.toNat<l.length:=by omega
 have:pick l x=l[x.toNat]:=by simp [pick,List.getD,hx]
 rw [this];exact h _ (List.getElem_mem hx)
theorem zdS (w:World) (B:Nat) (a:Option Addr) (len cap:Nat) (lo hi:Int) (h0:-1000000≤lo) (h1:lo≤hi) (h2:hi≤1000000) (h:Cur w B a len cap) :
 Calls Tryz.prog 24 #[.pointer (some ⟨B,0,none⟩),.int .i64 lo,.int .i64 hi] w fun e w'=>∃ x:Int,e=.returned (.int .i64 x)∧lo≤x∧x≤hi∧Cur w' B a len cap∧w.grownBy w' (some B):=by
 go_enter Tryz.func24,Tryz.ntmps24
 go_wp2_with fail
 refine (zad _ B a len cap (hi-lo+1) (by omega) (by omega) h).mono ?_;rintro e w1 ⟨x,rfl,hx0,hx1,hc,hg⟩;go_wp2;go_ret;exact ⟨_,rfl,by omega,by omega,hc,hg⟩
theorem zgf (w:World) (B:Nat) (a:Option Addr) (len cap:Nat) (h:Cur w B a len cap) :
 Calls Tryz.prog 151 #[.pointer (some ⟨B,0,none⟩)] w fun e w'=>∃ x:Int,e=.returned (.int .i64 x)∧-2147483648≤x∧x≤2147483647∧Cur w' B a len cap∧w.grownBy w' (some B):=by
 go_enter Tryz.func151,Tryz.ntmps151
 go_wp2_with fail
 refine (zbO _ B a len cap 6 (by omega) (by omega) h).mono ?_;rintro e w1 ⟨o,rfl,hc1,hg1⟩;have hB:=hc1.lt;rcases o with _ | _
 ·
  go_wp2_with fail
  refine (zad _ B a len cap 12 (by omega) (by omega) hc1).mono ?_;rintro e w2 ⟨x,rfl,hx0,hx1,hc2,hg2⟩;go_wp2;go_ret;exact ⟨_,rfl,by omega,by omega,hc2,hg1.trans hg2⟩
 ·
  go_wp2_with fail
  refine (zad _ B a len cap 4 (by omega) (by omega) (hc1.kept (World.grownBy_alloc _ _ none) (by simp))).mono ?_;rintro e w2 ⟨x,rfl,hx0,hx1,hc2,hg2⟩;have hcx:=hg2.cell (zoa [2147483647,-2147483648,65536,-1] x hx0 hx1 w1 2) (by simp;omega);have hpi:=pick_in [2147483647,-2147483648,65536,-1] x (-2147483648) 2147483647 hx0 hx1 (by simp);generalize pick [2147483647,-2147483648,65536,-1] x=y at hcx hpi;have hg:=(hg1.trans (World.grownBy_alloc _ _ _)).trans hg2;clear hc1 hg1 hg2;go_wp2;go_ret;exact ⟨_,rfl,hpi.1,hpi.2,hc2,hg⟩


theorem Code.alloc {w:World} {B:Nat} {a:Option Addr} {len:Nat} (h:Code w B a len) (hB:B≤w.heap.size) (o:Obj):Code (w.alloc o) (B+1) a len:=by
 intro j hj;obtain ⟨b,off,x,e1,e2,e3,e0⟩:=h j hj;exact ⟨b,off,x,e1,by omega,(World.cell?_of_block (a:=⟨b,off+j,none⟩) (Below.heap_alloc _ _ _ (by show b<_;omega))).trans e3,e0⟩
end Go.Proofs.YtponeoijfaepnaaGreatDoor
