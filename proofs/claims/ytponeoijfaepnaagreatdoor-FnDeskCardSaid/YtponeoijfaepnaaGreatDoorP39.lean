/-
  Parts of one proof, one behind the other: NewI, NewJ.
-/
import Derived.Test.YtponeoijfaepnaaGreatDoorP38
namespace Go.Proofs.YtponeoijfaepnaaGreatDoor
open Go.RowKit
set_option maxHeartbeats 8000000
set_option maxRecDepth 100000
theorem zkY (oa:Option Addr) (on oc:Nat) (os:List (List UInt8)) (ia:Option Addr) (il ic:Nat) (ims:List (List UInt8)) (w:World) (h1:za7 w oa on os) (h2:za7 w ia il ims) (hn:on≤1048576) (hm:il≤1048576) :
 Calls Tryz.prog 95 #[.slice oa on oc,.slice ia il ic] w fun e w'=>∃ v,e=.returned v∧w'.ownsRow w.heap.size 2 1 v (zaQ os ims on).length (zaY (zaQ os ims on))∧Below w.heap.size w w':=by
 obtain rfl:os.length=on:=h1.1;obtain rfl:ims.length=il:=h2.1;have HO:Hid (∀ Z,Below w.heap.size w Z→za7 Z oa os.length os∧za7 Z ia ims.length ims):=fun Z hz=>⟨h1.below hz,h2.below hz⟩
 have HR0:Hid ((w.alloc (.cells #[] 2)).ownsRow w.heap.size 2 1 (.slice (some ⟨w.heap.size,0,none⟩) ([]:List Int).length 0) ([]:List Int).length (zaY [])):=World.ownsRow_lit (base:=w.heap.size) (e:=2) (size:=1) w #[] 0 (Nat.le_refl _) (by decide) rfl;have HB0:Hid (Below w.heap.size w (w.alloc (.cells #[] 2))):=(Below.refl _ _).alloc (Nat.le_refl _) _;have HN0:Hid (zaQ os ims 0=[]):=rfl;clear h1 h2
 go_enter Tryz.func95,Tryz.ntmps95
 go_wp2
 go_loopw [5,11] (fun pv iv wr=>∃ (k:Nat) (va:Option Addr) (vc:Nat) (ns:List Int),pv=.slice va ns.length vc∧iv=.int .i64 (k:Int)∧k≤os.length∧ns.length≤k∧Hid (zaQ os ims k=ns)∧Hid (wr.ownsRow w.heap.size 2 1 (.slice va ns.length vc) ns.length (zaY ns))∧Hid (Below w.heap.size w wr)) (fun _ iv _=>os.length-(intOf iv).toNat)
 case atStart=>exact ⟨0,_,0,[],rfl,rfl,by omega,by simp,HN0,HR0,HB0⟩
 case round =>
  obtain ⟨k,va,vc,ns,rfl,rfl,hk,hnk,HNs,HR,HB⟩:=hrel;clear HR0 HB0 HN0;by_cases hlt:(k:Int)<(os.length:Int)
  ·
   have hk2:k<os.length:=by omega
   obtain ⟨hto,hti⟩:=HO.out wr HB.out;obtain ⟨b,off,rfl,_,d0⟩:=hto.2 k hk2;obtain ⟨y,hy⟩:∃ y,os.getD k []=y:=⟨_,rfl⟩
   rw [hy] at d0;have hH:=zey ia ims.length ic ims y wr hti (by omega);clear hto hti;by_cases hin:y∈ims
   ·
    have HNy:Hid (zaQ os ims (k+1)=ns++[(k:Int)]):=by exact (by rw [zhA (by rw [hy];exact hin),HNs.out]:zaQ os ims (k+1)=ns++[(k:Int)])
    rw [decide_eq_true hin] at hH;have HH:Hid (_):=hH;have hlen:(ns++[(k:Int)]).length=ns.length+1:=by simp
    obtain ⟨v',Y,hr,ho,hg⟩:=ze1 (k:Int) HR.out HB.out.size (by omega);obtain ⟨va',vc',rfl⟩:=zb4 ho;have HRY:Hid (Y.ownsRow w.heap.size 2 1 (.slice va' (ns++[(k:Int)]).length vc') (ns++[(k:Int)]).length (zaY (ns++[(k:Int)]))):=by exact (by rw [hlen];exact ho:Y.ownsRow w.heap.size 2 1 (.slice va' (ns++[(k:Int)]).length vc') (ns++[(k:Int)]).length (zaY (ns++[(k:Int)])))
    have HBY:Hid (Below w.heap.size w Y):=HB.out.grown hg HB.out.size (fun q e=>(HR.out.lt q e).1);clear hH hin hy ho hg
    go_wp2_with (first | (go_at_call 116;refine Calls.mono HH.out ?_;rintro e w1 ⟨rfl,hw1⟩;obtain rfl:=hw1.symm) | (at_builtin;refine za0 rfl _ _ 40 rfl _ _ _ rfl rfl hr ?_;clear hr))
    go_roundw
    case rel=>exact ⟨k+1,va',vc',ns++[(k:Int)],by rw [hlen],by go_num,by omega,by rw [hlen];omega,HNy,HRY,HBY⟩
    case measure=>simp [intOf];omega
   ·
    have HNy:Hid (zaQ os ims (k+1)=ns):=by exact (by rw [zjp (by rw [hy];exact hin),HNs.out]:zaQ os ims (k+1)=ns)
    rw [decide_eq_false hin] at hH;have HH:Hid (_):=hH;clear hH hin hy
    go_wp2_with (go_at_call 116;refine Calls.mono HH.out ?_;rintro e w1 ⟨rfl,hw1⟩;obtain rfl:=hw1.symm)
    go_roundw
    case rel=>exact ⟨k+1,va,vc,ns,rfl,by go_num,by omega,by omega,HNy,HR,HB⟩
    case measure=>simp [intOf];omega
  ·
   have HE:Hid (zaQ os ims os.length=ns):=by exact (by rw [show os.length=k by omega];exact HNs.out:zaQ os ims os.length=ns)
   go_wp2;go_ret;rw [HE.out];exact ⟨_,rfl,HR.out,HB.out⟩
theorem zkT (a:Option Addr) (len cap:Nat) (ps:List Pk) (er:Nat→Addr) (w:World) (hE:Err8 w er) (h:zab w a len cap ps) :
 Calls Tryz.prog 66 #[.slice a len cap] w fun e w'=>∃ v xs,e=.returned v∧xs.map (·.1)=(newV ps).1.1∧za2 w' w.heap.size v xs∧zai (xs.map tvT)∧Below w.heap.size w w':=by
 obtain rfl:ps.length=len:=h.hlen;have hlen:=h.small;have hsh:=h.short;have HTs:Hid (_):=zek ps;have hpl:=zlP ps;have HTk:Hid (∀ i,i<(prtV ps).length→_):=fun i hi=>zms hi
 have HSh:Hid (∀ j,(ps.getD j pk0).2.1.length≤1048576):=fun j=>(hsh j).2.1
 have HA8:Hid (∀ W y,zav W a ps.length ps→_):=fun W y hW=>zcN a ps.length cap ps y W hW hlen
 obtain ⟨D,hD⟩:∃ D,w.heap.size=D:=⟨_,rfl⟩
 obtain ⟨W1,hW1⟩:∃ W,w.alloc (.cells #[] 42)=W:=⟨_,rfl⟩
 have hs1:W1.heap.size=D+1:=by rw [←hW1,←hD];simp
 have hb1:Below D w W1:=by rw [←hW1,←hD];exact (Below.refl _ _).alloc (Nat.le_refl _) _
 have hO1:za2 W1 D (.slice (some ⟨D,0,none⟩) 0 0) []:=by rw [←hW1,←hD];exact ⟨World.ownsRow_lit (base:=w.heap.size) (e:=42) (size:=6) w #[] 0 (Nat.le_refl _) (by decide) rfl,fun x hx=>by cases hx⟩
 have HPr:Hid (_):=implPrt a ps.length cap ps er W1 (hE.below (by rw [hD];exact hb1)) (h.below (by rw [hD];exact hb1));have HI:Hid (∀ Z,Below D w Z→zav Z a ps.length ps):=fun Z hz=>(h.below (by rw [hD];exact hz)).in
 generalize (newV ps).1.1=R at HTs ⊢;generalize zcH ps=T at HTk HTs;generalize prtV ps=os at HPr HTk HTs hpl;have HO1:Hid (za2 W1 D (.slice (some ⟨D,0,none⟩) 0 0) []):=hO1;have HB1:Hid (Below D w W1):=hb1;have HX0:Hid (([]:List TV).map (·.1)=(List.range 0).map T):=rfl;have hpi:(ps.length:Int)≤1048576:=by omega
 clear h hE hsh hlen hO1 hb1
 go_enter Tryz.func66,Tryz.ntmps66
 go_wp2_with fail
 refine Calls.mono HPr.out ?_;rintro e w2 ⟨vn,rfl,ho,hb2⟩;obtain ⟨_,na,nc,rfl,_⟩:=zaP ho;have HN2:Hid (w2.ownsRow D 9 1 (.slice na os.length nc) os.length (strV os)):=zaD ho (by omega);have HO2:Hid (za2 w2 D (.slice (some ⟨D,0,none⟩) 0 0) []):=HO1.out.below hb2;have HB2:Hid (Below D w w2):=HB1.out.trans (hb2.mono (by omega));clear ho hb2 HPr HO1 HB1;go_wp2
 go_loopw [3,13] (fun tv iv wr=>∃ (i:Nat) (xs:List TV) (ta:Option Addr) (tc:Nat),tv=.slice ta i tc∧iv=.int .i64 (i:Int)∧i≤os.length∧xs.length=i∧Hid (xs.map (·.1)=(List.range i).map T)∧Hid (za2 wr D (.slice ta i tc) xs)∧Hid (zai (xs.map tvT))∧Hid (wr.ownsRow D 9 1 (.slice na os.length nc) os.length (strV os))∧Hid (Below D w wr)) (fun _ iv _=>os.length-(intOf iv).toNat)
 case atStart=>exact ⟨0,[],_,0,rfl,rfl,by omega,rfl,HX0,HO2,zai.nil,HN2,HB2⟩
 case round =>
  obtain ⟨i,xs,ta,tc,rfl,rfl,hi,hxl,HX,HO,HAp,HN,HB⟩:=hrel;obtain ⟨X0,hX0⟩:∃ X0,X0=wr:=⟨_,rfl⟩
  subst hX0;clear HO2 HN2 HB2 HX0;by_cases hlt:(i:Int)<(os.length:Int)
  ·
   have hi2:i<os.length:=by omega
   have hsX:D≤X0.heap.size:=by rw [←hD];exact HB.out.size
   obtain ⟨_,na',nc',e0,hNin⟩:=zaP HN.out;injection e0 with e1 _ e3;subst e1;subst e3;obtain ⟨nb,no,rfl,hnl,d0⟩:=hNin.2 i hi2;obtain ⟨j,hj,e8,hTi⟩:=HTk.out i hi2;obtain ⟨x,hx⟩:∃ x,os.getD i []=x:=⟨_,rfl⟩
   rw [hx] at d0 e8 hTi;have HAs:Hid (_):=HA8.out X0 x (HI.out X0 HB.out);rw [e8] at HAs;have hsj:=HSh.out j;have hji:(j:Int)<(ps.length:Int):=by omega
   clear e8 hx hNin;go_wp2_with fail
   refine Calls.mono HAs.out ?_;rintro e w3 ⟨rfl,hb3⟩;have hB3:Below D w w3:=HB.out.trans (hb3.mono hsX);have HB3:Hid (Below D w w3):=hB3;have hN3:=za5 HN.out hb3;have HN3:Hid (w3.ownsRow D 9 1 (.slice (some ⟨nb,no,none⟩) os.length nc) os.length (strV os)):=hN3;have HO3:Hid (za2 w3 D (.slice ta i tc) xs):=HO.out.below hb3;have HTl:Hid (∀ z∈xs,∀ g,(tvT z).ownBlock=some g→g<w3.heap.size):=fun z hz g e=>Nat.lt_of_lt_of_le ((HO.out.trees z hz).lt g e).2 hb3.size
   obtain ⟨b,off,rfl,hbl,_,ia,il,ic,fa,fl,fc,r1,_,hii,_⟩:=(HI.out w3 hB3).2 j hj;obtain ⟨_,na',nc',e0,hNin⟩:=zaP hN3;injection e0 with e1 _ e3;subst e1;subst e3;obtain ⟨ims,hp⟩:∃ p,(ps.getD j pk0).2.1=p:=⟨_,rfl⟩
   rw [hp] at hii hTi hsj;obtain rfl:ims.length=il:=hii.1;have HNm:Hid (_):=zkY (some ⟨nb,no,none⟩) os.length nc os ia ims.length ic ims w3 hNin hii (by omega) hsj;have hnn:=zhB os ims os.length;have HTi:Hid (_):=hTi;generalize zaQ os ims os.length=ns at HNm HTi hnn;have hs3:D≤w3.heap.size:=by have:=hb3.size;omega
   clear hb3 hB3 hN3 hii hNin hTi hp HAs HN HO;go_wp2_with fail
   refine Calls.mono HNm.out ?_;rintro e w4 ⟨v4,rfl,ho4,hb4⟩;obtain ⟨va,vc,rfl⟩:=zb4 ho4;have hs4:D≤w4.heap.size:=by have:=hb4.size;omega
   have hN4:=za5 HN3.out hb4;obtain ⟨v',Y,hr,ho,hg⟩:=zky (HO3.out.below hb4) ((x,ns,0,0,0,0),va,vc) (zaD ho4 (by omega)) hs4 (by omega);have HN5:Hid (Y.ownsRow D 9 1 (.slice (some ⟨nb,no,none⟩) os.length nc) os.length (strV os)):=hN4.kept hg (zba hN4 (HO3.out.below hb4).row (by decide));obtain ⟨ta',tc',rfl⟩:=zb4 ho.row;have hlen:(xs++[(((x,ns,0,0,0,0),va,vc):TV)]).length=i+1:=by simp [hxl]
   have HX2:Hid ((xs++[(((x,ns,0,0,0,0),va,vc):TV)]).map (·.1)=(List.range (i+1)).map T):=by exact (by rw [List.map_append,HX.out,List.range_succ,List.map_append,List.map_cons,List.map_nil,List.map_cons,List.map_nil,HTi.out]:(xs++[(((x,ns,0,0,0,0),va,vc):TV)]).map (·.1)=(List.range (i+1)).map T)
   have HA2:Hid (zai ((xs++[(((x,ns,0,0,0,0),va,vc):TV)]).map tvT)):=by exact (by
    rw [List.map_append];refine HAp.out.snoc (fun v hv=>?_);obtain ⟨z,hz,rfl⟩:=List.mem_map.1 hv;rcases hvb:(tvT z).ownBlock with _ | g
    ·exact Or.inl rfl
    ·refine Or.inr (fun e=>?_);have h1:=HTl.out z hz g hvb;have h2:=(ho4.lt g e.symm).1;omega:zai ((xs++[(((x,ns,0,0,0,0),va,vc):TV)]).map tvT))
   have HB5:Hid (Below D w Y):=(HB3.out.trans (hb4.mono hs3)).grown hg hs4 (fun q e=>((HO3.out.below hb4).row.lt q e).1);rw [hlen] at hr ho;have HO5:Hid (za2 Y D (.slice ta' (i+1) tc') (xs++[(((x,ns,0,0,0,0),va,vc):TV)])):=ho;simp only [tvT] at hr;clear ho hg hs4 hN4 hb4 ho4 HTl HO3 HN3 HB3 HNm
   go_wp2_with (at_builtin;refine za0 rfl _ _ 24 rfl _ _ _ rfl rfl hr ?_;clear hr)
   go_roundw
   case rel=>exact ⟨i+1,_,ta',tc',rfl,by go_num,by omega,hlen,HX2,HO5,HA2,HN5,HB5⟩
   case measure=>simp [intOf];omega
  ·
   have HE:Hid (xs.map (·.1)=R):=by exact (by rw [HTs.out,HX.out,show i=os.length by omega]:xs.map (·.1)=R)
   go_wp2;go_ret;exact ⟨_,rfl,xs,HE.out,HO.out,HAp.out,HB.out⟩
theorem ziv (n:Int) (w:World) (ht:zb0 w) (h0:-9223372036854775808≤n) (h1:n≤9223372036854775807) :
 Calls Tryz.prog 97 #[.int .i64 n] w fun e w'=>e=.returned (.string ⟨(zbC n).toArray⟩)∧Below w.heap.size w w':=by
 have HF1:Hid (Calls Tryz.prog 89 #[.int .i64 n,.int .i64 10] w fun e w'=>e=.returned (.string ⟨(intL n).toArray⟩)∧Below w.heap.size w w'):=by refine (Tryz.strconv_FormatInt_10 n (by omega) (by omega) w ht).mono ?_;rintro e w' ⟨rfl,k,os,rfl⟩;exact ⟨by rw [zlY],Lib.below_grow _ w (Nat.le_refl _) k os⟩
 have HT:Hid (zbC n=115 :: 116 :: 97 :: 114 :: 116 :: 32 :: intL n):=rfl;have hcat:=zc7;have hi:=zfu h0 h1;have hd6:(⟨#[115,116,97,114,116,32]⟩:ByteArray)=⟨([115,116,97,114,116,32]:List UInt8).toArray⟩:=rfl;rw [HT.out];clear ht HT
 go_enter Tryz.func97,Tryz.ntmps97
 go_wp2_with fail
 refine Calls.mono HF1.out ?_;rintro e w1 ⟨rfl,hb1⟩;have HB1:Hid (Below w.heap.size w w1):=hb1;clear hb1;go_wp2;go_ret;exact ⟨rfl,HB1.out⟩
theorem zls {w w':World} (h:Below w.heap.size w w') (row:Option Nat):w.grownBy w' row:=⟨h.os,h.tape,h.output,h.size,fun k hk _=>h.block k hk⟩
theorem zoF (B base:Nat) (v0:Value) (ep nw:Int) (jr:List UInt8) (w:World) (hb4:B4 w B v0 (.int .i64 ep) (.int .i64 nw) (.string ⟨jr.toArray⟩)) (hbase:base≤w.heap.size) (hbB:base≤B)
 (h0:0≤ep) (h1:ep≤1000000) (hj:jr.length≤60000) (ht:∀ Z,Below base w Z→zb0 Z) :
 Calls Tryz.prog 69 #[.pointer (some ⟨B,0,none⟩)] w fun e w'=>e=.returned (.tuple #[])∧B4 w' B v0 (.int .i64 (ep+1)) (.int .i64 nw) (.string ⟨(jr++zaV (ep+1)).toArray⟩)∧w.grownBy w' (some B):=by
 have HTx:Hid (∀ Z,Below base w Z→_):=fun Z (hz:Below base w Z)=>ziv (ep+1) Z (ht Z hz) (by omega) (by omega)
 have HFm:Hid (∀ Z,_):=fun Z=>zfx (zbC (ep+1)) Z (by have:=zda (n:=ep+1) (by omega) (by omega);omega)
 have hlr:zd7 (zbC (ep+1))=zaV (ep+1):=rfl;rw [hlr] at HFm;have hll:=zdW (n:=ep+1) (by omega) (by omega);generalize zaV (ep+1)=ln at HFm hll ⊢;generalize zbC (ep+1)=dt at HTx HFm;obtain ⟨V,hV⟩:∃ V,w.setCell ⟨B,1,none⟩ (.int .i64 (ep+1))=V:=⟨_,rfl⟩
 have bV:=hb4.s1 (.int .i64 (ep+1));have hgV:w.grownBy V (some B):=by rw [←hV];exact zae _ _ _ _
 rw [hV] at bV;have HGV:Hid (w.grownBy V (some B)):=hgV;have HBV:Hid (Below base w V):=(Below.refl base w).grown hgV hbase (fun k e=>by injection e with e;omega);have HBVs:Hid (base≤V.heap.size):=Nat.le_trans hbase hgV.size;have HBQ:Hid (B4 V B v0 (.int .i64 (ep+1)) (.int .i64 nw) (.string ⟨jr.toArray⟩)):=bV;have hwi:IntKind.i64.wrap (ep+1)=ep+1:=by rw [IntKind.wrap_i64];omega
 have b1:=hb4.c1;have bf:=hb4.fr 1;have p1:=bV.c1;have p3:=bV.c3;have pf3:=bV.fr 3;clear hlr ht hb4 bV hgV
 go_enter Tryz.func69,Tryz.ntmps69
 go_wp2;have HVd:Hid (Below V.heap.size V V.drew):=⟨rfl,rfl,rfl,Nat.le_refl _,fun _ _=>rfl⟩;refine Till.region (S:=(fun Z=>Z.cell? ⟨B,3,none⟩=some (.string ⟨jr.toArray⟩)∧Z.cell? ⟨B,1,none⟩=some (.int .i64 (ep+1)))) (E:=[13]) (by kernel_rfl) ?_ (fun hHeld hSh=>?_)
 ·exact ⟨p3,p1⟩
 refine tkO [(0,9),(1,10),(2,11),(3,12),(4,13),(5,14),(6,15),(7,16)] ?_
 repeat (refine tlY ?_ rfl (by rfl) ?_ (fun hSh2=>?_);rotate_left;(focus (intro wq hSw;(try dsimp only at hSw);first | (go_simp;done) | (go_simp;with_reducible rfl)));clear hSh;rename zaI _ _ _=>hSh;simp only [zP])
 refine tkZ ?_;refine Till.one (i:=8) (by kernel_rfl) rfl hSh (fun K hK=>?_);clear hSh;go_simp
 (go_at_call 97;refine Calls.mono (HTx.out _ (HBV.out.trans (HVd.out.mono HBVs.out))) ?_;rintro e w8 ⟨rfl,hb8⟩;have HB8:Hid (Below V.heap.size V w8):=HVd.out.trans (hb8.mono HVd.out.size);clear hb8 p1 p3 pf3;have p1:=(HBQ.out.below HB8.out).c1;have p3:=(HBQ.out.below HB8.out).c3;have pf3:=(HBQ.out.below HB8.out).fr 3)
 refine hK.out _ _ ?_ (fun hHeld hSh=>?_)
 ·exact ⟨p3,p1⟩
 clear hK K;refine Till.one (i:=9) (by kernel_rfl) rfl hSh (fun K hK=>?_);clear hSh;go_simp
 (go_at_call 59;refine Calls.mono (HFm.out _) ?_;rintro e w9 ⟨rfl,hb9⟩;have HB9:Hid (Below V.heap.size V w9):=HB8.out.trans (hb9.mono HB8.out.size);clear hb9 p1 p3 pf3;have p1:=(HBQ.out.below HB9.out).c1;have p3:=(HBQ.out.below HB9.out).c3;have pf3:=(HBQ.out.below HB9.out).fr 3)
 refine hK.out _ _ ?_ (fun hHeld hSh=>?_)
 ·exact ⟨p3,p1⟩
 clear hK K;have hcat:=zc7;refine tkO [(10,19)] ?_
 repeat (refine tlY ?_ rfl (by rfl) ?_ (fun hSh2=>?_);rotate_left;(focus (intro wq hSw;(try dsimp only at hSw);first | (go_simp;done) | (go_simp;with_reducible rfl) | (go_simp;rw [if_neg (by omega)])));clear hSh;rename zaI _ _ _=>hSh;simp only [zP])
 refine tkZ ?_;refine tkO [(11,20),(12,21)] ?_
 repeat (refine tlY ?_ rfl (by rfl) ?_ (fun hSh2=>?_);rotate_left;(focus (intro wq hSw;(try dsimp only at hSw);first | (go_simp;done) | (go_simp;with_reducible rfl)));clear hSh;rename zaI _ _ _=>hSh;simp only [zP])
 refine tkZ ?_;refine Till.last (i:=13) (by kernel_rfl) rfl (by decide) (fun K hK=>?_);go_simp;refine hK.out _ _ ?_;clear hK K;refine Till.done (by kernel_rfl) ?_ _;go_wp2
 first | go_end0 | refine bodyPost_ret (results_none rfl _ _ _) rfl ?_
 exact ⟨rfl,(HBQ.out.below HB9.out).s3 _,(HGV.out.trans (zls HB9.out _)).trans (zae _ _ _ _)⟩
end Go.Proofs.YtponeoijfaepnaaGreatDoor
