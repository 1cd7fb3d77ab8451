/-
  Parts of one proof, one behind the other: NewS, TaskS4, TaskS5.
-/
import Derived.Test.YtponeoijfaepnaaGreatDoorP11
namespace Go.Proofs.YtponeoijfaepnaaGreatDoor
open Go.RowKit
set_option maxHeartbeats 4000000
set_option maxRecDepth 100000
theorem ze1 {X:World} {B n:Nat} {v:Value} {xs:List Int} (x:Int) (hv:X.ownsRow B 2 1 v n (zaY xs)) (hb:B≤X.heap.size) (hn:n≤1048576) :
 ∃ v' Y,(Builtin.append_ #[40,40] 40 #[v,.slice (some ⟨X.heap.size,0,none⟩) 1 1]).run Tryz.prog (X.alloc (.cells #[.int .i64 x] 2))=.ok v' Y∧Y.ownsRow B 2 1 v' (n+1) (zaY (xs++[x]))∧X.grownBy Y v.ownBlock:=by
 obtain ⟨i0,hi,hz0,hz1,hz2⟩:=info_parts info2;obtain ⟨v',Y,hrun,hown,hg,_⟩:=zar (P:=Tryz.prog) (X.alloc (.cells #[.int .i64 x] 2)) B 40 40 2 i0 _ 1 8 Tryz.underlying40 hi hz0 hz1 hz2 rfl (by decide) _ _ _ (hv.alloc _) (.slice (some ⟨X.heap.size,0,none⟩) 1 1) 1 (zaY [x]) ⟨rfl,zjD _,Or.inr ⟨_,1,rfl,new_int X x⟩⟩ (by unfold maxLen;omega) (by omega) (by simp;omega);refine ⟨v',Y,hrun,?_,(World.grownBy_alloc X _ _).trans hg⟩;rw [zjF];exact hown
theorem zhA {os ims:List (List UInt8)} {k:Nat} (h:os.getD k []∈ims):zaQ os ims (k+1)=zaQ os ims k++[(k:Int)]:=by
 unfold zaQ;rw [List.range_succ,List.filter_append,List.map_append];simp only [List.filter_cons,List.filter_nil,decide_eq_true h,if_true,List.map_cons,List.map_nil]
theorem zjp {os ims:List (List UInt8)} {k:Nat} (h:¬os.getD k []∈ims):zaQ os ims (k+1)=zaQ os ims k:=by
 unfold zaQ;rw [List.range_succ,List.filter_append,List.map_append];simp only [List.filter_cons,List.filter_nil,decide_eq_false h,if_false,List.map_nil,List.append_nil,Bool.false_eq_true]
theorem zhB (os ims:List (List UInt8)) (k:Nat):(zaQ os ims k).length≤k:=by
 unfold zaQ;rw [List.length_map];exact Nat.le_trans (List.length_filter_le _ _) (by simp)
theorem ziX {ps:List Pk} (C:zcu ps) {i:Nat} (hi:i<(zaj ps).length):∃ j,j<ps.length∧at8 ps ((zaj ps).getD i [])=(j:Int)∧zcH ps i=((zaj ps).getD i [],zaQ (zaj ps) (ps.getD j pk0).2.1 i,0,0,0,0):=by
 have hg:(zaj ps).getD i []=(zaj ps)[i]:=by simp [List.getD,hi]
 rcases zdm ps ((zaj ps).getD i []) with ⟨_,h⟩ | ⟨j,hj,e,_⟩
 ·exact absurd (by rw [hg];exact zdr C _ (List.getElem_mem hi)) h
 ·refine ⟨j,hj,e,?_⟩;unfold zcH pkOf;rw [e,Int.toNat_natCast]
theorem zb4 {w:World} {base e size n:Nat} {v:Value} {xs:List Value} (h:w.ownsRow base e size v n xs):∃ a c,v=.slice a n c:=by
 rcases zaR h with ⟨rfl,rfl,_⟩ | ⟨g,cp,rfl⟩
 ·exact ⟨none,0,rfl⟩
 ·exact ⟨some ⟨g,0,none⟩,cp,rfl⟩
theorem zkn (a:Option Addr) (len cap:Nat) (ps:List Pk) (w:World) (hin:zav w a len ps) (hlen:len≤1048576) (hsh:zby ps) (h0:(zaS ps).1=0) :
 Calls Tryz.prog 50 #[.slice a len cap] w fun e w'=>∃ v xs,e=.returned v∧xs.map (·.1)=zaL ps∧za2 w' w.heap.size v xs∧zai (xs.map tvT)∧Below w.heap.size w w':=by
 obtain rfl:ps.length=len:=hin.1;have C:=zdl h0;have hpl:=(zds C).2;have HPr:Hid (_):=zj6 a ps.length cap ps w hin h0;rw [show prtV ps=zaj ps from (zeo h0).1] at HPr;have HTk:Hid (∀ i,i<(zaj ps).length→_):=fun i hi=>ziX C hi
 have HTs:Hid (zaL ps=(List.range (zaj ps).length).map (zcH ps)):=rfl;have HSh:Hid (∀ j,(ps.getD j pk0).2.1.length≤1048576):=fun j=>(hsh j).2.1
 have HA8:Hid (∀ W y,zav W a ps.length ps→Calls Tryz.prog 82 #[.slice a ps.length cap,.string ⟨y.toArray⟩] W fun e w'=>e=.returned (.int .i64 (at8 ps y))∧w'=W):=fun W y hW=>zfk a ps.length cap ps y W hW hlen
 have HI:Hid (zav w a ps.length ps):=hin;generalize zcH ps=T at HTk HTs;generalize zaj ps=os at HPr HTk HTs hpl;generalize zaL ps=R at HTs ⊢;have hpi:(ps.length:Int)≤1048576:=by omega
 have hoi:(os.length:Int)≤8:=by omega
 clear hin hsh h0 C hlen
 go_enter Tryz.func50,Tryz.ntmps50
 go_wp2_with fail
 refine Calls.mono HPr.out ?_;rintro e w1 ⟨vn,rfl,ho,hb1⟩;obtain ⟨_,na,nc,rfl,hN⟩:=zaP ho;have HN:Hid (∀ Z,Below w1.heap.size w1 Z→za7 Z na os.length os):=fun Z hz=>hN.below hz
 have HIz:Hid (∀ Z,Below w1.heap.size w1 Z→zav Z a ps.length ps):=fun Z hz=>HI.out.below (hb1.trans (hz.mono hb1.size))
 have HB1:Hid (Below w.heap.size w w1):=hb1;have HO0:Hid (za2 (w1.alloc (.cells #[] 42)) w1.heap.size (.slice (some ⟨w1.heap.size,0,none⟩) 0 0) []):=⟨World.ownsRow_lit (base:=w1.heap.size) (e:=42) (size:=6) w1 #[] 0 (Nat.le_refl _) (by decide) rfl,fun x hx=>by cases hx⟩;have HB0:Hid (Below w1.heap.size w1 (w1.alloc (.cells #[] 42))):=(Below.refl _ _).alloc (Nat.le_refl _) _;have HX0:Hid (([]:List TV).map (·.1)=(List.range 0).map T):=rfl;clear ho hN hb1 HPr HI;go_wp2
 go_loopw [4,5] (fun tv iv wr=>∃ (i:Nat) (xs:List TV) (ta:Option Addr) (tc:Nat),tv=.slice ta i tc∧iv=.int .i64 (i:Int)∧i≤os.length∧xs.length=i∧Hid (xs.map (·.1)=(List.range i).map T)∧Hid (za2 wr w1.heap.size (.slice ta i tc) xs)∧Hid (zai (xs.map tvT))∧Hid (Below w1.heap.size w1 wr)) (fun _ iv _=>os.length-(intOf iv).toNat)
 case atStart=>exact ⟨0,[],_,0,rfl,rfl,by omega,rfl,HX0,HO0,zai.nil,HB0⟩
 case round =>
  obtain ⟨i,xs,ta,tc,rfl,rfl,hi,hxl,HX,HO,HAp,HB⟩:=hrel;obtain ⟨X0,hX0⟩:∃ X0,X0=wr:=⟨_,rfl⟩
  subst hX0;clear HO0 HB0 HX0;by_cases hlt:(i:Int)<(os.length:Int)
  ·
   have hi2:i<os.length:=by omega
   obtain ⟨nb,no,rfl,hnl,d0⟩:=(HN.out X0 HB.out).2 i hi2;obtain ⟨j,hj,e8,hTi⟩:=HTk.out i hi2;obtain ⟨x,hx⟩:∃ x,os.getD i []=x:=⟨_,rfl⟩
   rw [hx] at d0 e8 hTi;obtain ⟨T0,hT0⟩:∃ T0,X0.heap.size=T0:=⟨_,rfl⟩
   have bz:=B6.new X0 (.string ⟨#[]⟩) (.slice none 0 0) (.int .i64 0) (.int .i64 0) (.int .i64 0) (.int .i64 0) 42;have hbZ:Below X0.heap.size X0 (X0.alloc (.cells #[.string ⟨#[]⟩,.slice none 0 0,.int .i64 0,.int .i64 0,.int .i64 0,.int .i64 0] 42)):=(Below.refl _ _).alloc (Nat.le_refl _) _;have hsZ:(X0.alloc (.cells #[.string ⟨#[]⟩,.slice none 0 0,.int .i64 0,.int .i64 0,.int .i64 0,.int .i64 0] 42)).heap.size=T0+1:=by rw [←hT0];simp
   obtain ⟨Z0,hZ0⟩:∃ Z0,X0.alloc (.cells #[.string ⟨#[]⟩,.slice none 0 0,.int .i64 0,.int .i64 0,.int .i64 0,.int .i64 0] 42)=Z0:=⟨_,rfl⟩
   rw [hZ0] at bz hbZ hsZ;rw [hT0] at bz hbZ;have z0:=bz.c0;have z1:=bz.c1;have z2:=bz.c2;have z3:=bz.c3;have z4:=bz.c4;have z5:=bz.c5;have zf:=bz.fr;have b6:=(((((bz.s0 (.string ⟨x.toArray⟩)).s1 (.slice none 0 0)).s2 (.int .i64 0)).s3 (.int .i64 0)).s4 (.int .i64 0)).s5 (.int .i64 0);have hbX:Below T0 X0 ((((((Z0.setCell ⟨T0,0,none⟩ (.string ⟨x.toArray⟩)).setCell ⟨T0,1,none⟩ (.slice none 0 0)).setCell ⟨T0,2,none⟩ (.int .i64 0)).setCell ⟨T0,3,none⟩ (.int .i64 0)).setCell ⟨T0,4,none⟩ (.int .i64 0)).setCell ⟨T0,5,none⟩ (.int .i64 0)):=(((((hbZ.setCell (Nat.le_refl _) _).setCell (Nat.le_refl _) _).setCell (Nat.le_refl _) _).setCell (Nat.le_refl _) _).setCell (Nat.le_refl _) _).setCell (Nat.le_refl _) _;have hs1:((((((Z0.setCell ⟨T0,0,none⟩ (.string ⟨x.toArray⟩)).setCell ⟨T0,1,none⟩ (.slice none 0 0)).setCell ⟨T0,2,none⟩ (.int .i64 0)).setCell ⟨T0,3,none⟩ (.int .i64 0)).setCell ⟨T0,4,none⟩ (.int .i64 0)).setCell ⟨T0,5,none⟩ (.int .i64 0)).heap.size=T0+1:=by simpa using hsZ
   obtain ⟨X1,hX1⟩:∃ X1,((((((Z0.setCell ⟨T0,0,none⟩ (.string ⟨x.toArray⟩)).setCell ⟨T0,1,none⟩ (.slice none 0 0)).setCell ⟨T0,2,none⟩ (.int .i64 0)).setCell ⟨T0,3,none⟩ (.int .i64 0)).setCell ⟨T0,4,none⟩ (.int .i64 0)).setCell ⟨T0,5,none⟩ (.int .i64 0))=X1:=⟨_,rfl⟩
   rw [hX1] at b6 hbX hs1;have hle:w1.heap.size≤T0:=by rw [←hT0];exact HB.out.size
   have hB1x:Below w1.heap.size w1 X1:=HB.out.trans (hbX.mono hle);have HAs:Hid (_):=HA8.out X1 x (HIz.out X1 hB1x);rw [e8] at HAs;have hP0:=HIz.out X0 HB.out;obtain ⟨b,off,rfl,hbl,r0',ia,il,ic,fa,fl,fc,r1',r2',hii,_⟩:=hP0.2 j hj;rw [hT0] at hbl hnl;have d1:=(hbX.cell (p:=⟨nb,no+i,none⟩) hnl).trans d0;have r0:=(hbX.cell (p:=⟨b,off+j*3,none⟩) hbl).trans r0';have r1:=(hbX.cell (p:=⟨b,off+j*3+1,none⟩) hbl).trans r1';have r2:=(hbX.cell (p:=⟨b,off+j*3+2,none⟩) hbl).trans r2';clear r0' r1' r2';have hsj:=HSh.out j;obtain ⟨⟨pn,ims,fs⟩,hp⟩:∃ p,ps.getD j pk0=p:=⟨_,rfl⟩
   rw [hp] at r0 hii hTi hsj;simp only at r0 hii hTi hsj;obtain rfl:ims.length=il:=hii.1;obtain ⟨bx,hbx⟩:=Box3.new X1 (.string ⟨pn.toArray⟩) (.slice ia ims.length ic) (.slice fa fl fc) 99;have hs2:(X1.alloc (.cells #[.string ⟨pn.toArray⟩,.slice ia ims.length ic,.slice fa fl fc] 99)).heap.size=T0+2:=by simp [hs1]
   obtain ⟨X2,hX2⟩:∃ X2,X1.alloc (.cells #[.string ⟨pn.toArray⟩,.slice ia ims.length ic,.slice fa fl fc] 99)=X2:=⟨_,rfl⟩
   rw [hX2] at bx hbx hs2;have HT6:Hid (B6 X2 T0 (.string ⟨x.toArray⟩) (.slice none 0 0) (.int .i64 0) (.int .i64 0) (.int .i64 0) (.int .i64 0)):=b6.below hbx;rw [hs1] at bx hbx;have HBx:Hid (Box3 X2 (T0+1) (.string ⟨pn.toArray⟩) (.slice ia ims.length ic) (.slice fa fl fc)):=bx;have HB2:Hid (Below T0 X0 X2):=hbX.trans (hbx.mono (by omega))
   have HIm:Hid (∀ Z,Below T0 X0 Z→za7 Z ia ims.length ims∧za7 Z (some ⟨nb,no,none⟩) os.length os∧za2 Z w1.heap.size (.slice ta i tc) xs):=fun Z hz=>by
    rw [←hT0] at hz;exact ⟨hii.below hz,(HN.out X0 HB.out).below hz,HO.out.below hz⟩
   have HTi:Hid (T i=(x,zaQ os ims i,0,0,0,0)):=hTi;have HN0:Hid (zaQ os ims 0=[]):=rfl;have HR0:Hid (X2.ownsRow (T0+2) 2 1 (.slice none 0 0) ([]:List Int).length (zaY [])):=World.ownsRow_nil _ _ _ _;have HSz:Hid (T0+2≤X2.heap.size):=by exact (by omega:T0+2≤X2.heap.size)
   have hji:(j:Int)<(ps.length:Int):=by omega
   clear e8 hx b6 bz hbZ hsZ hbX hB1x hP0 hii hp bx hbx
   go_wp2_with (go_at_call 82;refine Calls.mono HAs.out ?_;rintro e w3 ⟨rfl,hw3⟩;obtain rfl:=hw3.symm)
   go_loopw [8] (fun kv wy=>∃ (k:Nat) (va:Option Addr) (vc:Nat) (ns:List Int),kv=.int .i64 (k:Int)∧k≤i∧ns.length≤k∧Hid (zaQ os ims k=ns)∧Hid (B6 wy T0 (.string ⟨x.toArray⟩) (.slice va ns.length vc) (.int .i64 0) (.int .i64 0) (.int .i64 0) (.int .i64 0))∧Hid (wy.ownsRow (T0+2) 2 1 (.slice va ns.length vc) ns.length (zaY ns))∧Hid (Box3 wy (T0+1) (.string ⟨pn.toArray⟩) (.slice ia ims.length ic) (.slice fa fl fc))∧Hid (Below T0 X0 wy)∧Hid (T0+2≤wy.heap.size)) (fun kv _=>i-(intOf kv).toNat)
   case atStart=>exact ⟨0,none,0,[],rfl,by omega,by simp,HN0,HT6,HR0,HBx,HB2,HSz⟩
   case round =>
    obtain ⟨k,va,vc,ns,rfl,hk,hnl2,HNs,HT,HR,HP,HBy,HSy⟩:=hrel;obtain ⟨X3,hX3⟩:∃ X3,X3=wr:=⟨_,rfl⟩
    subst hX3;clear HN0 HT6 HR0 HBx HB2 HSz hX1 hX2 hZ0 z0 z1 z2 z3 z4 z5 zf hs1 hs2 d0 d1 r0 r1 r2;have p1:=HP.out.c1;by_cases hki:(k:Int)<(i:Int)
    ·
     obtain ⟨_,_,e,_,dk⟩:=(HIm.out X3 HBy.out).2.1.2 k (by omega);injection e with e;injection e with e1 e2 _;subst e1 e2;obtain ⟨y,hy⟩:∃ y,os.getD k []=y:=⟨_,rfl⟩
     rw [hy] at dk;have hH:∀ Z,za7 Z ia ims.length ims→_:=fun Z hz=>zdH ia ims.length ic ims y Z hz (by omega)
     have HTm:Hid (za7 X3 ia ims.length ims):=(HIm.out X3 HBy.out).1;have hko:(k:Int)<(os.length:Int):=by omega
     have t1:=HT.out.c1;have tf:=HT.out.fr 1
     have HDr:Hid (∀ n,Below T0 X0 (X3.drewN n)∧B6 (X3.drewN n) T0 (.string ⟨x.toArray⟩) (.slice va ns.length vc) (.int .i64 0) (.int .i64 0) (.int .i64 0) (.int .i64 0)∧(X3.drewN n).ownsRow (T0+2) 2 1 (.slice va ns.length vc) ns.length (zaY ns)∧Box3 (X3.drewN n) (T0+1) (.string ⟨pn.toArray⟩) (.slice ia ims.length ic) (.slice fa fl fc)∧T0+2≤(X3.drewN n).heap.size):=fun n =>
      ⟨HBy.out.trans ⟨rfl,rfl,rfl,Nat.le_refl _,fun _ _=>rfl⟩,HT.out.keep rfl,za5 HR.out ⟨rfl,rfl,rfl,Nat.le_refl _,fun _ _=>rfl⟩,HP.out.keep rfl,HSy.out⟩
     by_cases hm:y∈ims
     ·
      have HNy:Hid (zaQ os ims (k+1)=ns++[(k:Int)]):=by exact (by rw [zhA (by rw [hy];exact hm),HNs.out]:zaQ os ims (k+1)=ns++[(k:Int)])
      rw [decide_eq_true hm] at hH;have HH:Hid (_):=hH;clear hH hm hy;go_wp2_with fail
      go_quiet (first | (go_at_call 83;refine Calls.quiet_of_same (HH.out _ (HTm.out.below ⟨rfl,rfl,rfl,Nat.le_refl _,fun _ _=>rfl⟩))))
      obtain ⟨hBd,hTd,hRd,hPd,hSd⟩:=HDr.out nq;clear HDr HTm HH t1 tf p1 dk;generalize X3.drewN nq=Z at hBd hTd hRd hPd hSd ⊢;obtain ⟨v',Y,hr,ho,hg⟩:=ze1 (k:Int) hRd hSd (by omega);obtain ⟨va',vc',rfl⟩:=zb4 ho;have hlen:(ns++[(k:Int)]).length=ns.length+1:=by simp
      have q1:=hTd.c1;have bY:=hTd.grown hg (fun e=>by have:=(hRd.lt _ e).1;omega);have y1:=bY.c1;have yf:=bY.fr 1;have HT2:Hid (B6 (Y.setCell ⟨T0,1,none⟩ (.slice va' (ns.length+1) vc')) T0 (.string ⟨x.toArray⟩) (.slice va' (ns++[(k:Int)]).length vc') (.int .i64 0) (.int .i64 0) (.int .i64 0) (.int .i64 0)):=by exact (by rw [hlen];exact bY.s1 _:B6 (Y.setCell ⟨T0,1,none⟩ (.slice va' (ns.length+1) vc')) T0 (.string ⟨x.toArray⟩) (.slice va' (ns++[(k:Int)]).length vc') (.int .i64 0) (.int .i64 0) (.int .i64 0) (.int .i64 0))
      have HR2:Hid ((Y.setCell ⟨T0,1,none⟩ (.slice va' (ns.length+1) vc')).ownsRow (T0+2) 2 1 (.slice va' (ns++[(k:Int)]).length vc') (ns++[(k:Int)]).length (zaY (ns++[(k:Int)]))):=by exact (by rw [hlen];exact ownsRow_setCell_below ho (by show T0<T0+2;omega) _:(Y.setCell ⟨T0,1,none⟩ (.slice va' (ns.length+1) vc')).ownsRow (T0+2) 2 1 (.slice va' (ns++[(k:Int)]).length vc') (ns++[(k:Int)]).length (zaY (ns++[(k:Int)])))
      have HP2:Hid (Box3 (Y.setCell ⟨T0,1,none⟩ (.slice va' (ns.length+1) vc')) (T0+1) (.string ⟨pn.toArray⟩) (.slice ia ims.length ic) (.slice fa fl fc)):=(hPd.grown hg (fun e=>by have:=(hRd.lt _ e.symm).1;omega)).keep (Below.heap_setCell _ _ _ _ (by show T0+1≠T0;omega));have HB2:Hid (Below T0 X0 (Y.setCell ⟨T0,1,none⟩ (.slice va' (ns.length+1) vc'))):=(hBd.grown hg (by omega) (fun q e=>by have:=(hRd.lt _ e).1;omega)).setCell (Nat.le_refl _) _;have HS2:Hid (T0+2≤(Y.setCell ⟨T0,1,none⟩ (.slice va' (ns.length+1) vc')).heap.size):=by exact (by have:=hg.size;simp;omega:T0+2≤(Y.setCell ⟨T0,1,none⟩ (.slice va' (ns.length+1) vc')).heap.size)
      clear hBd hTd hRd hPd hSd ho hg bY
      go_wp2_with (at_builtin;refine za0 rfl _ _ 40 rfl _ _ _ rfl rfl hr ?_;clear hr)
      go_roundw
      case rel=>exact ⟨k+1,va',vc',ns++[(k:Int)],by go_num,by omega,by rw [hlen];omega,HNy,HT2,HR2,HP2,HB2,HS2⟩
      case measure=>simp [intOf];omega
     ·
      have HNy:Hid (zaQ os ims (k+1)=ns):=by exact (by rw [zjp (by rw [hy];exact hm),HNs.out]:zaQ os ims (k+1)=ns)
      rw [decide_eq_false hm] at hH;have HH:Hid (_):=hH;clear hH hm hy;go_wp2_with fail
      go_quiet (first | (go_at_call 83;refine Calls.quiet_of_same (HH.out _ (HTm.out.below ⟨rfl,rfl,rfl,Nat.le_refl _,fun _ _=>rfl⟩))))
      obtain ⟨hBd,hTd,hRd,hPd,hSd⟩:=HDr.out nq;go_wp2;go_roundw
      case rel=>exact ⟨k+1,va,vc,ns,by go_num,by omega,by omega,HNy,hTd,hRd,hPd,hBd,hSd⟩
      case measure=>simp [intOf];omega
    ·
     obtain rfl:k=i:=by omega
     have c0:=HT.out.c0;have c1:=HT.out.c1;have c2:=HT.out.c2;have c3:=HT.out.c3;have c4:=HT.out.c4;have c5:=HT.out.c5;have hs3:w1.heap.size≤X3.heap.size:=by have:=HSy.out;omega
     obtain ⟨v',Y,hr,ho,hg⟩:=zky (HIm.out X3 HBy.out).2.2 ((x,ns,0,0,0,0),va,vc) (zaD HR.out (by omega)) hs3 (by omega);obtain ⟨ta',tc',rfl⟩:=zb4 ho.row;have hlen:(xs++[(((x,ns,0,0,0,0),va,vc):TV)]).length=k+1:=by simp [hxl]
     have HX2:Hid ((xs++[(((x,ns,0,0,0,0),va,vc):TV)]).map (·.1)=(List.range (k+1)).map T):=by exact (by rw [List.map_append,HX.out,List.range_succ,List.map_append,List.map_cons,List.map_nil,List.map_cons,List.map_nil,HTi.out,HNs.out]:(xs++[(((x,ns,0,0,0,0),va,vc):TV)]).map (·.1)=(List.range (k+1)).map T)
     have HA2:Hid (zai ((xs++[(((x,ns,0,0,0,0),va,vc):TV)]).map tvT)):=by exact (by
      rw [List.map_append];refine HAp.out.snoc (fun v hv=>?_);obtain ⟨z,hz,rfl⟩:=List.mem_map.1 hv;rcases hvb:(tvT z).ownBlock with _ | g
      ·exact Or.inl rfl
      ·refine Or.inr (fun e=>?_);have h1:=((HO.out.trees z hz).lt g hvb).2;have h2:=(HR.out.lt g e.symm).1;omega:zai ((xs++[(((x,ns,0,0,0,0),va,vc):TV)]).map tvT))
     have HB2:Hid (Below w1.heap.size w1 Y):=(HB.out.trans (HBy.out.mono hle)).grown hg hs3 (fun q e=>(HO.out.row.lt q e).1);rw [hlen] at hr ho;have HO2:Hid (za2 Y w1.heap.size (.slice ta' (k+1) tc') (xs++[(((x,ns,0,0,0,0),va,vc):TV)])):=ho;simp only [tvT] at hr;clear ho hg hs3
     go_wp2_with (at_builtin;refine za0 rfl _ _ 24 rfl _ _ _ rfl rfl hr ?_;clear hr)
     go_roundw
     case rel=>exact ⟨k+1,_,ta',tc',rfl,by go_num,by omega,hlen,HX2,HO2,HA2,HB2⟩
     case measure=>simp [intOf];omega
  ·
   have HE:Hid (xs.map (·.1)=R):=by exact (by rw [HTs.out,HX.out,show i=os.length by omega]:xs.map (·.1)=R)
   go_wp2;go_ret;exact ⟨_,rfl,xs,HE.out,HO.out.base HB1.out.size,HAp.out,HB1.out.trans (HB.out.mono HB1.out.size)⟩
theorem znl {ts:List Ta} {e n:Int} {j:List UInt8} (h:¬(((inB (ts.length:Int) 1 8 && inB e 1 1000) && inB n 0 1000000)=true∧j.length≤60000)):zac (ts,e,n,j)=false:=by
 rw [Bool.eq_false_iff];intro k;obtain ⟨h1,h2,h3,h4,_⟩:=zao.1 k;refine h ⟨?_,h4⟩;simp only at h1 h2 h3;unfold inB;simp only [Bool.and_eq_true,decide_eq_true_eq];omega
theorem deskB_no {ts:List Ta} {e n:Int} {j:List UInt8} {i:Nat} (hi:i<ts.length) (h:¬zcA ts i):zac (ts,e,n,j)=false:=by
 rw [Bool.eq_false_iff];intro k;exact h ((zao.1 k).one i hi)
theorem zp9 {ts:List Ta} {e n:Int} {j:List UInt8} (h1:inB (ts.length:Int) 1 8=true) (h2:inB e 1 1000=true) (h3:inB n 0 1000000=true) (h4:j.length≤60000) (h:∀ i,i<ts.length→zcA ts i):zac (ts,e,n,j)=true:=by
 unfold inB at h1 h2 h3;have h1:=of_decide_eq_true h1;exact zao.2 ⟨by show 1≤ts.length∧ts.length≤8;omega,of_decide_eq_true h2,of_decide_eq_true h3,h4,h⟩
theorem zbW (a:Option Addr) (len cap:Nat) (ts:List Ta) (ep nw:Int) (jr:List UInt8) (w:World) (hin:zat w a len ts) (hsh:za1 ts) (hlen:len≤1048576) :
 Calls Tryz.prog 16 #[.agg #[.slice a len cap,.int .i64 ep,.int .i64 nw,.string ⟨jr.toArray⟩]] w
  fun e w'=>e=.returned (.bool (zac (ts,ep,nw,jr)))∧Below w.heap.size w w':=by
 obtain rfl:ts.length=len:=hin.1;obtain ⟨W,hW⟩:∃ W,w.alloc (.cells #[.slice a ts.length cap,.int .i64 ep,.int .i64 nw,.string ⟨jr.toArray⟩] 26)=W:=⟨_,rfl⟩
 have hbW:Below w.heap.size w W:=by rw [←hW];exact (Below.refl _ _).alloc (Nat.le_refl _) _
 have hA:W.heap[w.heap.size]?=some (.cells #[.slice a ts.length cap,.int .i64 ep,.int .i64 nw,.string ⟨jr.toArray⟩] 26):=by rw [←hW];exact heap_alloc_new w _
 obtain ⟨D,hD⟩:∃ D,w.heap.size=D:=⟨_,rfl⟩
 rw [hD] at hA;have k0:W.cell? ⟨D,0,none⟩=some (.slice a ts.length cap):=by simp [World.cell?,hA]
 have k1:W.cell? ⟨D,1,none⟩=some (.int .i64 ep):=by simp [World.cell?,hA]
 have k2:W.cell? ⟨D,2,none⟩=some (.int .i64 nw):=by simp [World.cell?,hA]
 have k3:W.cell? ⟨D,3,none⟩=some (.string ⟨jr.toArray⟩):=by simp [World.cell?,hA]
 have hDl:D<W.heap.size:=World.block_lt_of_cell? W ⟨D,0,none⟩ k0;have HI:Hid (∀ Z,Below W.heap.size W Z→zat Z a ts.length ts):=fun Z hz=>(hin.below hbW).below hz
 have HB:Hid (∀ Z,Below W.heap.size W Z→Below D w Z):=fun Z hz=>hD▸hbW.trans (hz.mono hbW.size)
 have HC:Hid (∀ Z,Below W.heap.size W Z→Z.cell? ⟨D,0,none⟩=some (.slice a ts.length cap)):=fun Z hz=>(hz.cell (p:=⟨D,0,none⟩) hDl).trans k0
 have HN:Hid (_):=zca (ts.length:Int) 1 8 W;have HE:Hid (_):=zca ep 1 1000 W;have HT:Hid (_):=zlB nw W;have HS:Hid (za1 ts):=hsh;have HB0:Hid (Below W.heap.size W W):=Below.refl _ _;have HH:Hid (¬(((inB (ts.length:Int) 1 8 && inB ep 1 1000) && inB nw 0 1000000)=true∧jr.length≤60000)→zac (ts,ep,nw,jr)=false):=znl;have HY:Hid (inB (ts.length:Int) 1 8=true→inB ep 1 1000=true→inB nw 0 1000000=true→jr.length≤60000→(∀ i,i<ts.length→zcA ts i)→zac (ts,ep,nw,jr)=true):=zp9;generalize inB (ts.length:Int) 1 8=b1 at HN HH HY;generalize inB ep 1 1000=b2 at HE HH HY;generalize inB nw 0 1000000=b3 at HT HH HY;clear hin hsh hbW hA hDl
 go_enter Tryz.func16,Tryz.ntmps16
 go_wp2_with fail
 refine Calls.mono HN.out ?_;rintro e W1 ⟨rfl,hw1⟩;obtain rfl:=hw1.symm;clear hw1 HN;rcases b1 with _ | _
 ·have HF:Hid (_):=HH.out (fun e=>by cases e.1);go_wp2;go_ret;exact ⟨by rw [HF.out];rfl,hD▸HB.out _ HB0.out⟩
 ·
  go_wp2_with fail
  refine Calls.mono HE.out ?_;rintro e W2 ⟨rfl,hw2⟩;obtain rfl:=hw2.symm;clear hw2 HE;rcases b2 with _ | _
  ·have HF:Hid (_):=HH.out (fun e=>by cases e.1);go_wp2;go_ret;exact ⟨by rw [HF.out];rfl,hD▸HB.out _ HB0.out⟩
  ·
   go_wp2_with fail
   refine Calls.mono HT.out ?_;rintro e W3 ⟨rfl,hw3⟩;obtain rfl:=hw3.symm;clear hw3 HT;rcases b3 with _ | _
   ·have HF:Hid (_):=HH.out (fun e=>by cases e.1);go_wp2;go_ret;exact ⟨by rw [HF.out];rfl,hD▸HB.out _ HB0.out⟩
   ·
    by_cases hj6:jr.length≤60000
    ·
     have HY2:Hid (_):=HY.out (by first | rfl | trivial) (by first | rfl | trivial) (by first | rfl | trivial) hj6;clear HY HH;go_wp2
     go_loopw [4] (fun iv wr=>∃ i:Nat,iv=.int .i64 (i:Int)∧i≤ts.length∧Hid (∀ q,q<i→zcA ts q)∧Hid (Below W.heap.size W wr)) (fun iv _=>ts.length-(intOf iv).toNat)
     case atStart=>exact ⟨0,rfl,by omega,fun q hq=>by omega,HB0⟩
     case round =>
      obtain ⟨i,rfl,hi,HA,HBr⟩:=hrel;by_cases hlt:(i:Int)<(ts.length:Int)
      ·
       have hI:=HI.out wr HBr.out;obtain ⟨b,off,rfl,hbl,c0,⟨na,nc,c1,hn⟩,c2,c3,c4,c5⟩:=hI.2 i (by omega);clear k0;have k0:=HC.out wr HBr.out;have hsh:=HS.out i;have hN1:zcA ts i↔zaE (ts.getD i ta0).1=true∧zc1 (i:Int) (ts.getD i ta0)=true∧∀ k,k<i→(ts.getD k ta0).1≠(ts.getD i ta0).1:=Iff.rfl
       obtain ⟨x,hx⟩:∃ x,ts.getD i ta0=x:=⟨_,rfl⟩
       rw [hx] at c0 c1 hn c2 c3 c4 c5 hsh hN1;obtain ⟨nm,ns,st,wk,un,ke⟩:=x;simp only at c0 c1 hn c2 c3 c4 c5 hsh hN1;have HNm:Hid (_):=zcb nm wr hsh.1;have HTk:Hid (_):=specTask nm na nc ns st wk un ke i wr hn hsh.2;have HNo:Hid (¬zcA ts i→zac (ts,ep,nw,jr)=false):=fun h=>deskB_no (by omega) h
       have HN1:Hid (_):=hN1;clear hN1 hI hn hsh;generalize zaE nm=b1 at HNm HN1;generalize zc1 (i:Int) (nm,ns,st,wk,un,ke)=b2 at HTk HN1;rcases b1 with _ | _
       ·
        have HF:Hid (_):=HNo.out (fun h=>by cases (HN1.out.1 h).1);clear HNo HN1 HA HY2
        go_wp2_with (go_at_call 44;refine Calls.mono HNm.out ?_;rintro e w1 ⟨rfl,rfl⟩)
        go_ret;exact ⟨by rw [HF.out];rfl,hD▸HB.out _ HBr.out⟩
       ·
        rcases b2 with _ | _
        ·
         have HF:Hid (_):=HNo.out (fun h=>by cases (HN1.out.1 h).2.1);clear HNo HN1 HA HY2
         go_wp2_with (first | (go_at_call 44;refine Calls.mono HNm.out ?_;rintro e w1 ⟨rfl,rfl⟩) | (go_at_call 45;refine Calls.mono HTk.out ?_;rintro e w2 ⟨rfl,hb2⟩))
         go_ret;exact ⟨by rw [HF.out];rfl,hD▸HB.out _ (HBr.out.trans (hb2.mono HBr.out.size))⟩
        ·
         go_wp2_with (first | (go_at_call 44;refine Calls.mono HNm.out ?_;rintro e w1 ⟨rfl,rfl⟩) | (go_at_call 45;refine Calls.mono HTk.out ?_;rintro e w2 ⟨rfl,hb2⟩))
         have HB2:Hid (Below W.heap.size W w2):=HBr.out.trans (hb2.mono HBr.out.size)
         have HX:Hid (∀ Z,Below W.heap.size W Z→Z.cell? ⟨b,off+i*6,none⟩=some (.string ⟨nm.toArray⟩)):=fun Z hz=>by
          obtain ⟨b',off',e,_,d0,_⟩:=(HI.out Z hz).2 i (by omega);injection e with e;injection e with e1 e2 _;subst e1 e2;rw [hx] at d0;exact d0
         have HXn:Hid ((ts.getD i ta0).1=nm):=by exact (by rw [hx]:(ts.getD i ta0).1=nm)
         clear hb2 c0 c1 c2 c3 c4 c5 k0 HBr HTk HNm hx
         go_loopw [5] (fun iv wr=>∃ k:Nat,iv=.int .i64 (k:Int)∧k≤i∧Hid (∀ q,q<k→(ts.getD q ta0).1≠nm)∧Hid (Below W.heap.size W wr)) (fun iv _=>i-(intOf iv).toNat)
         case atStart=>exact ⟨0,rfl,by omega,fun q hq=>by omega,HB2⟩
         case round =>
          obtain ⟨k,rfl,hk,HQ,HBk⟩:=hrel
          rename World=>U
          clear HB2;have k0:=HC.out U HBk.out;have c0:=HX.out U HBk.out;have HBd:Hid (Below W.heap.size W U.drew):=HBk.out.trans (by exact ⟨rfl,rfl,rfl,Nat.le_refl _,fun _ _=>rfl⟩);by_cases hkl:(k:Int)<(i:Int)
          ·
           obtain ⟨b',off',e,_,d0,_⟩:=(HI.out U HBk.out).2 k (by omega);injection e with e;injection e with e1 e2 _;subst e1 e2;obtain ⟨y,hy⟩:∃ y,(ts.getD k ta0).1=y:=⟨_,rfl⟩
           rw [hy] at d0;by_cases hyn:y=nm
           ·
            have HF:Hid (_):=HNo.out (fun h=>(HN1.out.1 h).2.2 k (by omega) (by rw [hy];exact hyn));have heb:(y==nm)=true:=by rw [hyn];simp
            clear HQ HNo HN1 HX HI HC HA hy hyn;go_wp2;refine wp_region_held_drew (S:=fun Z=>Z.cell? ⟨D,0,none⟩=some (.slice (some ⟨b,off,none⟩) ts.length cap)∧Z.cell? ⟨b,off+k*6,none⟩=some (.string ⟨y.toArray⟩)∧Z.cell? ⟨b,off+i*6,none⟩=some (.string ⟨nm.toArray⟩)) (by kernel_rfl) (by exact ⟨k0,d0,c0⟩) (fun hHeld=>?_);refine tkO [(0,58),(1,59),(2,60),(3,61),(4,62),(5,63),(6,64),(7,65),(8,66),(9,67),(10,68),(11,69)] ?_
            repeat (refine tkY ?_ rfl (by rfl) ?_ ?_;rotate_left;(focus (intro wq hSw;obtain ⟨z0,z1,z2⟩:=hSw;first | (go_simp;done) | (go_simp;with_reducible rfl) | (go_simp;rw [if_pos (by omega)])));simp only [zP])
            refine tkZ ?_;refine wpAnyH_take (i:=12) (oi:=⟨some 70,_,_,_,_,_⟩) (v:=.bool true) rfl (by kernel_rfl) (by kernel_rfl) (by kernel_rfl) (fun _ _ _ h=>h) (Or.inl ⟨by rfl,?hy244⟩) (by assumption) ?rest244
            case hy244=>(intro wq hSw;clear hSw;first | (go_simp;done) | (go_simp;with_reducible rfl) | (go_simp;simp only [Result.ok.injEq,Next.value.injEq,Value.bool.injEq,decide_eq_true_eq,decide_eq_false_iff_not,and_true];first | omega | assumption))
            simp only [zP];refine wpAnyH_done (by kernel_rfl) ?_ _
            (try dsimp only)
            go_wp2;go_ret;exact ⟨by rw [HF.out];rfl,hD▸HB.out _ HBd.out⟩
           ·
            have heb:(y==nm)=false:=beq_eq_false_iff_ne.2 hyn
            have HR:Hid (∀ q,q<k+1→(ts.getD q ta0).1≠nm):=fun q hq=>by
             rcases Nat.lt_or_ge q k with g | g
             ·exact HQ.out q g
             ·
              obtain rfl:q=k:=by omega
              rw [hy];exact hyn
            clear HQ hy hyn;go_wp2;refine wp_region_held_drew (S:=fun Z=>Z.cell? ⟨D,0,none⟩=some (.slice (some ⟨b,off,none⟩) ts.length cap)∧Z.cell? ⟨b,off+k*6,none⟩=some (.string ⟨y.toArray⟩)∧Z.cell? ⟨b,off+i*6,none⟩=some (.string ⟨nm.toArray⟩)) (by kernel_rfl) (by exact ⟨k0,d0,c0⟩) (fun hHeld=>?_);refine tkO [(0,58),(1,59),(2,60),(3,61),(4,62),(5,63),(6,64),(7,65),(8,66),(9,67),(10,68),(11,69)] ?_
            repeat (refine tkY ?_ rfl (by rfl) ?_ ?_;rotate_left;(focus (intro wq hSw;obtain ⟨z0,z1,z2⟩:=hSw;first | (go_simp;done) | (go_simp;with_reducible rfl) | (go_simp;rw [if_pos (by omega)])));simp only [zP])
            refine tkZ ?_;refine wpAnyH_take (i:=12) (oi:=⟨some 70,_,_,_,_,_⟩) (v:=.bool false) rfl (by kernel_rfl) (by kernel_rfl) (by kernel_rfl) (fun _ _ _ h=>h) (Or.inl ⟨by rfl,?hy257⟩) (by assumption) ?rest257
            case hy257=>(intro wq hSw;clear hSw;first | (go_simp;done) | (go_simp;with_reducible rfl) | (go_simp;simp only [Result.ok.injEq,Next.value.injEq,Value.bool.injEq,decide_eq_true_eq,decide_eq_false_iff_not,and_true];first | omega | assumption))
            simp only [zP];refine wpAnyH_done (by kernel_rfl) ?_ _
            (try dsimp only)
            go_wp2;go_roundw
            case rel=>exact ⟨k+1,by go_num,by omega,HR,HBd⟩
            case measure=>simp [intOf];omega
          ·
           have HR:Hid (∀ q,q<i+1→zcA ts q):=fun q hq=>by
            rcases Nat.lt_or_ge q i with g | g
            ·exact HA.out q g
            ·
             obtain rfl:q=i:=by omega
             exact HN1.out.2 ⟨by first | rfl | trivial,by first | rfl | trivial,fun k' hk'=>HQ.out k' (by omega)⟩
           clear HQ HNo HN1 HA;go_wp2;go_roundw
           case rel=>exact ⟨i+1,by go_num,by omega,HR,HBk⟩
           case measure=>simp [intOf];omega
      ·have HF:Hid (_):=HY2.out (fun q hq=>HA.out q (by omega));clear HA HY2;go_wp2;go_ret;exact ⟨by rw [HF.out];rfl,hD▸HB.out _ HBr.out⟩
    ·have HF:Hid (_):=HH.out (fun e=>hj6 e.2);go_wp2;go_ret;exact ⟨by rw [HF.out];rfl,hD▸HB.out _ HB0.out⟩
theorem zm9 {d:Dk} {i:Nat} (hi:i<d.1.length) (h:(d.1.getD i ta0).2.2.1≠2):zg8 d=false:=decide_eq_false (fun e=>h (e i hi))
theorem zk0 {d:Dk} (h:∀ i,i<d.1.length→(d.1.getD i ta0).2.2.1=2):zg8 d=true:=decide_eq_true h
theorem zib (a:Option Addr) (len cap:Nat) (ts:List Ta) (ep nw:Int) (jr:List UInt8) (w:World) (hin:zat w a len ts) (hlen:len≤1048576) :
 Calls Tryz.prog 46 #[.agg #[.slice a len cap,.int .i64 ep,.int .i64 nw,.string ⟨jr.toArray⟩]] w
  fun e w'=>e=.returned (.bool (zg8 (ts,ep,nw,jr)))∧Below w.heap.size w w':=by
 obtain rfl:ts.length=len:=hin.1;obtain ⟨W,hW⟩:∃ W,w.alloc (.cells #[.slice a ts.length cap,.int .i64 ep,.int .i64 nw,.string ⟨jr.toArray⟩] 26)=W:=⟨_,rfl⟩
 have hbW:Below w.heap.size w W:=by rw [←hW];exact (Below.refl _ _).alloc (Nat.le_refl _) _
 have hA:W.heap[w.heap.size]?=some (.cells #[.slice a ts.length cap,.int .i64 ep,.int .i64 nw,.string ⟨jr.toArray⟩] 26):=by rw [←hW];exact heap_alloc_new w _
 obtain ⟨D,hD⟩:∃ D,w.heap.size=D:=⟨_,rfl⟩
 rw [hD] at hA;have k0:W.cell? ⟨D,0,none⟩=some (.slice a ts.length cap):=by simp [World.cell?,hA]
 have HI:Hid (zat W a ts.length ts):=hin.below hbW;have HB:Hid (Below D w W):=hD▸hbW;have HN:Hid (∀ i,i<ts.length→(ts.getD i ta0).2.2.1≠2→zg8 (ts,ep,nw,jr)=false):=fun i hi h=>zm9 (d:=(ts,ep,nw,jr)) hi h
 have HY:Hid ((∀ i,i<ts.length→(ts.getD i ta0).2.2.1=2)→zg8 (ts,ep,nw,jr)=true):=fun h=>zk0 (d:=(ts,ep,nw,jr)) h
 clear hin hbW hA
 go_enter Tryz.func46,Tryz.ntmps46
 go_wp2
 go_loop [3] (fun iv=>∃ i:Nat,iv=.int .i64 (i:Int)∧i≤ts.length∧Hid (∀ q,q<i→(ts.getD q ta0).2.2.1=2)) (fun iv=>ts.length-(intOf iv).toNat)
 case atStart=>exact ⟨0,rfl,by omega,fun q hq=>by omega⟩
 case round =>
  obtain ⟨i,rfl,hi,HA⟩:=hrel;by_cases hlt:(i:Int)<(ts.length:Int)
  ·
   obtain ⟨b,off,rfl,hbl,_,_,c2,_⟩:=HI.out.2 i (by omega);obtain ⟨x,hx⟩:∃ x,(ts.getD i ta0).2.2.1=x:=⟨_,rfl⟩
   rw [hx] at c2;by_cases h2:x=2
   ·
    have HR:Hid (∀ q,q<i+1→(ts.getD q ta0).2.2.1=2):=fun q hq=>by
     rcases Nat.lt_or_ge q i with g | g
     ·exact HA.out q g
     ·
      obtain rfl:q=i:=by omega
      rw [hx];exact h2
    clear HA hx;subst h2;go_wp2
    go_round
    case rel=>exact ⟨i+1,by go_num,by omega,HR⟩
    case measure=>simp [intOf];omega
   ·have HF:Hid (_):=HN.out i (by omega) (by rw [hx];exact h2);clear HA hx HN HY;go_wp2;go_ret;exact ⟨by rw [HF.out];rfl,hD▸HB.out⟩
  ·have HF:Hid (_):=HY.out (fun q hq=>HA.out q (by omega));clear HA HN HY;go_wp2;go_ret;exact ⟨by rw [HF.out];rfl,hD▸HB.out⟩
theorem zku (a:Option Addr) (len cap:Nat) (ts:List Ta) (ep nw:Int) (jr:List UInt8) (w:World) (hin:zat w a len ts) (hsh:za1 ts) (hlen:len≤1048576) :
 Calls Tryz.prog 18 #[.agg #[.slice a len cap,.int .i64 ep,.int .i64 nw,.string ⟨jr.toArray⟩]] w
  fun e w'=>e=.returned (.bool (zdC (ts,ep,nw,jr)))∧Below w.heap.size w w':=by
 obtain ⟨W,hW⟩:∃ W,w.alloc (.cells #[.slice a len cap,.int .i64 ep,.int .i64 nw,.string ⟨jr.toArray⟩] 26)=W:=⟨_,rfl⟩
 have hbW:Below w.heap.size w W:=by rw [←hW];exact (Below.refl _ _).alloc (Nat.le_refl _) _
 have hA:W.heap[w.heap.size]?=some (.cells #[.slice a len cap,.int .i64 ep,.int .i64 nw,.string ⟨jr.toArray⟩] 26):=by rw [←hW];exact heap_alloc_new w _
 obtain ⟨D,hD⟩:∃ D,w.heap.size=D:=⟨_,rfl⟩
 rw [hD] at hA;have k0:W.cell? ⟨D,0,none⟩=some (.slice a len cap):=by simp [World.cell?,hA]
 have k1:W.cell? ⟨D,1,none⟩=some (.int .i64 ep):=by simp [World.cell?,hA]
 have k2:W.cell? ⟨D,2,none⟩=some (.int .i64 nw):=by simp [World.cell?,hA]
 have k3:W.cell? ⟨D,3,none⟩=some (.string ⟨jr.toArray⟩):=by simp [World.cell?,hA]
 have hDl:D<W.heap.size:=World.block_lt_of_cell? W ⟨D,0,none⟩ k0
 have HC:Hid (∀ Z,Below W.heap.size W Z→Z.cell? ⟨D,0,none⟩=some (.slice a len cap)∧Z.cell? ⟨D,1,none⟩=some (.int .i64 ep)∧Z.cell? ⟨D,2,none⟩=some (.int .i64 nw)∧Z.cell? ⟨D,3,none⟩=some (.string ⟨jr.toArray⟩)):=fun Z hz =>
  ⟨(hz.cell (p:=⟨D,0,none⟩) hDl).trans k0,(hz.cell (p:=⟨D,1,none⟩) hDl).trans k1,(hz.cell (p:=⟨D,2,none⟩) hDl).trans k2,(hz.cell (p:=⟨D,3,none⟩) hDl).trans k3⟩
 have HB:Hid (∀ Z,Below W.heap.size W Z→Below D w Z):=fun Z hz=>hD▸hbW.trans (hz.mono hbW.size)
 have HD:Hid (_):=zbW a len cap ts ep nw jr W (hin.below hbW) hsh hlen;have HA:Hid (∀ Z,Below W.heap.size W Z→_):=fun Z hz=>zib a len cap ts ep nw jr Z ((hin.below hbW).below hz) hlen
 have HV:Hid (zdC (ts,ep,nw,jr)=(zac (ts,ep,nw,jr) && zg8 (ts,ep,nw,jr))):=rfl;generalize zac (ts,ep,nw,jr)=b1 at HD HV;generalize zg8 (ts,ep,nw,jr)=b2 at HA HV;clear hin hsh hbW hA hDl
 go_enter Tryz.func18,Tryz.ntmps18
 go_wp2_with fail
 refine Calls.mono HD.out ?_;rintro e W1 ⟨rfl,hb1⟩;rcases b1 with _ | _
 ·go_wp2;go_ret;exact ⟨by rw [HV.out];rfl,hD▸HB.out _ hb1⟩
 ·
  clear k0 k1 k2 k3;obtain ⟨k0,k1,k2,k3⟩:=HC.out W1 hb1;go_wp2_with fail
  refine Calls.mono (HA.out _ hb1) ?_;rintro e W2 ⟨rfl,hb2⟩;go_wp2;go_ret;exact ⟨by rw [HV.out];rfl,hD▸HB.out _ (hb1.trans (hb2.mono hb1.size))⟩
end Go.Proofs.YtponeoijfaepnaaGreatDoor
