/-
  Parts of one proof, one behind the other: Draw8M.
-/
import Derived.Test.YtdbljnddkbpanaaGreatDoorP26
namespace Go.Proofs.YtdbljnddkbpanaaGreatDoor
open Go.RowKit
set_option maxHeartbeats 8000000 in
set_option maxRecDepth 100000 in
theorem drawPs (w:World) (B:Nat) (a:Option Addr) (len cap:Nat) (hc:Cur w B a len cap) :
 Calls Tryz.prog 34 #[.pointer (some ⟨B,0,none⟩)] w fun e w'=>∃ L la lc ys vc cs,e=.returned (.slice la (ys:List PV).length lc)∧D8 w' w B a len cap w.heap.size L la lc ys vc cs∧1≤ys.length∧ys.length≤4:=by
 have hc0:=hc.kept (World.grownBy_alloc w (.cells #[.string ⟨#[97]⟩,.string ⟨#[98]⟩,.string ⟨#[99]⟩] 9) none) (by simp)
 go_enter Tryz.func34,Tryz.ntmps34
 go_wp2_with fail
 refine (zaa _ B a len cap 4 (by omega) (by omega) hc0).mono ?_
 rintro e w1 ⟨x,rfl,hx0,hx1,hc1,hg1⟩
 have HD0:Hid (D8 ((w1.alloc (.cells #[] 75)).alloc (.cells #[] 103)) w B a len cap w.heap.size (w1.heap.size+2) (some ⟨w1.heap.size,0,none⟩) 0 [] (.slice (some ⟨w1.heap.size+1,0,none⟩) 0 0) []):=D8.start hc hc1 hg1
 obtain ⟨T,rfl⟩:∃ T:Nat,x=(T:Int):=Int.eq_ofNat_of_zero_le hx0
 obtain ⟨N,hN⟩:∃ N,w.heap.size=N:=⟨_,rfl⟩
 rw [hN] at HD0
 clear hc0 hc1 hg1 hx0
 have HN:Hid (w.heap.size=N):=hN
 go_wp2
 go_loopw [5,6,7] (fun lv cv iv wr=>∃ (L i:Nat) (la:Option Addr) (lc:Nat) (ys:List PV) (ca:Option Addr) (cc:Nat) (cs:List Nd),lv=.slice la ys.length lc∧cv=.slice ca cs.length cc∧iv=.int .i64 (i:Int)∧i≤T+1∧Hid (ys.length=i)∧Hid (cs.length≤3*i)∧Hid (D8 wr w B a len cap N L la lc ys (.slice ca cs.length cc) cs)) (fun _ _ iv _=>T+1-(intOf iv).toNat)
 case atStart=>exact ⟨_,0,_,0,[],_,0,[],rfl,rfl,rfl,by omega,(rfl:([]:List PV).length=0),(Nat.zero_le _:([]:List Nd).length≤3*0),HD0⟩
 case round =>
  obtain ⟨L,i,la,lc,ys,ca,cc,cs,rfl,rfl,rfl,hi,HY,HC,HD⟩:=hrel
  clear HD0
  by_cases hiT:(i:Int)≤(T:Int)
  rotate_left
  ·
   obtain rfl:i=T+1:=by omega
   go_wp2
   go_ret
   exact ⟨L,la,lc,ys,rfl,⟨_,cs,HD.out⟩,by have:=HY.out;omega,by have:=HY.out;omega⟩
  ·
   obtain ⟨W,hW⟩:∃ W,W=wr:=⟨_,rfl⟩
   subst hW
   go_upto_if 27 with fail
   go_cut [8] from 27 to 108 (fun v wx=>∃ nm:List UInt8,v=.string ⟨nm.toArray⟩∧nm.length≤9∧W=wx)
   case first =>
    by_cases hit:(i:Int)<(T:Int)
    ·
     obtain ⟨x,hx,c0⟩:=HD.out.name (k:=i) (by omega)
     have hi3:(i:Int)<3:=by omega
     go_wp2
     go_meet
     case rel=>exact ⟨x,rfl,hx,rfl⟩
    ·
     go_wp2
     go_meet
     case rel=>exact ⟨[109,97,105,110],rfl,by simp,rfl⟩
   case rest =>
    obtain ⟨nm,rfl,hnm,rfl⟩:=hcut
    have HD1:Hid (D8 ((W.alloc (.cells #[] 9)).alloc (.cells #[] 103)) w B a len cap N W.heap.size la lc ys (.slice ca cs.length cc) cs):=(HD.out.raise HD.out.ls (Nat.le_refl _)).below (((Below.refl _ _).alloc (Nat.le_refl _) _).alloc (by simp) _)
    have HI1:Hid (I8 ((W.alloc (.cells #[] 9)).alloc (.cells #[] 103)) W.heap.size (.slice (some ⟨W.heap.size,0,none⟩) 0 0) [] (.slice (some ⟨W.heap.size+1,0,none⟩) 0 0) []):=I8.start W
    clear HD
    go_wp2
    go_loopw [9,10,11] (fun iv ov kv wx=>∃ (ia:Option Addr) (ic:Nat) (ims:List (List UInt8)) (oa:Option Addr) (oc:Nat) (os:List Nd) (k:Nat),iv=.slice ia ims.length ic∧ov=.slice oa os.length oc∧kv=.int .i64 (k:Int)∧k≤i∧Hid (ims.length≤k)∧Hid (os.length≤9*k)∧Hid (D8 wx w B a len cap N W.heap.size la lc ys (.slice ca cs.length cc) cs)∧Hid (I8 wx W.heap.size (.slice ia ims.length ic) ims (.slice oa os.length oc) os)) (fun _ _ kv _=>i-(intOf kv).toNat)
    case atStart=>exact ⟨_,0,[],_,0,[],0,rfl,rfl,rfl,by omega,(Nat.le_refl _:([]:List (List UInt8)).length≤0),(Nat.zero_le _:([]:List Nd).length≤9*0),HD1,HI1⟩
    case round =>
     obtain ⟨ia,ic,ims,oa,oc,os,k,rfl,rfl,rfl,hk,HIL,HOL,HD2,HI2⟩:=hrel
     clear HD1 HI1
     obtain ⟨X,hX⟩:∃ X,X=wr:=⟨_,rfl⟩
     subst hX
     by_cases hki:(k:Int)<(i:Int)
     ·
      have hkT:(k:Int)<(T:Int):=by omega
      go_wp2_with fail
      refine (zbg X B a len cap 2 (by omega) (by omega) HD2.out.cur).mono ?_
      rintro e w3 ⟨b3,rfl,hc3,hg3⟩
      have HD3:Hid (D8 w3 w B a len cap N W.heap.size la lc ys (.slice ca cs.length cc) cs):=HD2.out.next hg3 hc3
      have HI3:Hid (I8 w3 W.heap.size (.slice ia ims.length ic) ims (.slice oa os.length oc) os):=HI2.out.next hg3 (by have:=HD2.out.br;have:=HD2.out.wl;omega)
      clear hc3 hg3 HD2 HI2
      rcases b3 with _ | _
      ·
       go_wp2
       go_roundw
       case rel=>exact ⟨ia,ic,ims,oa,oc,os,k+1,rfl,rfl,by go_num,by omega,Nat.le_succ_of_le HIL.out,Nat.le_trans HOL.out (by omega),HD3,HI3⟩
       case measure=>simp [intOf];omega
      ·
       obtain ⟨x,hx,c0⟩:=HD3.out.name (k:=k) (by omega)
       obtain ⟨v4,w4,hr4,hI4,hg4⟩:=HI3.out.imp x hx HD3.out.ls (by have:=HIL.out;omega)
       have HD4:Hid (D8 w4 w B a len cap N W.heap.size la lc ys (.slice ca cs.length cc) cs):=HD3.out.upper hg4 (fun q e=>(HI3.out.im.lt q e).1)
       obtain ⟨ia4,ic4,rfl,_,_⟩:=zfu hI4.im
       obtain ⟨im4,him4⟩:∃ im4,ims++[x]=im4:=⟨_,rfl⟩
       have HIL4:Hid (im4.length≤k+1):=by exact (by rw [←him4,List.length_append,List.length_singleton];have:=HIL.out;omega:im4.length≤k+1)
       rw [him4] at hr4 hI4
       have HI4:Hid (I8 w4 W.heap.size (.slice ia4 im4.length ic4) im4 (.slice oa os.length oc) os):=hI4
       have hk3:(k:Int)<3:=by omega
       clear him4 hI4 hg4 HI3 HD3 HIL
       go_wp2_with (at_builtin;refine za0 rfl (.tmp 46) (.tmp 51) 35 rfl _ _ _ rfl rfl hr4 ?_;clear hr4)
       go_loopw [10,12] (fun ov jv wy=>∃ (oa:Option Addr) (oc:Nat) (os:List Nd) (j:Nat),ov=.slice oa os.length oc∧jv=.int .i64 (j:Int)∧j≤cs.length∧Hid (os.length≤9*k+j)∧Hid (D8 wy w B a len cap N W.heap.size la lc ys (.slice ca cs.length cc) cs)∧Hid (I8 wy W.heap.size (.slice ia4 im4.length ic4) im4 (.slice oa os.length oc) os)) (fun _ jv _=>cs.length-(intOf jv).toNat)
       case atStart=>exact ⟨oa,oc,os,0,rfl,rfl,by omega,HOL,HD4,HI4⟩
       case round =>
        obtain ⟨oa,oc,os,j,rfl,rfl,hj,HOL,HD5,HI5⟩:=hrel
        clear HD4 HI4
        obtain ⟨X5,hX5⟩:∃ X,X=wr:=⟨_,rfl⟩
        subst hX5
        have hcl:=HC.out
        by_cases hjl:(j:Int)<(cs.length:Int)
        ·
         obtain ⟨x5,hx5,c5⟩:=HD5.out.name (k:=k) (by omega)
         obtain ⟨_,_,e0,_,hin⟩:=zdl HD5.out.cal
         injection e0 with e0 _ e2
         subst e0
         subst e2
         obtain ⟨cb,co,hca,_,hcells⟩:=hin.at (by omega)
         subst hca
         obtain ⟨q0,q1,q2,q3⟩:=hcells j (by omega)
         have hm:cs.getD j nd0∈cs:=by simp [List.getD,show j<cs.length by omega]
         have hsm:=HD5.out.csm.1 _ hm
         have hkd:=HD5.out.csm.2 _ hm
         obtain ⟨n5,hn5⟩:∃ n,cs.getD j nd0=n:=⟨_,rfl⟩
         rw [hn5] at q0 q1 q2 q3 hsm hkd
         obtain ⟨kd5,a5,p5,f5⟩:=n5
         simp only at q0 q1 q2 q3
         clear hn5 hcells hin hm
         rcases hb:(p5==x5) with _ | _
         ·
          go_wp2_with fail
          go_quiet (fail)
          go_wp2
          go_roundw
          case rel=>exact ⟨oa,oc,os,j+1,rfl,by go_num,by omega,Nat.le_succ_of_le HOL.out,HD5.out.upper (row:=none) ⟨rfl,rfl,rfl,Nat.le_refl _,fun _ _ _=>rfl⟩ (by simp),HI5.out.below ⟨rfl,rfl,rfl,Nat.le_refl _,fun _ _=>rfl⟩⟩
          case measure=>simp [intOf];omega
         ·
          go_wp2_with fail
          go_quiet (fail)
          generalize hX6:X5.drewN _=X6
          have HD6:Hid (D8 X6 w B a len cap N W.heap.size la lc ys (.slice (some ⟨cb,co,none⟩) cs.length cc) cs):=by exact (by rw [←hX6];exact HD5.out.upper (row:=none) ⟨rfl,rfl,rfl,Nat.le_refl _,fun _ _ _=>rfl⟩ (by simp):D8 X6 w B a len cap N W.heap.size la lc ys (.slice (some ⟨cb,co,none⟩) cs.length cc) cs)
          have hI6:I8 X6 W.heap.size (.slice ia4 im4.length ic4) im4 (.slice oa os.length oc) os:=by rw [←hX6];exact HI5.out.below ⟨rfl,rfl,rfl,Nat.le_refl _,fun _ _=>rfl⟩
          have s0:X6.cell? ⟨cb,co+j*4,none⟩=some (.int .i64 kd5):=by rw [←hX6];exact q0
          have s1:X6.cell? ⟨cb,co+j*4+1,none⟩=some (.int .i64 a5):=by rw [←hX6];exact q1
          have s2:X6.cell? ⟨cb,co+j*4+2,none⟩=some (.string ⟨p5.toArray⟩):=by rw [←hX6];exact q2
          have s3:X6.cell? ⟨cb,co+j*4+3,none⟩=some (.string ⟨f5.toArray⟩):=by rw [←hX6];exact q3
          obtain ⟨v7,w7,hr7,hI7,hg7⟩:=hI6.node (kd5,a5,p5,f5) hsm hkd HD6.out.ls (by have:=HOL.out;omega)
          have HD7:Hid (D8 w7 w B a len cap N W.heap.size la lc ys (.slice (some ⟨cb,co,none⟩) cs.length cc) cs):=HD6.out.upper hg7 (fun q e=>(hI6.ow.lt q e).1)
          obtain ⟨oa7,oc7,rfl,_,_⟩:=zdl hI7.ow
          obtain ⟨os7,hos7⟩:∃ os7,os++[((kd5,a5,p5,f5):Nd)]=os7:=⟨_,rfl⟩
          have HOL7:Hid (os7.length≤9*k+(j+1)):=by exact (by rw [←hos7,List.length_append,List.length_singleton];have:=HOL.out;omega:os7.length≤9*k+(j+1))
          rw [hos7] at hr7 hI7
          simp only at hr7
          have HI7:Hid (I8 w7 W.heap.size (.slice ia4 im4.length ic4) im4 (.slice oa7 os7.length oc7) os7):=hI7
          clear hX6 hos7 hI7 hg7 hI6 HD6 HD5 HI5 HOL q0 q1 q2 q3 c5 hb
          go_wp2_with (at_builtin;refine za0 rfl (.tmp 69) (.tmp 74) 77 rfl _ _ _ rfl rfl hr7 ?_;clear hr7)
          go_roundw
          case rel=>exact ⟨oa7,oc7,os7,j+1,rfl,by go_num,by omega,HOL7,HD7,HI7⟩
          case measure=>simp [intOf];omega
        ·
         go_wp2
         go_roundw
         case rel=>exact ⟨ia4,ic4,im4,oa,oc,os,k+1,rfl,rfl,by go_num,by omega,HIL4,Nat.le_trans HOL.out (by omega),HD5,HI5⟩
         case measure=>simp [intOf];omega
     ·
      obtain ⟨_,_,e0,hcc,hin⟩:=zdl HI2.out.ow
      injection e0 with e0 _ e2
      subst e0
      subst e2
      go_wp2_with fail
      refine (drawPk X B a len cap nm ia ims.length ic _ os.length _ os HD2.out.cur hnm hin hcc (by have:=HOL.out;omega) HI2.out.osm.1 HI2.out.osm.2).mono ?_
      rintro e w3 ⟨fa,fc,xs,rfl,hfo,hxl,hxd,hc3,hg3⟩
      go_upto_region 24 with fail
      obtain ⟨gF,cF,hF⟩:=zaw hfo.row (by omega)
      injection hF with e1 e2 e3
      subst e1
      clear e2 e3
      obtain ⟨hbx,hbZ⟩:=Box3.new w3 (.string ⟨nm.toArray⟩) (.slice ia ims.length ic) (.slice (some ⟨gF,0,none⟩) xs.length fc) 75
      have hE0:=E8.start HD2.out HI2.out hg3 hc3 hfo hxl hxd hnm (by have:=HIL.out;omega) hbZ hbx
      generalize w3.alloc (.cells #[.string ⟨nm.toArray⟩,.slice ia ims.length ic,.slice (some ⟨gF,0,none⟩) xs.length fc] 75)=Z at hE0 ⊢
      obtain ⟨P,hP⟩:∃ P,w3.heap.size=P:=⟨_,rfl⟩
      rw [hP] at hE0 ⊢
      have HE0:Hid (E8 Z w B a len cap N la lc ys (.slice ca cs.length cc) cs ⟨nm,ims,xs,ia,ic,some ⟨gF,0,none⟩,fc,W.heap.size,P⟩ P):=hE0
      clear hE0 hbx hbZ hP hfo hxd hc3 hg3 hin hcc HD2 HI2
      have HC0:Hid (cs.length≤3*i+0):=HC.out
      go_wp2
      go_loopw [6,14] (fun cv kv wz=>∃ (ca:Option Addr) (cc:Nat) (cs:List Nd) (j:Nat),cv=.slice ca cs.length cc∧kv=.int .i64 (j:Int)∧j≤xs.length∧Hid (cs.length≤3*i+j)∧Hid (E8 wz w B a len cap N la lc ys (.slice ca cs.length cc) cs ⟨nm,ims,xs,ia,ic,some ⟨gF,0,none⟩,fc,W.heap.size,P⟩ P)) (fun _ kv _=>xs.length-(intOf kv).toNat)
      case atStart=>exact ⟨ca,cc,cs,0,rfl,rfl,by omega,HC0,HE0⟩
      case round =>
       obtain ⟨ca,cc,cs,j,rfl,rfl,hj,HC4,HE4⟩:=hrel
       clear HE0 HC0 HC
       obtain ⟨Z4,hZ4⟩:∃ X,X=wr:=⟨_,rfl⟩
       subst hZ4
       have p0:Z4.cell? ⟨P,0,none⟩=some (.string ⟨nm.toArray⟩):=HE4.out.box.c0
       have p1:Z4.cell? ⟨P,1,none⟩=some (.slice ia ims.length ic):=HE4.out.box.c1
       have p2:Z4.cell? ⟨P,2,none⟩=some (.slice (some ⟨gF,0,none⟩) xs.length fc):=HE4.out.box.c2
       by_cases hjl:(j:Int)<(xs.length:Int)
       ·
        obtain ⟨s,z,c0,c1,hs,hz0,hz1⟩:=HE4.out.fn (g:=gF) rfl (show j<xs.length by omega)
        obtain ⟨v',Y,hr,hEY⟩:=HE4.out.drew.call ((8,z,nm,s):Nd) ⟨⟨⟨by simp,by simp⟩,⟨by simp only;omega,by simp only;omega⟩⟩,hnm,hs⟩ (by simp [zbt];omega) (by have:=HC4.out;omega)
        obtain ⟨L',hdY⟩:=hEY.d
        obtain ⟨ca',cc',rfl,_,_⟩:=zdl hdY.cal
        obtain ⟨cs',hcs'⟩:∃ cs',cs++[((8,z,nm,s):Nd)]=cs':=⟨_,rfl⟩
        have HC5:Hid (cs'.length≤3*i+(j+1)):=by exact (by rw [←hcs',List.length_append,List.length_singleton];have:=HC4.out;omega:cs'.length≤3*i+(j+1))
        rw [hcs'] at hr hEY
        change (Builtin.append_ #[77,77] 77 #[.slice ca cs.length cc,.slice (some ⟨Z4.heap.size,0,none⟩) 1 1]).run Tryz.prog (Z4.alloc (.cells #[.int .i64 8,.int .i64 z,.string ⟨nm.toArray⟩,.string ⟨s.toArray⟩] 103)).drew=_ at hr
        have HE5:Hid (E8 Y w B a len cap N la lc ys (.slice ca' cs'.length cc') cs' ⟨nm,ims,xs,ia,ic,some ⟨gF,0,none⟩,fc,W.heap.size,P⟩ P):=hEY
        clear hEY hdY hcs' HE4 HC4 p0 p1
        go_wp2_with fail
        go_region_law (first | (refine zcQ (by rfl) (.tmp 88) (.tmp 103) 77 (by rfl) _ _ _ (by rfl) (by rfl) hr ?_))
        all_goals
         go_wp2
         go_roundw
         case rel=>exact ⟨ca',cc',cs',j+1,rfl,by go_num,by omega,HC5,HE5⟩
         case measure=>simp [intOf];omega
       ·
        obtain ⟨g',c',Y,L',hr,hdY⟩:=HE4.out.push (by have:=HY.out;omega)
        obtain ⟨ys',hys'⟩:∃ ys',ys++[(⟨nm,ims,xs,ia,ic,some ⟨gF,0,none⟩,fc,W.heap.size,P⟩:PV)]=ys':=⟨_,rfl⟩
        have e5:ys.length+1=ys'.length:=by rw [←hys',List.length_append,List.length_singleton]
        have HY5:Hid (ys'.length=i+1):=by exact (by rw [←e5,HY.out]:ys'.length=i+1)
        rw [e5] at hr
        rw [hys'] at hdY
        change (Builtin.append_ #[24,24] 24 #[.slice la ys.length lc,.slice (some ⟨Z4.heap.size,0,none⟩) 1 1]).run Tryz.prog (Z4.alloc (.cells #[.string ⟨nm.toArray⟩,.slice ia ims.length ic,.slice (some ⟨gF,0,none⟩) xs.length fc] 75))=_ at hr
        have HD5:Hid (D8 Y w B a len cap N L' (some ⟨g',0,none⟩) c' ys' (.slice ca cs.length cc) cs):=hdY
        have HC5:Hid (cs.length≤3*(i+1)):=by exact (by have:=HC4.out;omega:cs.length≤3*(i+1))
        clear hdY hys' e5 HE4 HC4
        go_wp2_with (at_builtin;refine za0 rfl (.tmp 105) (.tmp 107) 24 rfl _ _ _ rfl rfl hr ?_;clear hr)
        go_roundw
        case rel=>exact ⟨L',i+1,_,c',ys',ca,cc,cs,rfl,rfl,by go_num,by omega,HY5,HC5,HD5⟩
        case measure=>simp [intOf];omega
end Go.Proofs.YtdbljnddkbpanaaGreatDoor
