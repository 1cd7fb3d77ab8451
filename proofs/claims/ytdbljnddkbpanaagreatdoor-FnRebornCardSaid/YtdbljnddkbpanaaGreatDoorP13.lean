/-
  Parts of one proof, one behind the other: CheckS, CheckS2.
-/
import Derived.Test.YtdbljnddkbpanaaGreatDoorP12
import Derived.Test.YtdbljnddkbpanaaGreatDoorP8
import Derived.Test.YtdbljnddkbpanaaGreatDoorP11
namespace Go.Proofs.YtdbljnddkbpanaaGreatDoor
open Go.RowKit
theorem zf4 (V:World) (a b c d:Value) (t:TypeId):((V.alloc (.cells #[a,b,c,d] t)).cell? ⟨V.heap.size,0,none⟩=some a∧(V.alloc (.cells #[a,b,c,d] t)).cell? ⟨V.heap.size,1,none⟩=some b∧(V.alloc (.cells #[a,b,c,d] t)).cell? ⟨V.heap.size,2,none⟩=some c∧(V.alloc (.cells #[a,b,c,d] t)).cell? ⟨V.heap.size,3,none⟩=some d)∧Below V.heap.size V (V.alloc (.cells #[a,b,c,d] t)):=by
 have hb:Below V.heap.size V (V.alloc (.cells #[a,b,c,d] t)):=(Below.refl _ _).alloc (Nat.le_refl _) _
 have hA:=heap_alloc_new V (.cells #[a,b,c,d] t)
 generalize V.alloc (.cells #[a,b,c,d] t)=W at hb hA ⊢
 exact ⟨⟨by simp [World.cell?,hA],by simp [World.cell?,hA],by simp [World.cell?,hA],by simp [World.cell?,hA]⟩,hb⟩
set_option maxHeartbeats 8000000 in
set_option maxRecDepth 100000 in
theorem zog (a:Option Addr) (len cap:Nat) (ps:List Pk) (nm:List UInt8) (ia:Option Addr) (il ic:Nat) (fa:Option Addr) (fl fc:Nat) (ims:List (List UInt8)) (fs:List Fn) (at_:Int) (n:Nd) (w:World)
 (hl:zat w a len ps) (hi:za5 w ia il ims) (hf:zaD w fa fl fs) (hlen:len≤1048576) (hil:il≤1048576) (hfl:fl≤1048576) (hsh:zbr ps) :
 Calls Tryz.prog 169 #[.slice a len cap,.agg #[.string ⟨nm.toArray⟩,.slice ia il ic,.slice fa fl fc],.int .i64 at_,za8 n] w fun e w'=>e=.returned (.int .i64 (zb8 ps (nm,ims,fs) at_ n))∧Below w.heap.size w w':=by
 obtain ⟨k,A,x,fn⟩:=n
 unfold za8
 simp only
 obtain ⟨bx,hbx⟩:=Box3.new w (.string ⟨nm.toArray⟩) (.slice ia il ic) (.slice fa fl fc) 75
 obtain ⟨W1,hW1⟩:∃ W1,w.alloc (.cells #[.string ⟨nm.toArray⟩,.slice ia il ic,.slice fa fl fc] 75)=W1:=⟨_,rfl⟩
 have hs1:W1.heap.size=w.heap.size+1:=by rw [←hW1];simp
 rw [hW1] at bx hbx
 obtain ⟨⟨n0,n1,n2,n3⟩,hb2⟩:=zf4 W1 (.int .i64 k) (.int .i64 A) (.string ⟨x.toArray⟩) (.string ⟨fn.toArray⟩) 103
 obtain ⟨W2,hW2⟩:∃ W2,W1.alloc (.cells #[.int .i64 k,.int .i64 A,.string ⟨x.toArray⟩,.string ⟨fn.toArray⟩] 103)=W2:=⟨_,rfl⟩
 have hs2:W2.heap.size=w.heap.size+1+1:=by rw [←hW2];simp [hs1]
 rw [hW2,hs1] at n0 n1 n2 n3
 rw [hW2] at hb2
 have bx2:=bx.below hb2
 have hbw:Below w.heap.size w W2:=hbx.trans (hb2.mono (by omega))
 have p0:=bx2.c0
 have p1:=bx2.c1
 have p2:=bx2.c2
 have HI2:Hid (za5 W2 ia il ims):=hi.below hbw
 have HF2:Hid (zaD W2 fa fl fs):=hf.below hbw
 have HP2:Hid (zat W2 a len ps):=hl.below hbw
 have HB2:Hid (Below w.heap.size w W2):=hbw
 have HBp2:Hid (Box3 W2 w.heap.size (.string ⟨nm.toArray⟩) (.slice ia il ic) (.slice fa fl fc)):=bx2
 clear bx hbx bx2 hb2 hbw hi hf
 by_cases hxn:x=nm
 ·
  subst hxn
  have hself:(x==x)=true:=by simp
  have hselfn:(x !=x)=false:=by simp
  have HV:Hid (zb8 ps (x,ims,fs) at_ (k,A,x,fn)=if atV fs fn<0∨(x=x∧at_≤atV fs fn) then 2 else if (fs.getD (atV fs fn).toNat fn0).2.1≠A then 3 else 0):=by exact (by
   unfold zb8
   have h1:farB ps (x,ims,fs) x=false:=by unfold farB;exact decide_eq_false (fun h=>h.1 rfl)
   have h2:ofPk ps (x,ims,fs) x=(x,ims,fs):=by unfold ofPk;rw [if_pos rfl]
   simp only
   rw [h1,h2,if_neg (by simp)]:zb8 ps (x,ims,fs) at_ (k,A,x,fn)=if atV fs fn<0∨(x=x∧at_≤atV fs fn) then 2 else if (fs.getD (atV fs fn).toNat fn0).2.1≠A then 3 else 0)
  obtain ⟨bq,hbq⟩:=Box3.new W2 (.string ⟨x.toArray⟩) (.slice ia il ic) (.slice fa fl fc) 75
  obtain ⟨W3,hW3⟩:∃ W3,W2.alloc (.cells #[.string ⟨x.toArray⟩,.slice ia il ic,.slice fa fl fc] 75)=W3:=⟨_,rfl⟩
  rw [hW3] at bq hbq
  rw [hs2] at bq
  have HBq:Hid (Box3 W3 (w.heap.size+1+1) (.string ⟨x.toArray⟩) (.slice ia il ic) (.slice fa fl fc)):=bq
  have HBp:Hid (Box3 W3 w.heap.size (.string ⟨x.toArray⟩) (.slice ia il ic) (.slice fa fl fc)):=HBp2.out.below hbq
  have HGn:Hid (w.heap.size+1<W3.heap.size):=by have:=hbq.size;exact (by omega:w.heap.size+1<W3.heap.size)
  have HN2:Hid (W3.cell? ⟨w.heap.size+1,2,none⟩=some (.string ⟨x.toArray⟩)):=(hbq.cell (p:=⟨w.heap.size+1,2,none⟩) (by rw [hs2];simp)).trans n2
  have HN1:Hid (W3.cell? ⟨w.heap.size+1,1,none⟩=some (.int .i64 A)):=(hbq.cell (p:=⟨w.heap.size+1,1,none⟩) (by rw [hs2];simp)).trans n1
  have e3:=(hbq.cell (p:=⟨w.heap.size+1,3,none⟩) (by rw [hs2];simp)).trans n3
  have e2:=HN2.out
  have q0:=bq.c0
  have q1:=bq.c1
  have q2:=bq.c2
  have pp0:=HBp.out.c0
  have HBW:Hid (Below w.heap.size w W3):=HB2.out.trans (hbq.mono HB2.out.size)
  have hqf:=HF2.out.below hbq
  have HAt:Hid (_):=zjM x fn ia il ic fa fl fc fs W3 hqf hfl
  clear bq hbq
  go_enter Tryz.func169,Tryz.ntmps169
  obtain ⟨qfa,hqfa⟩:∃ qfa,qfa=fa:=⟨_,rfl⟩
  obtain ⟨qfl,hqfl⟩:∃ qfl,qfl=fl:=⟨_,rfl⟩
  obtain ⟨qfs,hqfs⟩:∃ qfs,qfs=fs:=⟨_,rfl⟩
  subst hqfa
  subst hqfl
  subst hqfs
  have HQ:Hid (zaD W3 qfa qfl qfs):=hqf
  rcases zir qfs fn with eK | ⟨j,hj,eK,hjn⟩
  ·
   have HR:Hid (zb8 ps (x,ims,qfs) at_ (k,A,x,fn)=2):=by exact (by rw [HV.out,eK,if_pos (Or.inl (by omega))]:zb8 ps (x,ims,qfs) at_ (k,A,x,fn)=2)
   rw [eK] at HAt
   go_wp2_with fail
   refine Calls.mono HAt.out ?_
   rintro e w5 ⟨rfl,hb5⟩
   have HB5:Hid (Below w.heap.size w w5):=HBW.out.trans (hb5.mono HBW.out.size)
   have g0:=(HBq.out.below hb5).c0
   have g1:=(HBq.out.below hb5).c1
   have g2:=(HBq.out.below hb5).c2
   have m0:=(HBp.out.below hb5).c0
   have m2:=(hb5.cell (p:=⟨w.heap.size+1,2,none⟩) HGn.out).trans HN2.out
   have m1:=(hb5.cell (p:=⟨w.heap.size+1,1,none⟩) HGn.out).trans HN1.out
   clear hb5 hqf eK
   go_wp2
   go_ret
   exact ⟨by rw [HR.out];rfl,HB5.out⟩
  ·
   rw [eK] at HAt
   have hj0:¬(j:Int)<0:=by omega
   have hjl:j<qfl:=by rw [←HQ.out.1];exact hj
   have hjz:(j:Int)<(qfl:Int):=by omega
   by_cases hat:at_≤(j:Int)
   ·
    have HR:Hid (zb8 ps (x,ims,qfs) at_ (k,A,x,fn)=2):=by exact (by rw [HV.out,eK,if_pos (Or.inr ⟨rfl,hat⟩)]:zb8 ps (x,ims,qfs) at_ (k,A,x,fn)=2)
    go_wp2_with fail
    refine Calls.mono HAt.out ?_
    rintro e w5 ⟨rfl,hb5⟩
    have HB5:Hid (Below w.heap.size w w5):=HBW.out.trans (hb5.mono HBW.out.size)
    have g0:=(HBq.out.below hb5).c0
    have g1:=(HBq.out.below hb5).c1
    have g2:=(HBq.out.below hb5).c2
    have m0:=(HBp.out.below hb5).c0
    have m2:=(hb5.cell (p:=⟨w.heap.size+1,2,none⟩) HGn.out).trans HN2.out
    have m1:=(hb5.cell (p:=⟨w.heap.size+1,1,none⟩) HGn.out).trans HN1.out
    clear hb5 hqf eK
    go_wp2
    go_ret
    exact ⟨by rw [HR.out];rfl,HB5.out⟩
   ·
    have HC7:Hid (¬((j:Int)<0∨(x=x∧at_≤(j:Int)))):=fun h=>h.elim hj0 (fun h=>hat h.2)
    go_wp2_with fail
    refine Calls.mono HAt.out ?_
    rintro e w5 ⟨rfl,hb5⟩
    have HB5:Hid (Below w.heap.size w w5):=HBW.out.trans (hb5.mono HBW.out.size)
    have g0:=(HBq.out.below hb5).c0
    have g1:=(HBq.out.below hb5).c1
    have g2:=(HBq.out.below hb5).c2
    have m0:=(HBp.out.below hb5).c0
    have m2:=(hb5.cell (p:=⟨w.heap.size+1,2,none⟩) HGn.out).trans HN2.out
    have m1:=(hb5.cell (p:=⟨w.heap.size+1,1,none⟩) HGn.out).trans HN1.out
    have hq5:=HQ.out.below hb5
    obtain ⟨bq,oq,rfl,_,_,r1,_⟩:=hq5.2 j hjl
    obtain ⟨B,hB⟩:∃ B,(qfs.getD j fn0).2.1=B:=⟨_,rfl⟩
    rw [hB] at r1
    clear hb5 hqf hq5
    by_cases hBA:B=A
    ·
     have HR:Hid (zb8 ps (x,ims,qfs) at_ (k,A,x,fn)=0):=by exact (by rw [HV.out,eK,if_neg HC7.out,Int.toNat_natCast,hB,if_neg (by simpa using hBA)]:zb8 ps (x,ims,qfs) at_ (k,A,x,fn)=0)
     have hne:(B !=A)=false:=by simp [hBA]
     subst hBA
     have hne2:(B==B)=true:=by simp
     clear eK hB
     go_wp2_with fail
     go_quiet (fail)
     go_wp2
     go_ret
     exact ⟨by rw [HR.out];rfl,HB5.out.trans ⟨rfl,rfl,rfl,Nat.le_refl _,fun _ _=>rfl⟩⟩
    ·
     have HR:Hid (zb8 ps (x,ims,qfs) at_ (k,A,x,fn)=3):=by exact (by rw [HV.out,eK,if_neg HC7.out,Int.toNat_natCast,hB,if_pos hBA]:zb8 ps (x,ims,qfs) at_ (k,A,x,fn)=3)
     have hne:(B !=A)=true:=by rw [bne_iff_ne];exact hBA
     have hne2:(B==A)=false:=beq_eq_false_iff_ne.2 hBA
     have hne3:¬B=A:=hBA
     clear eK hB
     go_wp2_with fail
     go_quiet (fail)
     go_wp2
     go_ret
     exact ⟨by rw [HR.out];rfl,HB5.out.trans ⟨rfl,rfl,rfl,Nat.le_refl _,fun _ _=>rfl⟩⟩
 ·
  have hne:(x !=nm)=true:=by rw [bne_iff_ne];exact hxn
  have hne2:(x==nm)=false:=beq_eq_false_iff_ne.2 hxn
  by_cases hin:x∈ims
  ·
   have HH:Hid (_):=zdU ia il ic ims x W2 HI2.out (by omega)
   rw [decide_eq_true hin] at HH
   have HA8:Hid (∀ W,zat W a len ps→Calls Tryz.prog 92 #[.slice a len cap,.string ⟨x.toArray⟩] W fun e w'=>e=.returned (.int .i64 (at8 ps x))∧w'=W):=fun W hW=>zfq a len cap ps x W hW hlen
   rcases zdt ps x with ⟨e8,_⟩ | ⟨j0,hj0,e8,hjn,_⟩
   ·
    have HR:Hid (zb8 ps (nm,ims,fs) at_ (k,A,x,fn)=1):=by exact (by
     unfold zb8
     rw [if_pos (by unfold farB;exact decide_eq_true ⟨hxn,Or.inr (by show at8 ps x<0;omega)⟩)]:zb8 ps (nm,ims,fs) at_ (k,A,x,fn)=1)
    rw [e8] at HA8
    clear e8 hin
    go_enter Tryz.func169,Tryz.ntmps169
    go_wp2_with fail
    refine Calls.mono HH.out ?_
    rintro e w5 ⟨rfl,hw5⟩
    obtain rfl:=hw5.symm
    go_wp2_with fail
    refine Calls.mono (HA8.out W2 HP2.out) ?_
    rintro e w5 ⟨rfl,hw5⟩
    obtain rfl:=hw5.symm
    go_wp2
    go_ret
    exact ⟨by rw [HR.out];rfl,HB2.out⟩
   ·
    rw [e8] at HA8
    have hjz0:¬(j0:Int)<0:=by omega
    have hl0:ps.length=len:=hl.1
    have hjlen:(j0:Int)<(len:Int):=by omega
    obtain ⟨b,off,rfl,hbl,c0,qia,qil,qic,qfa,qfl,qfc,c1,c2,_,hqf2⟩:=HP2.out.2 j0 (by omega)
    have hqsh:=(hsh j0).2.2.2.1
    have hqfl:qfl≤1048576:=by rw [←hqf2.1];exact hqsh
    obtain ⟨q,hq⟩:∃ q,ps.getD j0 pk0=q:=⟨_,rfl⟩
    have HV:Hid (zb8 ps (nm,ims,fs) at_ (k,A,x,fn)=if atV q.2.2 fn<0∨(x=nm∧at_≤atV q.2.2 fn) then 2 else if (q.2.2.getD (atV q.2.2 fn).toNat fn0).2.1≠A then 3 else 0):=by exact (by
     unfold zb8
     have h1:farB ps (nm,ims,fs) x=false:=by unfold farB;exact decide_eq_false (fun h=>h.2.elim (fun e=>e hin) (fun e=>by omega))
     have h2:ofPk ps (nm,ims,fs) x=q:=by unfold ofPk;rw [if_neg hxn,e8,Int.toNat_natCast,hq]
     simp only
     rw [h1,h2,if_neg (by simp)]:zb8 ps (nm,ims,fs) at_ (k,A,x,fn)=if atV q.2.2 fn<0∨(x=nm∧at_≤atV q.2.2 fn) then 2 else if (q.2.2.getD (atV q.2.2 fn).toNat fn0).2.1≠A then 3 else 0)
    rw [hq] at c0 hqf2
    obtain ⟨qn,qims,qfs⟩:=q
    simp only at c0 hqf2
    -- q, first as p is, then as the one that is called
    obtain ⟨bq,hbq⟩:=Box3.new W2 (.string ⟨nm.toArray⟩) (.slice ia il ic) (.slice fa fl fc) 75
    obtain ⟨W3,hW3⟩:∃ W3,W2.alloc (.cells #[.string ⟨nm.toArray⟩,.slice ia il ic,.slice fa fl fc] 75)=W3:=⟨_,rfl⟩
    rw [hW3] at bq hbq
    rw [hs2] at bq
    have hfz:∀ i,W3.frozen? ⟨w.heap.size+1+1,i,none⟩=false:=fun i=>by rw [←hW3,←hs2];exact World.frozen?_alloc_at _ _ _ _ rfl
    obtain ⟨W4,hW4,q0,q1,q2,hg4⟩:=set3 (.string ⟨qn.toArray⟩) (.slice qia qil qic) (.slice qfa qfl qfc) bq.c0 bq.c1 bq.c2
    have hb24:Below W2.heap.size W2 W4:=hbq.grown hg4 hbq.size (fun q e=>by injection e with e;have e5:w.heap.size+1+1=q:=e;omega)
    have HBq:Hid (Box3 W4 (w.heap.size+1+1) (.string ⟨qn.toArray⟩) (.slice qia qil qic) (.slice qfa qfl qfc)):=⟨q0,q1,q2⟩
    have HBp:Hid (Box3 W4 w.heap.size (.string ⟨nm.toArray⟩) (.slice ia il ic) (.slice fa fl fc)):=HBp2.out.below hb24
    have HGn:Hid (w.heap.size+1<W4.heap.size):=by have:=hb24.size;exact (by omega:w.heap.size+1<W4.heap.size)
    have HN2:Hid (W4.cell? ⟨w.heap.size+1,2,none⟩=some (.string ⟨x.toArray⟩)):=(hb24.cell (p:=⟨w.heap.size+1,2,none⟩) (by rw [hs2];simp)).trans n2
    have HN1:Hid (W4.cell? ⟨w.heap.size+1,1,none⟩=some (.int .i64 A)):=(hb24.cell (p:=⟨w.heap.size+1,1,none⟩) (by rw [hs2];simp)).trans n1
    have e3:=(hb24.cell (p:=⟨w.heap.size+1,3,none⟩) (by rw [hs2];simp)).trans n3
    have b30:=bq.c0
    have b31:=bq.c1
    have b32:=bq.c2
    have n32:=(hbq.cell (p:=⟨w.heap.size+1,2,none⟩) (by rw [hs2];simp)).trans n2
    have pp0:=(HBp2.out.below hbq).c0
    have d0:=(hbq.cell (p:=⟨b,off+j0*3,none⟩) hbl).trans c0
    have d1:=(hbq.cell (p:=⟨b,off+j0*3+1,none⟩) hbl).trans c1
    have d2:=(hbq.cell (p:=⟨b,off+j0*3+2,none⟩) hbl).trans c2
    have hz0:=hfz 0
    have hz1:=hfz 1
    have hz2:=hfz 2
    have HBW:Hid (Below w.heap.size w W4):=HB2.out.trans (hb24.mono HB2.out.size)
    have HP3:Hid (zat W3 (some ⟨b,off,none⟩) len ps):=HP2.out.below hbq
    have hqf:=hqf2.below hb24
    have HAt:Hid (_):=zjM qn fn qia qil qic qfa qfl qfc qfs W4 hqf hqfl
    simp only at HV
    clear bq hbq hb24 hfz hq hqf2 e8 hin hg4 hsh hqsh hl
    go_enter Tryz.func169,Tryz.ntmps169
    go_wp2_with fail
    refine Calls.mono HH.out ?_
    rintro e w5 ⟨rfl,hw5⟩
    obtain rfl:=hw5.symm
    go_wp2_with fail
    refine Calls.mono (HA8.out W2 HP2.out) ?_
    rintro e w5 ⟨rfl,hw5⟩
    obtain rfl:=hw5.symm
    go_wp2_with fail
    refine Calls.mono (HA8.out W3 HP3.out) ?_
    rintro e w5 ⟨rfl,hw5⟩
    obtain rfl:=hw5.symm
    have HQ:Hid (zaD W4 qfa qfl qfs):=hqf
    rcases zir qfs fn with eK | ⟨j,hj,eK,hjn⟩
    ·
     have HR:Hid (zb8 ps (nm,ims,fs) at_ (k,A,x,fn)=2):=by exact (by rw [HV.out,eK,if_pos (Or.inl (by omega))]:zb8 ps (nm,ims,fs) at_ (k,A,x,fn)=2)
     rw [eK] at HAt
     go_wp2_with fail
     refine Calls.mono HAt.out ?_
     rintro e w5 ⟨rfl,hb5⟩
     have HB5:Hid (Below w.heap.size w w5):=HBW.out.trans (hb5.mono HBW.out.size)
     have g0:=(HBq.out.below hb5).c0
     have g1:=(HBq.out.below hb5).c1
     have g2:=(HBq.out.below hb5).c2
     have m0:=(HBp.out.below hb5).c0
     have m2:=(hb5.cell (p:=⟨w.heap.size+1,2,none⟩) HGn.out).trans HN2.out
     have m1:=(hb5.cell (p:=⟨w.heap.size+1,1,none⟩) HGn.out).trans HN1.out
     clear hb5 hqf eK
     go_wp2
     go_ret
     exact ⟨by rw [HR.out];rfl,HB5.out⟩
    ·
     rw [eK] at HAt
     have hj0:¬(j:Int)<0:=by omega
     have hjl:j<qfl:=by rw [←HQ.out.1];exact hj
     have hjz:(j:Int)<(qfl:Int):=by omega
     have HC7:Hid (¬((j:Int)<0∨(x=nm∧at_≤(j:Int)))):=fun h=>h.elim hj0 (fun h=>hxn h.1)
     go_wp2_with fail
     refine Calls.mono HAt.out ?_
     rintro e w5 ⟨rfl,hb5⟩
     have HB5:Hid (Below w.heap.size w w5):=HBW.out.trans (hb5.mono HBW.out.size)
     have g0:=(HBq.out.below hb5).c0
     have g1:=(HBq.out.below hb5).c1
     have g2:=(HBq.out.below hb5).c2
     have m0:=(HBp.out.below hb5).c0
     have m2:=(hb5.cell (p:=⟨w.heap.size+1,2,none⟩) HGn.out).trans HN2.out
     have m1:=(hb5.cell (p:=⟨w.heap.size+1,1,none⟩) HGn.out).trans HN1.out
     have hq5:=HQ.out.below hb5
     obtain ⟨bq,oq,rfl,_,_,r1,_⟩:=hq5.2 j hjl
     obtain ⟨B,hB⟩:∃ B,(qfs.getD j fn0).2.1=B:=⟨_,rfl⟩
     rw [hB] at r1
     clear hb5 hqf hq5
     by_cases hBA:B=A
     ·
      have HR:Hid (zb8 ps (nm,ims,fs) at_ (k,A,x,fn)=0):=by exact (by rw [HV.out,eK,if_neg HC7.out,Int.toNat_natCast,hB,if_neg (by simpa using hBA)]:zb8 ps (nm,ims,fs) at_ (k,A,x,fn)=0)
      have hne:(B !=A)=false:=by simp [hBA]
      subst hBA
      have hne2:(B==B)=true:=by simp
      clear eK hB
      go_wp2_with fail
      go_quiet (fail)
      go_wp2
      go_ret
      exact ⟨by rw [HR.out];rfl,HB5.out.trans ⟨rfl,rfl,rfl,Nat.le_refl _,fun _ _=>rfl⟩⟩
     ·
      have HR:Hid (zb8 ps (nm,ims,fs) at_ (k,A,x,fn)=3):=by exact (by rw [HV.out,eK,if_neg HC7.out,Int.toNat_natCast,hB,if_pos hBA]:zb8 ps (nm,ims,fs) at_ (k,A,x,fn)=3)
      have hne:(B !=A)=true:=by rw [bne_iff_ne];exact hBA
      have hne2:(B==A)=false:=beq_eq_false_iff_ne.2 hBA
      have hne3:¬B=A:=hBA
      clear eK hB
      go_wp2_with fail
      go_quiet (fail)
      go_wp2
      go_ret
      exact ⟨by rw [HR.out];rfl,HB5.out.trans ⟨rfl,rfl,rfl,Nat.le_refl _,fun _ _=>rfl⟩⟩
  ·
   have HH:Hid (_):=zdU ia il ic ims x W2 HI2.out (by omega)
   rw [decide_eq_false hin] at HH
   have HR:Hid (zb8 ps (nm,ims,fs) at_ (k,A,x,fn)=1):=by exact (by
    unfold zb8
    rw [if_pos (by unfold farB;exact decide_eq_true ⟨hxn,Or.inl hin⟩)]:zb8 ps (nm,ims,fs) at_ (k,A,x,fn)=1)
   clear hin
   go_enter Tryz.func169,Tryz.ntmps169
   go_wp2_with (go_at_call 93;refine Calls.mono HH.out ?_;rintro e w5 ⟨rfl,hw5⟩;obtain rfl:=hw5.symm)
   go_ret
   exact ⟨by rw [HR.out];rfl,HB2.out⟩
set_option maxHeartbeats 4000000 in
set_option maxRecDepth 100000 in
theorem zod (a:Option Addr) (len cap:Nat) (ps:List Pk) (nm:List UInt8) (ia:Option Addr) (il ic:Nat) (fa:Option Addr) (fl fc:Nat) (ims:List (List UInt8)) (fs:List Fn) (i:Nat) (w:World)
 (hl:zat w a len ps) (hi:za5 w ia il ims) (hf:zaD w fa fl fs) (hlen:len≤1048576) (hil:il≤1048576) (hfl:fl≤1048576) (hsh:zbr ps) (hil2:i<fl) (htl:∀ j,(fs.getD j fn0).2.2.length≤1048576) :
 Calls Tryz.prog 147 #[.slice a len cap,.agg #[.string ⟨nm.toArray⟩,.slice ia il ic,.slice fa fl fc],.int .i64 (i:Int)] w fun e w'=>e=.returned (.int .i64 (func9 ps (nm,ims,fs) i))∧Below w.heap.size w w':=by
 have HC9:Hid (∀ W n,zat W a len ps→za5 W ia il ims→zaD W fa fl fs→Calls Tryz.prog 169 #[.slice a len cap,.agg #[.string ⟨nm.toArray⟩,.slice ia il ic,.slice fa fl fc],.int .i64 (i:Int),za8 n] W fun e w'=>e=.returned (.int .i64 (zb8 ps (nm,ims,fs) (i:Int) n))∧Below W.heap.size W w'):=fun W n h1 h2 h3=>zog a len cap ps nm ia il ic fa fl fc ims fs (i:Int) n W h1 h2 h3 hlen hil hfl hsh
 obtain ⟨bx,hbx⟩:=Box3.new w (.string ⟨nm.toArray⟩) (.slice ia il ic) (.slice fa fl fc) 75
 obtain ⟨W1,hW1⟩:∃ W1,w.alloc (.cells #[.string ⟨nm.toArray⟩,.slice ia il ic,.slice fa fl fc] 75)=W1:=⟨_,rfl⟩
 have hs1:W1.heap.size=w.heap.size+1:=by rw [←hW1];simp
 rw [hW1] at bx hbx
 obtain ⟨b,off,rfl,hbl,r0,r1,ta,tl,tc,r2,_,hnd⟩:=(hf.below hbx).2 i hil2
 obtain ⟨f,hfe⟩:∃ f,fs.getD i fn0=f:=⟨_,rfl⟩
 have htl2:=htl i
 have HV:Hid (func9 ps (nm,ims,fs) i=fnGo ps (nm,ims,fs) i f f.2.2 0):=by exact (by unfold func9;simp only;rw [hfe]:func9 ps (nm,ims,fs) i=fnGo ps (nm,ims,fs) i f f.2.2 0)
 rw [hfe] at r0 r1 hnd htl2
 obtain ⟨fnm,fA,t⟩:=f
 simp only at r0 r1 hnd htl2
 obtain rfl:t.length=tl:=hnd.1
 obtain ⟨fx,hfx⟩:=Box3.new W1 (.string ⟨fnm.toArray⟩) (.int .i64 fA) (.slice ta t.length tc) 79
 obtain ⟨W2,hW2⟩:∃ W2,W1.alloc (.cells #[.string ⟨fnm.toArray⟩,.int .i64 fA,.slice ta t.length tc] 79)=W2:=⟨_,rfl⟩
 rw [hW2] at fx hfx
 rw [hs1] at fx
 have p2:=bx.c2
 have p0:=bx.c0
 have p1:=bx.c1
 have hbw:Below w.heap.size w W2:=hbx.trans (hfx.mono (by omega))
 have hs2:W2.heap.size=w.heap.size+1+1:=by rw [←hW2];simp [hs1]
 have HZ:Hid (∀ Z,Below W2.heap.size W2 Z→Box3 Z w.heap.size (.string ⟨nm.toArray⟩) (.slice ia il ic) (.slice (some ⟨b,off,none⟩) fl fc)∧Box3 Z (w.heap.size+1) (.string ⟨fnm.toArray⟩) (.int .i64 fA) (.slice ta t.length tc)∧zas Z ta t.length t∧zat Z a len ps∧za5 Z ia il ims∧zaD Z (some ⟨b,off,none⟩) fl fs∧Below w.heap.size w Z):=fun Z hz=>⟨(bx.below hfx).below hz,fx.below hz,(hnd.below hfx).below hz,(hl.below hbw).below hz,(hi.below hbw).below hz,(hf.below hbw).below hz,hbw.trans (hz.mono hbw.size)⟩
 have g1:=fx.c1
 have hiz:(i:Int)<(fl:Int):=by omega
 clear bx hbx fx hfx hnd hl hi hf hbw hsh htl hfe
 go_enter Tryz.func147,Tryz.ntmps147
 go_wp2
 clear p0 p1 p2 r0 r1 r2
 go_loopw [8,9] (fun cv jv wr=>∃ (j:Nat) (c:Int),cv=.int .i64 c∧jv=.int .i64 (j:Int)∧j≤t.length∧Hid (func9 ps (nm,ims,fs) i=fnGo ps (nm,ims,fs) i (fnm,fA,t) (t.drop j) c)∧Hid (Below W2.heap.size W2 wr)) (fun _ jv _=>t.length-(intOf jv).toNat)
 case atStart=>exact ⟨0,0,rfl,rfl,by omega,(by exact (by rw [HV.out,List.drop_zero]:func9 ps (nm,ims,fs) i=fnGo ps (nm,ims,fs) i (fnm,fA,t) (t.drop 0) 0)),Below.refl _ _⟩
 case round =>
  obtain ⟨j,c,rfl,rfl,hj,HG,HB⟩:=hrel
  obtain ⟨bp,bf,hnd,hpk,hti,hfi,hbw⟩:=HZ.out wr HB.out
  have q0:=bp.c0
  have q1:=bp.c1
  have q2:=bp.c2
  have g0:=bf.c0
  have g1:=bf.c1
  have g2:=bf.c2
  by_cases hlt:(j:Int)<(t.length:Int)
  ·
   have hj2:j<t.length:=by omega
   obtain ⟨bn,on,rfl,_,m0,m1,m2,m3⟩:=hnd.2 j hj2
   have hdr:=zpn (ps:=ps) (p:=(nm,ims,fs)) (i:=i) (f:=(fnm,fA,t)) hj2 c
   rw [←HG.out] at hdr
   obtain ⟨n,hn⟩:∃ n,t.getD j nd0=n:=⟨_,rfl⟩
   rw [hn] at m0 m1 m2 m3 hdr
   obtain ⟨k,A,x,fn⟩:=n
   simp only at m0 m1 m2 m3
   obtain ⟨⟨n0,n1,n2,n3⟩,hb1⟩:=zf4 wr (.int .i64 k) (.int .i64 A) (.string ⟨x.toArray⟩) (.string ⟨fn.toArray⟩) 103
   obtain ⟨X,hX⟩:∃ X,wr.alloc (.cells #[.int .i64 k,.int .i64 A,.string ⟨x.toArray⟩,.string ⟨fn.toArray⟩] 103)=X:=⟨_,rfl⟩
   rw [hX] at n0 n1 n2 n3 hb1
   have HBX:Hid (Below W2.heap.size W2 X):=HB.out.trans (hb1.mono HB.out.size)
   have HCl:Hid (_):=HC9.out X (k,A,x,fn) (hpk.below hb1) (hti.below hb1) (hfi.below hb1)
   have x0:=(bp.below hb1).c0
   have x1:=(bp.below hb1).c1
   have x2:=(bp.below hb1).c2
   have y1:=(bf.below hb1).c1
   clear bp bf hnd hpk hti hfi hb1 hn HG
   by_cases ha:arg9 (fnm,fA,t) (k,A,x,fn)
   ·
    rw [if_pos ha] at hdr
    have HR:Hid (func9 ps (nm,ims,fs) i=3):=hdr
    obtain ⟨hk2,hA2⟩:=ha
    simp only at hk2 hA2
    subst hk2
    have hE:Hid (Below w.heap.size w X):=(HZ.out X HBX.out).2.2.2.2.2.2
    clear hdr HCl
    go_wp2
    go_ret
    exact ⟨by rw [HR.out];rfl,hE.out⟩
   ·
    rw [if_neg ha] at hdr
    have hkA:k=2→¬fA≤A:=fun e h=>ha ⟨e,h⟩
    by_cases hk8:k=8
    ·
     subst hk8
     unfold za8 at HCl
     simp only at HCl
     obtain ⟨cc,hcc⟩:∃ cc,zb8 ps (nm,ims,fs) (i:Int) (8,A,x,fn)=cc:=⟨_,rfl⟩
     rw [hcc] at HCl
     by_cases hc0:cc=0
     ·
      subst hc0
      rw [if_neg (fun h=>h.2 hcc)] at hdr
      have HG2:Hid (func9 ps (nm,ims,fs) i=fnGo ps (nm,ims,fs) i (fnm,fA,t) (t.drop (j+1)) c):=hdr
      clear hdr ha hkA hcc
      go_wp2_with (go_at_call 169;refine Calls.mono HCl.out ?_;rintro e w7 ⟨rfl,hb7⟩;have HB7:Hid (Below W2.heap.size W2 w7):=HBX.out.trans (hb7.mono HBX.out.size);clear hb7)
      go_roundw
      case rel=>exact ⟨j+1,c,rfl,by go_num,by omega,HG2,HB7⟩
      case measure=>simp [intOf];omega
     ·
      rw [if_pos ⟨rfl,by rw [hcc];exact hc0⟩] at hdr
      have HG2:Hid (func9 ps (nm,ims,fs) i=fnGo ps (nm,ims,fs) i (fnm,fA,t) (t.drop (j+1)) 4):=hdr
      have hcb:(cc !=0)=true:=by rw [bne_iff_ne];exact hc0
      have hcb2:(cc==0)=false:=beq_eq_false_iff_ne.2 hc0
      clear hdr ha hkA hcc
      go_wp2_with (go_at_call 169;refine Calls.mono HCl.out ?_;rintro e w7 ⟨rfl,hb7⟩;have HB7:Hid (Below W2.heap.size W2 w7):=HBX.out.trans (hb7.mono HBX.out.size);clear hb7)
      go_roundw
      case rel=>exact ⟨j+1,4,rfl,by go_num,by omega,HG2,HB7⟩
      case measure=>simp [intOf];omega
    ·
     rw [if_neg (fun h=>hk8 h.1)] at hdr
     have HG2:Hid (func9 ps (nm,ims,fs) i=fnGo ps (nm,ims,fs) i (fnm,fA,t) (t.drop (j+1)) c):=hdr
     have hkb2:(k==8)=false:=beq_eq_false_iff_ne.2 hk8
     clear hdr ha HCl
     by_cases hk2:k=2
     ·
      have hAA:=hkA hk2
      subst hk2
      clear hkA hkb2
      go_wp2
      go_roundw
      case rel=>exact ⟨j+1,c,rfl,by go_num,by omega,HG2,HBX⟩
      case measure=>simp [intOf];omega
     ·
      have hkb3:(k==2)=false:=beq_eq_false_iff_ne.2 hk2
      clear hkA
      go_wp2
      go_roundw
      case rel=>exact ⟨j+1,c,rfl,by go_num,by omega,HG2,HBX⟩
      case measure=>simp [intOf];omega
  ·
   have HR:Hid (func9 ps (nm,ims,fs) i=c):=by exact (by rw [HG.out,List.drop_of_length_le (by omega)];rfl:func9 ps (nm,ims,fs) i=c)
   have HE:Hid (Below w.heap.size w wr):=hbw
   clear bp bf hnd hpk hti hfi hbw HG
   go_wp2
   go_ret
   exact ⟨by rw [HR.out];rfl,HE.out⟩
end Go.Proofs.YtdbljnddkbpanaaGreatDoor
