/-
  Parts of one proof, one behind the other: ProjS5, ProjS6, Bend1, Bend2, RowW, PackS4, TreeS4, TreeS5.
-/
import Derived.Test.YtdbljnddkbpanaaGreatDoorP10
import Derived.Test.YtdbljnddkbpanaaGreatDoorP4
import Derived.Deep.RegionHeld3
import Derived.Deep.RegionLaw
import Derived.Deep.DrawnRows
import Derived.Laws.IdiomCopy
import Derived.Test.YtdbljnddkbpanaaGreatDoorP9
import Derived.Deep.RegionWith
namespace Go.Proofs.YtdbljnddkbpanaaGreatDoor
open Go.RowKit
theorem zn2 (ps qs:List Pk) (o:List (List UInt8)) (k:Nat) (hk:k<qs.length):zdg ps (qs.take (k+1)) o=zdP ps (zdg ps (qs.take k) o) (qs.getD k pk0):=by
 have e:qs.getD k pk0=qs[k]:=by simp [List.getD,hk]
 unfold zdg
 rw [List.take_succ_eq_append_getElem hk,List.foldl_append,e]
 rfl
theorem zln (ps:List Pk) (o ms:List (List UInt8)) (k:Nat) (hk:k<ms.length):zdn ps o (ms.take (k+1))=in8 ps (zdn ps o (ms.take k)) (ms.getD k []):=by
 have e:ms.getD k []=ms[k]:=by simp [List.getD,hk]
 unfold zdn
 rw [List.take_succ_eq_append_getElem hk,List.foldl_append,e]
 rfl
theorem in8_at (ps:List Pk) (o:List (List UInt8)) (m:List UInt8):in8 ps o m=if at8 ps m<0 then o else put8 o m:=by
 unfold in8
 have h:=zdK ps m
 by_cases hm:m∈za4 ps
 ·
  rw [if_pos hm,if_neg (by have:=h.2 hm;omega)]
 ·
  rw [if_neg hm,if_pos (by
   rcases Int.lt_or_le (at8 ps m) 0 with g | g
   ·
    exact g
   ·
    exact absurd (h.1 g) hm)]
theorem Re8.prefix {ps:List Pk} {s:List UInt8} {o:List (List UInt8)} (h:Re8 ps s o) (k:Nat):Re8 ps s (zdg ps (ps.take k) o):=Re8.step _ _ (fun _ hq=>List.mem_of_mem_take hq) h
theorem Re8.part {ps:List Pk} {s:List UInt8} {o:List (List UInt8)} (h:Re8 ps s o) {p:Pk} (hp:p∈ps) (hpo:p.1∈o) (i:Nat):Re8 ps s (zdn ps o (p.2.1.take i)):=Re8.inner hp _ _ h hpo (fun _ hm=>List.mem_of_mem_take hm)
structure Ro8 (w X:World) (ps:List Pk) (g c:Nat) (o:List (List UInt8)):Prop where
 own:X.ownsRow w.heap.size 9 1 (.slice (some ⟨g,0,none⟩) o.length c) o.length (strV o)
 h:Below w.heap.size w X
theorem Ro8.texts {w X:World} {ps:List Pk} {g c:Nat} {o:List (List UInt8)} (r:Ro8 w X ps g c o):za5 X (some ⟨g,0,none⟩) o.length o:=by
 obtain ⟨_,a',c',e,h⟩:=zaC r.own
 injection e with e1 _ _
 subst e1
 exact h
set_option maxHeartbeats 4000000 in
set_option maxRecDepth 100000 in
theorem zna (a:Option Addr) (len cap:Nat) (ps:List Pk) (s:List UInt8) (w:World) (hin:zat w a len ps) (hp:zaL ps=true) (hs:s∈za4 ps) :
 Calls Tryz.prog 149 #[.slice a len cap,.string ⟨s.toArray⟩] w fun e w'=>∃ g c,e=.returned (.slice (some ⟨g,0,none⟩) (zco ps s).length c)∧w'.ownsRow w.heap.size 9 1 (.slice (some ⟨g,0,none⟩) (zco ps s).length c) (zco ps s).length (strV (zco ps s))∧Below w.heap.size w w':=by
 obtain rfl:ps.length=len:=hin.1
 obtain ⟨_,hlen8,hpk⟩:=zac hp
 have HPK:Hid (∀ p∈ps,pkgB p=true):=hpk
 have hl8:(ps.length:Int)≤8:=by omega
 have HI:Hid (zat w a ps.length ps):=hin
 have hown0:=(World.ownsRow_lit (base:=w.heap.size) (e:=9) (size:=1) w #[.string ⟨s.toArray⟩] 1 (Nat.le_refl _) (by decide) rfl)
 have hbA:Below w.heap.size w (w.alloc (.cells #[.string ⟨s.toArray⟩] 9)):=(Below.refl _ _).alloc (Nat.le_refl _) _
 have HO0:Hid (Ro8 w (w.alloc (.cells #[.string ⟨s.toArray⟩] 9)) ps w.heap.size 1 [s]):=⟨hown0,hbA⟩
 have HR0:Hid (zco ps s=zcy ps (ps.length+1) [s]):=rfl
 have HE:Hid (Re8 ps s [s]):=zoo hs
 generalize zco ps s=R at HR0 ⊢
 clear hin hp hpk hown0 hbA hs
 go_enter Tryz.func149,Tryz.ntmps149
 go_wp2
 go_loopw [5] (fun v wr=>∃ (g c:Nat) (out:List (List UInt8)) (n:Nat),v=.slice (some ⟨g,0,none⟩) out.length c∧ps.length<n+out.length∧Hid (Ro8 w wr ps g c out)∧Hid (Re8 ps s out)∧Hid (R=zcy ps n out)) (fun v _=>ps.length+1-lenOf v)
 case atStart=>exact ⟨w.heap.size,1,[s],ps.length+1,rfl,by simp only [List.length_singleton];omega,HO0,HE,HR0⟩
 case round =>
  obtain ⟨g,c,out,n,rfl,hn,HO,HRe,HRn⟩:=hrel
  clear HO0 HE HR0
  have hol:=HRe.out.len
  obtain ⟨n',rfl⟩:∃ n',n=n'+1:=⟨n-1,by omega⟩
  go_wp2
  go_loopw [5,7] (fun v iv wx=>∃ (g2 c2 k:Nat) (o:List (List UInt8)),v=.slice (some ⟨g2,0,none⟩) o.length c2∧iv=.int .i64 (k:Int)∧k≤ps.length∧Hid (o=zdg ps (ps.take k) out)∧Hid (Ro8 w wx ps g2 c2 o)) (fun _ iv _=>ps.length-(intOf iv).toNat)
  case atStart=>exact ⟨g,c,0,out,rfl,rfl,by omega,(rfl:out=zdg ps (ps.take 0) out),HO⟩
  case round =>
   obtain ⟨g2,c2,k,o,rfl,rfl,hk,HS,HO2⟩:=hrel
   have HRo:Hid (Re8 ps s o):=by exact (by rw [HS.out];exact HRe.out.prefix k:Re8 ps s o)
   have hol2:=HRo.out.len
   by_cases hlt:(k:Int)<(ps.length:Int)
   ·
    have hk2:k<ps.length:=by omega
    have hst:=zn2 ps ps out k hk2
    rw [←HS.out] at hst
    have hpm:ps.getD k pk0∈ps:=by simp [List.getD,hk2]
    have hpi:pkgB (ps.getD k pk0)=true:=HPK.out _ hpm
    obtain ⟨b,off,ea,_,_⟩:=HI.out.2 k hk2
    subst ea
    obtain ⟨p,hp⟩:∃ p,ps.getD k pk0=p:=⟨_,rfl⟩
    have HPI:Hid (ps.getD k pk0=p):=hp
    rw [hp] at hst hpm hpi
    clear hp
    obtain ⟨x,ims,fs⟩:=p
    have hi6:=(zdj hpi).2.2.1
    simp only at hi6
    have HST:Hid (zdg ps (ps.take (k+1)) out=zdP ps o (x,ims,fs)):=hst
    have HPM:Hid ((x,ims,fs)∈ps):=hpm
    clear hst hpm hpi
    go_wp2
    go_loopw [5,8] (fun v iv wy=>∃ (g3 c3 i:Nat) (q:List (List UInt8)),v=.slice (some ⟨g3,0,none⟩) q.length c3∧iv=.int .i64 (i:Int)∧i≤ims.length∧Hid ((i=0∧q=o)∨(x∈o∧q=zdn ps o (ims.take i)))∧Hid (Ro8 w wy ps g3 c3 q)) (fun _ iv _=>ims.length-(intOf iv).toNat)
    case atStart=>exact ⟨g2,c2,0,o,rfl,rfl,by omega,(Or.inl ⟨rfl,rfl⟩:(0=0∧o=o)∨_),HO2⟩
    case round =>
     obtain ⟨g3,c3,i,q,rfl,rfl,hi,HQ,HO3⟩:=hrel
     obtain ⟨W3,rfl⟩:∃ W3,W3=wr:=⟨_,rfl⟩
     have hin3:=HI.out.below HO3.out.h
     obtain ⟨b',off',ea,hbl,c0,ia,il,ic,fa,fl,fc,c1,c2',hii,_⟩:=hin3.2 k hk2
     simp only [Option.some.injEq,Addr.mk.injEq,and_true] at ea
     obtain ⟨rfl,rfl⟩:=ea
     rw [HPI.out] at c0 hii
     simp only at c0 hii
     obtain rfl:ims.length=il:=hii.1
     have HII:Hid (za5 W3 ia ims.length ims):=hii
     have HP3:Hid (zat W3 (some ⟨b,off,none⟩) ps.length ps):=hin3
     have hql:q.length≤ps.length:=by
      rcases HQ.out with ⟨_,e⟩ | ⟨hx,e⟩
      ·
       rw [e];exact hol2
      ·
       rw [e];exact (HRo.out.part HPM.out hx i).len
     have HT3:Hid (za5 W3 (some ⟨g3,0,none⟩) q.length q):=HO3.out.texts
     clear hii hin3 c2'
     by_cases hil:(i:Int)<(ims.length:Int)
     ·
      have hi2:i<ims.length:=by omega
      have HH:Hid (_):=zdU (some ⟨g3,0,none⟩) q.length c3 q x W3 HT3.out (by omega)
      by_cases hxq:x∈q
      ·
       have hxo:x∈o:=by
        rcases HQ.out with ⟨_,e⟩ | ⟨hx,_⟩
        ·
         rw [←e];exact hxq
        ·
         exact hx
       have hqe:q=zdn ps o (ims.take i):=by
        rcases HQ.out with ⟨e0,e⟩ | ⟨_,e⟩
        ·
         rw [e0,e];rfl
        ·
         exact e
       obtain ⟨b4,off4,rfl,_,d0⟩:=HII.out.2 i hi2
       have hst:=zln ps o ims i hi2
       rw [←hqe] at hst
       obtain ⟨m,hm⟩:∃ m,ims.getD i []=m:=⟨_,rfl⟩
       rw [hm] at d0 hst
       rw [in8_at] at hst
       rw [decide_eq_true hxq] at HH
       have HA:Hid (_):=zfq (some ⟨b,off,none⟩) ps.length cap ps m W3 HP3.out (by omega)
       have HXO:Hid (x∈o):=hxo
       obtain ⟨z,hz⟩:∃ z,at8 ps m=z:=⟨_,rfl⟩
       rw [hz] at HA hst
       clear hz hm hqe hxo hxq
       by_cases hz0:z<0
       ·
        have HQ2:Hid ((i+1=0∧q=o)∨(x∈o∧q=zdn ps o (ims.take (i+1)))):=Or.inr ⟨HXO.out,by rw [hst,if_pos hz0]⟩
        have hz1:¬0≤z:=by omega
        clear hst HQ
        go_wp2_with (first | (go_at_call 93;refine Calls.mono HH.out ?_;rintro e w1 ⟨rfl,hw1⟩;obtain rfl:=hw1.symm) | (go_at_call 92;refine Calls.mono HA.out ?_;rintro e w1 ⟨rfl,hw1⟩;obtain rfl:=hw1.symm))
        go_roundw
        case rel=>exact ⟨g3,c3,i+1,q,rfl,by go_num,by omega,HQ2,HO3⟩
        case measure=>simp [intOf];omega
       ·
        have HQ2:Hid ((i+1=0∧put8 q m=o)∨(x∈o∧put8 q m=zdn ps o (ims.take (i+1)))):=Or.inr ⟨HXO.out,by rw [hst,if_neg hz0]⟩
        have HPu:Hid (_):=zob w.heap.size g3 c3 q m W3 HO3.out.own HO3.out.h.size (by omega)
        have hz1:0≤z:=by omega
        clear hst HQ
        go_wp2_with (first | (go_at_call 93;refine Calls.mono HH.out ?_;rintro e w1 ⟨rfl,hw1⟩;obtain rfl:=hw1.symm) | (go_at_call 92;refine Calls.mono HA.out ?_;rintro e w1 ⟨rfl,hw1⟩;obtain rfl:=hw1.symm) | (go_at_call 41;refine Calls.mono HPu.out ?_;rintro e w4 ⟨g4,c4,rfl,ho4,hb4⟩))
        have HO4:Hid (Ro8 w w4 ps g4 c4 (put8 q m)):=⟨ho4,HO3.out.h.trans (hb4.mono HO3.out.h.size)⟩
        go_roundw
        case rel=>exact ⟨g4,c4,i+1,put8 q m,rfl,by go_num,by omega,HQ2,HO4⟩
        case measure=>simp [intOf];omega
      ·
       have hqo:q=o∧¬x∈o:=by
        rcases HQ.out with ⟨_,e⟩ | ⟨hx,e⟩
        ·
         exact ⟨e,by rw [←e];exact hxq⟩
        ·
         exact absurd (by rw [e];exact zeh _ _ hx) hxq
       rw [decide_eq_false hxq] at HH
       have HS2:Hid (q=zdg ps (ps.take (k+1)) out):=by exact (by rw [HST.out,hqo.1];unfold zdP;rw [if_neg hqo.2]:q=zdg ps (ps.take (k+1)) out)
       clear hqo hxq HQ
       go_wp2_with (go_at_call 93;refine Calls.mono HH.out ?_;rintro e w1 ⟨rfl,hw1⟩;obtain rfl:=hw1.symm)
       go_roundw
       case rel=>exact ⟨g3,c3,k+1,q,rfl,by go_num,by omega,HS2,HO3⟩
       case measure=>simp [intOf];omega
     ·
      obtain rfl:i=ims.length:=by omega
      have hqe:q=zdP ps o (x,ims,fs):=by
       unfold zdP
       rcases HQ.out with ⟨e0,e⟩ | ⟨hx,e⟩
       ·
        have hn0:ims=[]:=List.eq_nil_of_length_eq_zero e0
        rw [e,hn0]
        split<;>rfl
       ·
        rw [if_pos hx,e,List.take_of_length_le (Nat.le_refl _)]
      have HS2:Hid (q=zdg ps (ps.take (k+1)) out):=by exact (by rw [HST.out];exact hqe:q=zdg ps (ps.take (k+1)) out)
      clear hqe HQ
      go_wp2
      go_roundw
      case rel=>exact ⟨g3,c3,k+1,q,rfl,by go_num,by omega,HS2,HO3⟩
      case measure=>simp [intOf];omega
   ·
    obtain rfl:k=ps.length:=by omega
    have hS:=HS.out
    rw [List.take_of_length_le (Nat.le_refl _)] at hS
    have hle:=HRe.out.rise.nodup.length_le_of_subset (fun y hy=>by rw [hS];exact zdR (ps:=ps) ps out hy:∀ y∈out,y∈o)
    have hR:=HRn.out
    rw [zcy,←hS] at hR
    by_cases heq:o.length=out.length
    ·
     have HRR:Hid (R=o):=by exact (by rw [hR,if_pos heq]:R=o)
     have hei:((o.length:Int)==(out.length:Int))=true:=by rw [beq_iff_eq];omega
     clear hR hS hle heq
     go_wp2
     go_ret
     exact ⟨g2,c2,by rw [HRR.out];rfl,by rw [HRR.out];exact HO2.out.own,HO2.out.h⟩
    ·
     have HRR:Hid (R=zcy ps n' o):=by exact (by rw [hR,if_neg heq]:R=zcy ps n' o)
     have hei:((o.length:Int)==(out.length:Int))=false:=by rw [beq_eq_false_iff_ne];omega
     clear hR hS
     go_wp2
     go_roundw
     case rel=>exact ⟨g2,c2,o,n',rfl,by omega,HO2,HRo,HRR⟩
     case measure=>simp only [lenOf];omega
def zew (r:List (List UInt8)) (s x:List UInt8):Bool:=decide (x≠s∧x∈r)
theorem znu (o r:List (List UInt8)) (s:List UInt8) (k:Nat) (hk:k<o.length):(o.take (k+1)).filter (zew r s)=(o.take k).filter (zew r s)++(if zew r s (o.getD k [])=true then [o.getD k []] else []):=by
 have e:o.getD k []=o[k]:=by simp [List.getD,hk]
 rw [List.take_succ_eq_append_getElem hk,List.filter_append,e]
 congr 1
 by_cases h:zew r s o[k]=true
 ·
  rw [if_pos h];simp [h]
 ·
  rw [if_neg h];simp [h]
theorem znt (ps:List Pk) (s:List UInt8):zdc ps s=(zax ps).filter (zew (zco ps s) s):=rfl
set_option maxHeartbeats 4000000 in
set_option maxRecDepth 100000 in
theorem zoc (a:Option Addr) (len cap:Nat) (ps:List Pk) (s:List UInt8) (w:World) (hin:zat w a len ps) (hp:zaL ps=true) (hs:s∈za4 ps) :
 Calls Tryz.prog 119 #[.slice a len cap,.string ⟨s.toArray⟩] w fun e w'=>∃ v,e=.returned v∧w'.ownsRow w.heap.size 9 1 v (zdc ps s).length (strV (zdc ps s))∧Below w.heap.size w w':=by
 have HC1:Hid (_):=zna a len cap ps s w hin hp hs
 have HC2:Hid (_):=fun (V:World) (h:zat V a len ps)=>zhS a len cap ps V h hp
 have hrl:=(zed hs).1.len
 have hol:=(zbJ hp).1.len
 have hl8:=(zac hp).2.1
 have HI:Hid (zat w a len ps):=hin
 rw [znt]
 generalize zco ps s=r at HC1 hrl ⊢
 generalize zax ps=o at HC2 hol ⊢
 clear hin hp hs
 go_enter Tryz.func119,Tryz.ntmps119
 go_wp2_with fail
 refine Calls.mono HC1.out ?_
 rintro e w1 ⟨gr,cr,rfl,hr1,hb1⟩
 go_wp2_with fail
 refine Calls.mono (HC2.out _ (HI.out.below hb1)) ?_
 rintro e w2 ⟨vo,rfl,ho2,hb2⟩
 have hr2:=za6 hr1 hb2
 have hB2:=hb1.trans (hb2.mono hb1.size)
 obtain ⟨_,ao,co,rfl,hot⟩:=zaC ho2
 have hrt:za5 w2 (some ⟨gr,0,none⟩) r.length r:=by
  obtain ⟨_,a',c',e,h⟩:=zaC hr2
  injection e with e1 _ _
  subst e1
  exact h
 have hown0:=(World.ownsRow_lit (base:=w2.heap.size) (e:=9) (size:=1) w2 #[] 0 (Nat.le_refl _) (by decide) rfl)
 have hbA:Below w2.heap.size w2 (w2.alloc (.cells #[] 9)):=(Below.refl _ _).alloc (Nat.le_refl _) _
 have HO0:Hid ((w2.alloc (.cells #[] 9)).ownsRow w2.heap.size 9 1 (.slice (some ⟨w2.heap.size,0,none⟩) 0 0) ((o.take 0).filter (zew r s)).length (strV ((o.take 0).filter (zew r s)))):=hown0
 have HB0:Hid (Below w2.heap.size w2 (w2.alloc (.cells #[] 9))):=hbA
 have HOT:Hid (za5 w2 ao o.length o):=hot
 have HRT:Hid (za5 w2 (some ⟨gr,0,none⟩) r.length r):=hrt
 have HB2:Hid (Below w.heap.size w w2):=hB2
 clear hr1 hb1 ho2 hb2 hr2 hB2 hot hrt hown0 hbA HC1 HC2 HI
 go_wp2
 go_loopw [7,8] (fun v iv wr=>∃ k:Nat,iv=.int .i64 (k:Int)∧k≤o.length∧Hid (wr.ownsRow w2.heap.size 9 1 v ((o.take k).filter (zew r s)).length (strV ((o.take k).filter (zew r s))))∧Hid (Below w2.heap.size w2 wr)) (fun _ iv _=>o.length-(intOf iv).toNat)
 case atStart=>exact ⟨0,rfl,by omega,HO0,HB0⟩
 case round =>
  obtain ⟨k,rfl,hk,HV,HB⟩:=hrel
  clear HO0 HB0
  obtain ⟨W3,rfl⟩:∃ W3,W3=wr:=⟨_,rfl⟩
  by_cases hlt:(k:Int)<(o.length:Int)
  ·
   have hk2:k<o.length:=by omega
   obtain ⟨b,off,rfl,hbl,c0⟩:=(HOT.out.below HB.out).2 k hk2
   have hst:=znu o r s k hk2
   have hfl:((o.take k).filter (zew r s)).length≤k:=Nat.le_trans (List.length_filter_le _ _) (by rw [List.length_take];omega)
   obtain ⟨x,hx⟩:∃ x,o.getD k []=x:=⟨_,rfl⟩
   rw [hx] at c0 hst
   have hkx:zew r s x=decide (x≠s∧x∈r):=rfl
   have HH:Hid (_):=zdU (some ⟨gr,0,none⟩) r.length cr r x W3 (HRT.out.below HB.out) (by omega)
   obtain ⟨F,hF⟩:∃ F,(o.take k).filter (zew r s)=F:=⟨_,rfl⟩
   rw [hF] at hst hfl HV
   obtain ⟨F2,hF2⟩:∃ F2,(o.take (k+1)).filter (zew r s)=F2:=⟨_,rfl⟩
   rw [hF2] at hst
   have HF2:Hid ((o.take (k+1)).filter (zew r s)=F2):=hF2
   clear hx hF hF2
   by_cases hxs:x=s
   ·
    have HV2:Hid (W3.ownsRow w2.heap.size 9 1 u7 F2.length (strV F2)):=by
     exact (by rw [hst,if_neg (by rw [hkx,decide_eq_false (fun h=>h.1 hxs)];simp),List.append_nil];exact HV.out:W3.ownsRow w2.heap.size 9 1 u7 F2.length (strV F2))
    subst hxs
    have hne:(x !=x)=false:=by simp
    clear hst hkx HV HH
    go_wp2
    go_roundw
    case rel=>exact ⟨k+1,by go_num,by omega,by rw [HF2.out];exact HV2,HB⟩
    case measure=>simp [intOf];omega
   ·
    have hne:(x !=s)=true:=by rw [bne_iff_ne];exact hxs
    have hne2:(x==s)=false:=by rw [beq_eq_false_iff_ne];exact hxs
    by_cases hxr:x∈r
    ·
     rw [hkx,decide_eq_true ⟨hxs,hxr⟩,if_pos rfl] at hst
     rw [decide_eq_true hxr] at HH
     obtain ⟨v',Y,hrun,hv',hg⟩:=zcp x HV.out HB.out.size (by omega)
     have HV2:Hid (Y.ownsRow w2.heap.size 9 1 v' F2.length (strV F2)):=by
      exact (by rw [hst,List.length_append,List.length_singleton];exact hv':Y.ownsRow w2.heap.size 9 1 v' F2.length (strV F2))
     have HBY:Hid (Below w2.heap.size w2 Y):=HB.out.grown hg HB.out.size (fun q e=>(HV.out.lt q e).1)
     clear hst hkx hv' hg HV hxs hxr
     go_wp2_with (first | (go_at_call 93;refine Calls.mono HH.out ?_;rintro e w1 ⟨rfl,hw1⟩;obtain rfl:=hw1.symm) | (at_builtin;refine za0 rfl (.tmp 35) (.tmp 40) 35 rfl _ _ _ rfl rfl hrun ?_;clear hrun))
     go_roundw
     case rel=>exact ⟨k+1,by go_num,by omega,by rw [HF2.out];exact HV2,HBY⟩
     case measure=>simp [intOf];omega
    ·
     have HV2:Hid (W3.ownsRow w2.heap.size 9 1 u7 F2.length (strV F2)):=by
      exact (by rw [hst,if_neg (by rw [hkx,decide_eq_false (fun h=>hxr h.2)];simp),List.append_nil];exact HV.out:W3.ownsRow w2.heap.size 9 1 u7 F2.length (strV F2))
     rw [decide_eq_false hxr] at HH
     clear hst hkx HV hxs hxr
     go_wp2_with (go_at_call 93;refine Calls.mono HH.out ?_;rintro e w1 ⟨rfl,hw1⟩;obtain rfl:=hw1.symm)
     go_roundw
     case rel=>exact ⟨k+1,by go_num,by omega,by rw [HF2.out];exact HV2,HB⟩
     case measure=>simp [intOf];omega
  ·
   obtain rfl:k=o.length:=by omega
   have hV:=HV.out
   rw [List.take_of_length_le (Nat.le_refl _)] at hV
   have HVE:Hid (W3.ownsRow w2.heap.size 9 1 u7 (o.filter (zew r s)).length (strV (o.filter (zew r s)))):=hV
   have hsz:=HB2.out.size
   have hBE:=HB2.out.trans (HB.out.mono hsz)
   clear hV HV
   go_wp2
   go_ret
   exact ⟨_,rfl,zaI HVE.out hsz,hBE⟩
structure RowB (w:World) (base g cap:Nat) (l:List UInt8):Prop where
 new:base≤g
 there:g<w.heap.size
 room:l.length≤cap
 most:cap≤maxLen
 cells:∀ j (hj:j<l.length),w.cell? ⟨g,j,none⟩=some (.int .u8 (l[j].toNat:Int))
 free:∀ j,j<l.length→w.frozen? ⟨g,j,none⟩=false
theorem RowB.kept {w w':World} {base g cap:Nat} {l:List UInt8} {row:Option Nat} (h:RowB w base g cap l) (hg:w.grownBy w' row) (hne:some g≠row):RowB w' base g cap l:=by
 have hb:=hg.block g h.there hne
 exact ⟨h.new,Nat.lt_of_lt_of_le h.there hg.size,h.room,h.most,fun j hj=>(World.cell?_of_block hb).trans (h.cells j hj),fun j hj=>(World.frozen?_of_block hb).trans (h.free j hj)⟩
theorem RowB.base {w:World} {base base' g cap:Nat} {l:List UInt8} (h:RowB w base g cap l) (hb:base'≤base):RowB w base' g cap l:=⟨Nat.le_trans hb h.new,h.there,h.room,h.most,h.cells,h.free⟩
theorem RowB.of_own {w:World} {base:Nat} {v:Value} {l:List UInt8} (h:w.ownsRow base 5 1 v l.length (zb5 l)) (hv:v≠.slice none 0 0):∃ g cap,v=.slice (some ⟨g,0,none⟩) l.length cap∧RowB w base g cap l:=by
 have hh:=h
 obtain ⟨_,⟨e,_⟩ | ⟨g,cap,cur,rfl,hb,hc,hn,hm,hs,ht⟩⟩:=hh
 ·
  exact absurd e hv
 ·
  refine ⟨g,cap,rfl,hb,(h.lt g rfl).2,hn,hm,?_,?_⟩
  ·
   intro j hj
   have hx:=World.ownsRow.cellAt h j (by omega)
   rw [hx];simp [zb5,List.getElem?_eq_getElem hj]
  ·
   intro j hj
   exact World.ownsRow.frozenAt h j
theorem RowB.cut {w:World} {base g cap:Nat} {l:List UInt8} (h:RowB w base g cap l) (k:Nat):RowB w base g cap (l.take k):=by
 have hl:(l.take k).length≤l.length:=List.length_take_le' _ _
 refine ⟨h.new,h.there,Nat.le_trans hl h.room,h.most,?_,?_⟩
 ·
  intro j hj
  rw [h.cells j (by omega)]
  simp
 ·
  intro j hj;exact h.free j (by omega)
theorem RowB.drew {w:World} {base g cap:Nat} {l:List UInt8} (h:RowB w base g cap l):RowB w.drew base g cap l:=⟨h.new,h.there,h.room,h.most,h.cells,h.free⟩
theorem RowB.made (w:World) (l:List UInt8) (hl:l.length≤maxLen) :
 RowB (w.drew.alloc (.cells (bytesRow ⟨l.toArray⟩ (grownCap w l.length 0 5)) 5 ((bytesRow ⟨l.toArray⟩ (grownCap w l.length 0 5)).size,(bytesRow ⟨l.toArray⟩ (grownCap w l.length 0 5)).size+1))) w.heap.size w.heap.size (grownCap w l.length 0 5) l:=by
 have hsz:l.length≤(bytesRow ⟨l.toArray⟩ (grownCap w l.length 0 5)).size:=by simp [bytesRow]
 refine ⟨Nat.le_refl _,by simp,grownCap_ge _ _ _ _,grownCap_le_maxLen _ _ _ _ hl,?_,?_⟩
 ·
  intro j hj
  show (w.alloc _).cell? ⟨w.heap.size,j,none⟩=_
  rw [World.cell?_alloc_mark,bytesRow_at ⟨l.toArray⟩ _ j (by simpa using hj)]
  simp
 ·
  intro j hj
  show (w.alloc _).frozen? ⟨w.heap.size,j,none⟩=_
  rw [World.frozen?_alloc_mark]
  simp;omega
theorem zhi (l:List UInt8) (j:Nat) (u:Value) (h:(zb5 l)[j]?=some u):∃ hj:j<l.length,u=.int .u8 (l[j].toNat:Int):=by
 unfold zb5 at h
 rw [List.getElem?_map] at h
 rcases hx:l[j]? with _ | x
 ·
  rw [hx] at h;cases h
 ·
  rw [hx] at h
  obtain ⟨hj,e⟩:=List.getElem?_eq_some_iff.1 hx
  injection h with h
  exact ⟨hj,by rw [e];exact h.symm⟩
theorem zbN (l:List UInt8):(zb5 l).length=l.length:=by simp [zb5]
theorem znQ (l:List UInt8):∀ u∈zb5 l,u.oneCell'=true:=by
 intro u hu
 obtain ⟨x,_,rfl⟩:=List.mem_map.1 hu
 rfl
theorem zdu (b off j:Nat):(⟨b,off,none⟩:Addr).add j=⟨b,off+j,none⟩:=by unfold Addr.add;split<;>simp_all
theorem RowB.head {w:World} {base g cap:Nat} {l:List UInt8} (h:RowB w base g cap l) (k:Nat):∀ j u,(zb5 (l.take k))[j]?=some u→w.cell? ((⟨g,0,none⟩:Addr).add j)=some u:=by
 intro j u hu
 obtain ⟨hj,rfl⟩:=zhi _ _ _ hu
 have hl:(l.take k).length≤l.length:=List.length_take_le' _ _
 rw [zdu,Nat.zero_add,h.cells j (by omega)]
 simp
theorem RowB.tail {w:World} {base g cap:Nat} {l:List UInt8} (h:RowB w base g cap l) (k:Nat):∀ j u,(zb5 (l.drop k))[j]?=some u→w.cell? ((⟨g,k,none⟩:Addr).add j)=some u:=by
 intro j u hu
 obtain ⟨hj,rfl⟩:=zhi _ _ _ hu
 have hj':k+j<l.length:=by rw [List.length_drop] at hj;omega
 rw [zdu,h.cells (k+j) hj']
 simp
theorem zjo (a b:List UInt8):zb5 a++zb5 b=zb5 (a++b):=by simp [zb5]

structure RowW (w:World) (base g cap:Nat) (l:List UInt8):Prop where
 row:RowB w base g cap l
 all:∀ j,j<cap→(w.cell? ⟨g,j,none⟩).isSome=true∧w.frozen? ⟨g,j,none⟩=false
theorem RowW.kept {w w':World} {base g cap:Nat} {l:List UInt8} {row:Option Nat} (h:RowW w base g cap l) (hg:w.grownBy w' row) (hne:some g≠row):RowW w' base g cap l:=by
 have hb:=hg.block g h.row.there hne
 exact ⟨h.row.kept hg hne,fun j hj=>by rw [World.cell?_of_block (a:=⟨g,j,none⟩) hb,World.frozen?_of_block (a:=⟨g,j,none⟩) hb];exact h.all j hj⟩
theorem RowW.below {w w':World} {base g cap:Nat} {l:List UInt8} (h:RowW w base g cap l) (hb:Below w.heap.size w w'):RowW w' base g cap l :=
 h.kept (row:=none) ⟨hb.os,hb.tape,hb.output,hb.size,fun k hk _=>hb.block k hk⟩ (by simp)
theorem RowW.drew {w:World} {base g cap:Nat} {l:List UInt8} (h:RowW w base g cap l):RowW w.drew base g cap l :=
 h.below ⟨rfl,rfl,rfl,Nat.le_refl _,fun _ _=>rfl⟩
theorem zfe (b:Nat):∀ (vs:List Value) (o:Nat) (w:World),(w.setCells b o vs).heap.size=w.heap.size∧∀ k,k≠b→(w.setCells b o vs).heap[k]?=w.heap[k]?
 | [],_,_=>⟨rfl,fun _ _=>rfl⟩
 | v :: r,o,w=>by
  obtain ⟨h1,h2⟩:=zfe b r (o+1) (w.setCell ⟨b,o,none⟩ v)
  refine ⟨by rw [World.setCells,h1];simp,fun k hk=>?_⟩
  rw [World.setCells,h2 k hk]
  exact Below.heap_setCell w _ v k (fun e=>hk e)
theorem zeD (b:Nat):∀ (vs:List Value) (o:Nat) (w:World),w.grownBy (w.setCells b o vs) (some b)
 | [],_,w=>World.grownBy.refl w _
 | v :: r,o,w=>by
  rw [World.setCells]
  exact (zam w b o v).trans (zeD b r (o+1) _)
theorem zhM (s:List UInt8):Lib.strCells ⟨s.toArray⟩=zb5 s:=ziB s
theorem RowW.append_at {w:World} {base g cap:Nat} {l:List UInt8} (h:RowW w base g cap l) (s:List UInt8) (hlen:l.length+s.length≤4194304) (hbase:base≤w.heap.size) (ty:TypeId) :
 ∃ g' cap' w',(Builtin.append_ #[22,9] ty #[.slice (some ⟨g,0,none⟩) l.length cap,.string ⟨s.toArray⟩]).run Tryz.prog w=.ok (.slice (some ⟨g',0,none⟩) (l++s).length cap') w'∧RowW w' base g' cap' (l++s)∧w.grownBy w' (some g)∧(g'=g∨g'=w.heap.size):=by
 obtain ⟨i0,hi,hz0,hz1,hz2⟩:=info_parts info5
 have hss:(⟨s.toArray⟩:ByteArray).size=s.length:=List.size_toArray
 have hll:(l++s).length=l.length+s.length:=List.length_append
 by_cases hroom:l.length+s.length≤cap
 ·
  have hf:=Lib.run_firstCells_string (P:=Tryz.prog) w 1 ⟨s.toArray⟩
  have hc:∀ j,j<(zb5 s).length→(w.cell? ⟨g,l.length+j,none⟩).isSome=true:=fun j hj=>(h.all _ (by rw [zbN] at hj;omega)).1
  have hfz:∀ j,j<(zb5 s).length→w.frozen? ⟨g,l.length+j,none⟩=false:=fun j hj=>(h.all _ (by rw [zbN] at hj;omega)).2
  have hst:=run_storeCells_cells (P:=Tryz.prog) g l.length (zb5 s) 0 w (by simpa using hc) (by simpa using hfz) (znQ s)
  rw [hss,zhM] at hf
  refine ⟨g,cap,w.setCells g l.length (zb5 s),?_,?_,zeD g _ _ w,Or.inl rfl⟩
  ·
   rw [hll]
   simp [Builtin.append_,run_underlying Tryz.underlying22,run_underlying Tryz.underlying9,sizeOf,typeInfo,hi,hz1,Builtin.lenOf,hss,hroom,hf,Addr.add_lit,hst]
  ·
   have hsz:=zfe g (zb5 s) l.length w
   refine ⟨⟨h.row.new,by rw [hsz.1];exact h.row.there,by rw [hll];exact hroom,h.row.most,?_,?_⟩,?_⟩
   ·
    intro j hj
    rw [hll] at hj
    by_cases hjl:j<l.length
    ·
     rw [World.cell?_setCells_out g (zb5 s) l.length w _ (fun i _=>by simp;omega),h.row.cells j hjl,List.getElem_append_left hjl]
    ·
     have hj2:j-l.length<(zb5 s).length:=by rw [zbN];omega
     have:=World.cell?_setCells_in g (zb5 s) l.length w hc (j-l.length) hj2
     rw [show l.length+(j-l.length)=j by omega] at this
     rw [this,List.getElem_append_right (by omega)]
     simp [zb5]
   ·
    intro j hj
    rw [World.frozen?_setCells]
    exact (h.all j (by omega)).2
   ·
    intro j hj
    rw [World.frozen?_setCells]
    refine ⟨?_,(h.all j hj).2⟩
    by_cases hin:l.length≤j∧j<l.length+s.length
    ·
     have hj2:j-l.length<(zb5 s).length:=by rw [zbN];omega
     have:=World.cell?_setCells_in g (zb5 s) l.length w hc (j-l.length) hj2
     rw [show l.length+(j-l.length)=j by omega] at this
     rw [this];rfl
    ·
     rw [World.cell?_setCells_out g (zb5 s) l.length w _ (fun _ _=>by rw [zbN];simp;omega)]
     exact (h.all j hj).1
 ·
  have holds:∀ j u,(zb5 l)[j]?=some u→w.cell? ((⟨g,0,none⟩:Addr).add j)=some u:=by
   intro j u hu
   obtain ⟨hj,rfl⟩:=zhi _ _ _ hu
   rw [show (⟨g,0,none⟩:Addr).add j=⟨g,j,none⟩ by unfold Addr.add;split<;>simp_all]
   exact h.row.cells j hj
  have hr:=Lib.run_append_grow_string (P:=Tryz.prog) w 22 9 ty 5 i0 (.int .u8 0) Tryz.underlying22 Tryz.underlying9 hi hz0 ⟨g,0,none⟩ l.length cap (zb5 l) (by rw [zbN,hz1];omega) holds ⟨s.toArray⟩ (by rw [hss];omega) (by rw [hss];omega) (by rw [hss,hz2,Nat.mul_one];exact (by have:=growslice_fits (need:=l.length+s.length) (old:=cap) (bytes:=1) (by omega) (by omega);simpa using this))
  rw [hss,zhM] at hr
  have hge:=grownCap_ge w (l.length+s.length) cap 5
  have hcm:=grownCap_le_maxLen w (l.length+s.length) cap 5 (by unfold maxLen;omega)
  generalize grownCap w (l.length+s.length) cap 5=c at hr hge hcm
  obtain ⟨C,hC⟩:∃ C,(zb5 l).toArray++(zb5 s).toArray++Builtin.zeroCells (Value.int .u8 0).cells (c-(l.length+s.length))=C:=⟨_,rfl⟩
  rw [hC] at hr
  have hCs:C.size=c:=by
   have hz1':(Value.int IntKind.u8 0).cells.size=1:=rfl
   rw [←hC];simp only [Array.size_append,List.size_toArray,size_zeroCells,hz1',zbN];omega
  have hown:(w.drew.alloc (.cells C 5)).ownsRow base 5 1 (.slice (some ⟨w.heap.size,0,none⟩) (l++s).length c) (l++s).length (zb5 (l++s)):=by
   refine ⟨by rw [zbN];omega,Or.inr ⟨w.heap.size,c,C,rfl,hbase,heap_alloc_new w.drew _,by rw [hll];exact hge,hcm,by omega,?_⟩⟩
   rw [←hC]
   simp only [Array.toList_append,List.append_assoc]
   rw [←List.append_assoc,zjo,Nat.mul_one,←zbN (l++s)]
   exact List.take_left
  have hB:RowB (w.drew.alloc (.cells C 5)) base w.heap.size c (l++s):=by
   obtain ⟨g2,c2,e2,hrow⟩:=RowB.of_own hown (by simp)
   injection e2 with e3 _ e4
   injection e3 with e3
   injection e3 with e3
   subst e3;subst e4
   exact hrow
  refine ⟨w.heap.size,c,_,by rw [hll];exact hr,⟨hB,fun j hj=>?_⟩,?_,Or.inr rfl⟩
  ·
   have hA:(w.drew.alloc (.cells C 5)).heap[w.heap.size]?=some (.cells C 5):=heap_alloc_new w.drew _
   generalize w.drew.alloc (.cells C 5)=W at hA ⊢
   refine ⟨?_,by simp [World.frozen?,hA]⟩
   simp [World.cell?,hA]
   omega
  ·
   exact ⟨rfl,rfl,rfl,by simp,fun k hk _=>Below.heap_alloc w.drew _ k hk⟩
theorem RowW.append {w:World} {base g cap:Nat} {l:List UInt8} (h:RowW w base g cap l) (s:List UInt8) (hlen:l.length+s.length≤4194304) (hbase:base≤w.heap.size) (ty:TypeId) :
 ∃ g' cap' w',(Builtin.append_ #[22,9] ty #[.slice (some ⟨g,0,none⟩) l.length cap,.string ⟨s.toArray⟩]).run Tryz.prog w=.ok (.slice (some ⟨g',0,none⟩) (l++s).length cap') w'∧RowW w' base g' cap' (l++s)∧w.grownBy w' (some g):=by
 obtain ⟨g',cap',w',h1,h2,h3,_⟩:=h.append_at s hlen hbase ty
 exact ⟨g',cap',w',h1,h2,h3⟩
theorem RowW.made (w:World) (l:List UInt8) (hl:l.length≤4194304) :
 ∃ cap w',(convert 9 22 (.string ⟨l.toArray⟩)).run Tryz.prog w=.ok (.slice (some ⟨w.heap.size,0,none⟩) l.length cap) w'∧RowW w' w.heap.size w.heap.size cap l∧Below w.heap.size w w':=by
 have hconv:=run_bytes_of_string (P:=Tryz.prog) w 9 22 5 ⟨l.toArray⟩ Tryz.underlying9 Tryz.underlying22 Tryz.underlying5
 have hrow:=RowB.made w l (by unfold maxLen;omega)
 have hszs:(⟨l.toArray⟩:ByteArray).size=l.length:=rfl
 rw [hszs] at hconv
 have hge:=grownCap_ge w l.length 0 5
 have hCs:(bytesRow ⟨l.toArray⟩ (grownCap w l.length 0 5)).size=grownCap w l.length 0 5:=by simp [bytesRow];omega
 generalize bytesRow ⟨l.toArray⟩ (grownCap w l.length 0 5)=C at hconv hrow hCs
 generalize grownCap w l.length 0 5=cp at hconv hrow hge hCs
 refine ⟨cp,_,hconv,⟨hrow,fun j hj=>?_⟩,((Below.refl _ w).drew).alloc (Nat.le_refl _) _⟩
 have hA:(w.drew.alloc (.cells C 5 (C.size,C.size+1))).heap[w.heap.size]?=some (.cells C 5 (C.size,C.size+1)):=heap_alloc_new w.drew _
 generalize w.drew.alloc (.cells C 5 (C.size,C.size+1))=W at hA ⊢
 refine ⟨?_,?_⟩
 ·
  simp [World.cell?,hA];omega
 ·
  simp [World.frozen?,hA];omega
structure ShSt (X W:World) (B F g cap:Nat) (l s:List UInt8) (n:Int) (t:List Nd) (ta:Option Addr) (tl tc:Nat):Prop where
 c0:X.cell? ⟨F,0,none⟩=some (.string ⟨s.toArray⟩)
 c1:X.cell? ⟨F,1,none⟩=some (.int .i64 n)
 c2:X.cell? ⟨F,2,none⟩=some (.slice ta tl tc)
 ne:g≠F
 row:RowW X B g cap l
 nodes:zas X ta tl t
 b:Below B W X
 bs:B≤X.heap.size
theorem ShSt.below {X Y W:World} {B F g cap:Nat} {l s:List UInt8} {n:Int} {t:List Nd} {ta:Option Addr} {tl tc:Nat} (h:ShSt X W B F g cap l s n t ta tl tc) (hb:Below X.heap.size X Y):ShSt Y W B F g cap l s n t ta tl tc :=
 have hl:F<X.heap.size:=World.block_lt_of_cell? X ⟨F,0,none⟩ h.c0
 ⟨(hb.cell (p:=⟨F,0,none⟩) hl).trans h.c0,(hb.cell (p:=⟨F,1,none⟩) hl).trans h.c1,(hb.cell (p:=⟨F,2,none⟩) hl).trans h.c2,h.ne,h.row.below hb,h.nodes.below hb,h.b.trans (hb.mono h.bs),Nat.le_trans h.bs hb.size⟩
theorem ShSt.drew {X W:World} {B F g cap:Nat} {l s:List UInt8} {n:Int} {t:List Nd} {ta:Option Addr} {tl tc:Nat} (h:ShSt X W B F g cap l s n t ta tl tc):ShSt X.drew W B F g cap l s n t ta tl tc :=
 h.below ⟨rfl,rfl,rfl,Nat.le_refl _,fun _ _=>rfl⟩
theorem ShSt.append {X W:World} {B F g cap:Nat} {l s:List UInt8} {n:Int} {t:List Nd} {ta:Option Addr} {tl tc:Nat} (h:ShSt X W B F g cap l s n t ta tl tc) (x:List UInt8) (hx:l.length+x.length≤4194304) :
 ∃ g' cap' w',(Builtin.append_ #[22,9] 22 #[.slice (some ⟨g,0,none⟩) l.length cap,.string ⟨x.toArray⟩]).run Tryz.prog X=.ok (.slice (some ⟨g',0,none⟩) (l++x).length cap') w'∧RowW w' B g' cap' (l++x)∧Below B W w' ∧
  w'.cell? ⟨F,0,none⟩=some (.string ⟨s.toArray⟩)∧w'.cell? ⟨F,1,none⟩=some (.int .i64 n)∧w'.cell? ⟨F,2,none⟩=some (.slice ta tl tc):=by
 obtain ⟨g',cap',w',hrun,hrow,hg⟩:=h.row.append x hx h.bs 22
 have hl:F<X.heap.size:=World.block_lt_of_cell? X ⟨F,0,none⟩ h.c0
 have hbk:=hg.block F hl (by intro e;injection e with e;exact h.ne e.symm)
 exact ⟨g',cap',w',hrun,hrow,h.b.grown hg h.bs (fun q e=>by injection e with e;rw [←e];exact h.row.row.new),(World.cell?_of_block (a:=⟨F,0,none⟩) hbk).trans h.c0,(World.cell?_of_block (a:=⟨F,1,none⟩) hbk).trans h.c1,(World.cell?_of_block (a:=⟨F,2,none⟩) hbk).trans h.c2⟩

def zab:List Nd→List Value
 | []=>[]
 | n :: r=>.int .i64 n.1 :: .int .i64 n.2.1 :: .string ⟨n.2.2.1.toArray⟩ :: .string ⟨n.2.2.2.toArray⟩ :: zab r
theorem zc1 (ns:List Nd):(zab ns).length=ns.length*4:=by
 induction ns with
 | nil=>rfl
 | cons n r ih=>simp only [zab,List.length_cons,ih];omega
theorem zc6 (x y:List Nd):zab (x++y)=zab x++zab y:=by
 induction x with
 | nil=>rfl
 | cons n r ih=>simp only [List.cons_append,zab,ih]
theorem zcM (ns:List Nd):∀ u∈zab ns,u.oneCell'=true:=by
 induction ns with
 | nil=>intro u hu;cases hu
 | cons n r ih =>
  intro u hu
  simp only [zab,List.mem_cons] at hu
  rcases hu with rfl | rfl | rfl | rfl | h
  ·
   rfl
  ·
   rfl
  ·
   rfl
  ·
   rfl
  ·
   exact ih u h
theorem zf3 (ns:List Nd) (j:Nat) (hj:j<ns.length):(zab ns)[j*4]?=some (.int .i64 (ns.getD j nd0).1)∧(zab ns)[j*4+1]?=some (.int .i64 (ns.getD j nd0).2.1)∧(zab ns)[j*4+2]?=some (.string ⟨(ns.getD j nd0).2.2.1.toArray⟩)∧(zab ns)[j*4+3]?=some (.string ⟨(ns.getD j nd0).2.2.2.toArray⟩):=by
 induction ns generalizing j with
 | nil=>simp at hj
 | cons n r ih =>
  cases j with
  | zero=>simp [zab]
  | succ j =>
   have h:=ih j (by simpa using hj)
   rw [show (j+1)*4=j*4+1+1+1+1 by omega]
   simpa [zab] using h
theorem zcq {w:World} {base n:Nat} {v:Value} {ns:List Nd} (h:w.ownsRow base 103 4 v n (zab ns)):ns.length=n∧∃ a cap,v=.slice a n cap∧zas w a n ns:=by
 have hlen:ns.length=n:=by have:=h.1;rw [zc1] at this;omega
 refine ⟨hlen,?_⟩
 rcases zb4 h with ⟨rfl,rfl,_⟩ | ⟨g,cp,rfl⟩
 ·
  exact ⟨none,0,rfl,hlen,fun j hj=>by omega⟩
 ·
  refine ⟨some ⟨g,0,none⟩,cp,rfl,hlen,fun j hj=>?_⟩
  obtain ⟨v0,v1,v2,v3⟩:=zf3 ns j (by omega)
  have c0:=h.cellAt (j*4) (by omega)
  have c1:=h.cellAt (j*4+1) (by omega)
  have c2:=h.cellAt (j*4+2) (by omega)
  have c3:=h.cellAt (j*4+3) (by omega)
  rw [v0] at c0
  rw [v1] at c1
  rw [v2] at c2
  rw [v3] at c3
  refine ⟨g,0,rfl,(h.lt g rfl).2,?_,?_,?_,?_⟩
  ·
   rw [Nat.zero_add];exact c0
  ·
   rw [Nat.zero_add];exact c1
  ·
   rw [Nat.zero_add];exact c2
  ·
   rw [Nat.zero_add];exact c3
theorem zei:(Tryz.prog.info? 103).map (fun i=>(i.zero,i.size,i.bytes))=some (some (.agg #[.int .i64 0,.int .i64 0,.string ⟨#[]⟩,.string ⟨#[]⟩]),4,48):=by kernel_rfl
theorem ziR (w:World) (n:Nd):∀ j u,(zab [n])[j]?=some u→(w.alloc (.cells #[.int .i64 n.1,.int .i64 n.2.1,.string ⟨n.2.2.1.toArray⟩,.string ⟨n.2.2.2.toArray⟩] 103)).cell? ((⟨w.heap.size,0,none⟩:Addr).add j)=some u:=by
 intro j u hu
 have e:(⟨w.heap.size,0,none⟩:Addr).add j=⟨w.heap.size,j,none⟩:=by unfold Addr.add;split<;>simp_all
 rw [e]
 match j,hu with
 | 0,hu=>simp [zab] at hu;subst hu;simp
 | 1,hu=>simp [zab] at hu;subst hu;simp
 | 2,hu=>simp [zab] at hu;subst hu;simp
 | 3,hu=>simp [zab] at hu;subst hu;simp
 | j+4,hu=>simp [zab] at hu
end Go.Proofs.YtdbljnddkbpanaaGreatDoor
