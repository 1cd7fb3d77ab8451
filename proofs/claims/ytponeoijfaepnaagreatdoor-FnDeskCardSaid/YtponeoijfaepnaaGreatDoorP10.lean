/-
  Parts of one proof, one behind the other: CheckS3, CheckS4, PrtS, TreeS6, IntsL, NumsL.
-/
import Derived.Test.YtponeoijfaepnaaGreatDoorP9
namespace Go.Proofs.YtponeoijfaepnaaGreatDoor
open Go.RowKit
set_option maxHeartbeats 8000000
set_option maxRecDepth 100000
def zb8 (f:Flt):Value:=.agg #[.int .i64 f.1,.string ⟨f.2.1.toArray⟩,.string ⟨f.2.2.toArray⟩]
def FBox (Z:World) (R:Nat):Prop:=Box3 Z R (.int .i64 0) (.string ⟨#[]⟩) (.string ⟨#[]⟩)∧∀ j,Z.frozen? ⟨R,j,none⟩=false
theorem FBox.below {Z Y:World} {R:Nat} (h:FBox Z R) (hb:Below Z.heap.size Z Y):FBox Y R:=⟨h.1.below hb,fun j=>(hb.frozen (p:=⟨R,j,none⟩) h.1.lt).trans (h.2 j)⟩
theorem FBox.new (w:World) (t:TypeId):FBox (w.alloc (.cells #[.int .i64 0,.string ⟨#[]⟩,.string ⟨#[]⟩] t)) w.heap.size∧Below w.heap.size w (w.alloc (.cells #[.int .i64 0,.string ⟨#[]⟩,.string ⟨#[]⟩] t)):=by
 obtain ⟨h1,h2⟩:=Box3.new w (.int .i64 0) (.string ⟨#[]⟩) (.string ⟨#[]⟩) t;exact ⟨⟨h1,fun j=>World.frozen?_alloc_at _ _ _ _ rfl⟩,h2⟩
theorem FBox.put {Z w:World} {R:Nat} (h:FBox Z R) (hw:Below w.heap.size w Z) (hR:w.heap.size≤R) (f:Flt):∃ Y,((Z.setCell ⟨R,0,none⟩ (.int .i64 f.1)).setCell ⟨R,1,none⟩ (.string ⟨f.2.1.toArray⟩)).setCell ⟨R,2,none⟩ (.string ⟨f.2.2.toArray⟩)=Y∧Y.cell? ⟨R,0,none⟩=some (.int .i64 f.1)∧Y.cell? ⟨R,1,none⟩=some (.string ⟨f.2.1.toArray⟩)∧Y.cell? ⟨R,2,none⟩=some (.string ⟨f.2.2.toArray⟩)∧Below w.heap.size w Y:=by
 obtain ⟨Y,hY,y0,y1,y2,hg⟩:=set3 (.int .i64 f.1) (.string ⟨f.2.1.toArray⟩) (.string ⟨f.2.2.toArray⟩) h.1.c0 h.1.c1 h.1.c2;exact ⟨Y,hY,y0,y1,y2,hw.grown hg hw.size (fun k e=>by injection e with e;have e2:R=k:=e;omega)⟩
def zdK (ps:List Pk) (i:Nat):List (List UInt8):=zaz ps++((za4 ps).take i).filter (fun x=>decide (¬x∈zaz ps))
theorem zmP (ps:List Pk):zdK ps 0=zaz ps:=by simp [zdK]
theorem zog {ps:List Pk} {i:Nat} (h:ps.length≤i):zdK ps i=ord9 ps:=by
 unfold zdK ord9;rw [List.take_of_length_le (by simpa [za4] using h)]
theorem zmQ {ps:List Pk} {i:Nat} (hi:i<ps.length):zdK ps (i+1)=if nmAt ps i∈zaz ps then zdK ps i else zdK ps i++[nmAt ps i]:=by
 unfold zdK;have h1:i<(za4 ps).length:=by simpa [za4] using hi
 rw [List.take_succ_eq_append_getElem h1,zgC hi,List.filter_append];by_cases h:nmAt ps i∈zaz ps
 ·rw [if_pos h];simp [h]
 ·rw [if_neg h];simp [h]
theorem zof {ps:List Pk} (hn:(za4 ps).Nodup) {i:Nat} (hi:i<ps.length):nmAt ps i∈zdK ps i↔nmAt ps i∈zaz ps:=by
 unfold zdK;rw [List.mem_append,List.mem_filter];refine ⟨fun h=>h.elim id (fun h=>?_),Or.inl⟩;obtain ⟨k,hk,e⟩:=List.mem_iff_getElem.1 h.1;rw [List.length_take] at hk;rw [List.getElem_take,zgC (by simp [za4] at hk;omega)] at e;have:=zdv hn (by simp [za4] at hk;omega) hi e;omega
theorem zmI (a:Option Addr) (len cap:Nat) (ps:List Pk) (w:World) (hl:zav w a len ps) (hsh:zby ps) (hp:zaK ps=true) :
 Calls Tryz.prog 104 #[.slice a len cap] w fun e w'=>e=.returned (zb8 (zaT ps))∧Below w.heap.size w w':=by
 obtain rfl:ps.length=len:=hl.1;have hn8:ps.length≤8:=(zaf hp).2.1.2;obtain ⟨fb,hb0⟩:=FBox.new w 95;obtain ⟨W0,hW0⟩:∃ W0,w.alloc (.cells #[.int .i64 0,.string ⟨#[]⟩,.string ⟨#[]⟩] 95)=W0:=⟨_,rfl⟩
 rw [hW0] at fb hb0;have hs0:W0.heap.size=w.heap.size+1:=by rw [←hW0];simp
 have HP0:Hid (zav W0 a ps.length ps):=hl.below hb0;have HF0:Hid (FBox W0 w.heap.size):=fb;have HB0:Hid (Below w.heap.size w W0):=hb0;have HPJ:Hid (zaK ps=true):=hp;have HND:Hid ((za4 ps).Nodup):=(zaf hp).1.nodup;have HSH:Hid (zby ps):=hsh;have HOr:Hid (_):=zhv a ps.length cap ps W0 HP0.out hp;have hol:=(zbJ hp).1.len;clear fb hb0 hl hsh hp
 go_enter Tryz.func104,Tryz.ntmps104
 go_wp2_with fail
 refine Calls.mono HOr.out ?_;rintro e w1 ⟨v1,rfl,ho1,hb1⟩;obtain ⟨done,hdone⟩:∃ done,(zaz ps).length=done:=⟨_,rfl⟩
 rw [hdone] at ho1 hol;obtain ⟨_,oa,oc,rfl,_⟩:=zaP ho1;have HDn:Hid ((zaz ps).length=done):=hdone;have HO1:Hid (w1.ownsRow W0.heap.size 9 1 (.slice oa done oc) done (strV (zdK ps 0))):=by exact (by rw [zmP];exact ho1:w1.ownsRow W0.heap.size 9 1 (.slice oa done oc) done (strV (zdK ps 0)))
 have HB1:Hid (Below W0.heap.size W0 w1):=hb1;clear HOr ho1 hb1 hdone;go_wp2
 go_loopw [3,5] (fun ov iv wx=>∃ (i m:Nat) (oa:Option Addr) (oc:Nat),ov=.slice oa m oc∧iv=.int .i64 (i:Int)∧i≤ps.length∧m≤8+i∧Hid (wx.ownsRow W0.heap.size 9 1 (.slice oa m oc) m (strV (zdK ps i)))∧Hid (Below W0.heap.size W0 wx)) (fun _ iv _=>ps.length-(intOf iv).toNat)
 case atStart=>exact ⟨0,done,_,oc,rfl,rfl,by omega,by omega,HO1,HB1⟩
 case round =>
  obtain ⟨i,m,oa,oc,rfl,rfl,hi,hm,HO,HB⟩:=hrel;clear HO1 HB1;by_cases hlt:(i:Int)<(ps.length:Int)
  ·
   have hi2:i<ps.length:=by omega
   obtain ⟨b,off,rfl,_,c0,_⟩:=(HP0.out.below HB.out).2 i hi2;obtain ⟨_,oa',oc',he,hoin⟩:=zaP HO.out;injection he with e1 _ e3;subst e1;subst e3;have hst:=zmQ hi2;have hmm:=zof HND.out hi2;have hnm:nmAt ps i=(ps.getD i pk0).1:=rfl;obtain ⟨x,hx⟩:∃ x,(ps.getD i pk0).1=x:=⟨_,rfl⟩
   rw [hnm,hx] at hst hmm;rw [hx] at c0;have HC:Hid (_):=zdH oa m oc (zdK ps i) x wr hoin (by omega);clear hoin hnm hx;by_cases hin:x∈zaz ps
   ·
    rw [decide_eq_true (hmm.2 hin)] at HC;rw [if_pos hin] at hst;have HO2:Hid (wr.ownsRow W0.heap.size 9 1 (.slice oa m oc) m (strV (zdK ps (i+1)))):=by exact (by rw [hst];exact HO.out:wr.ownsRow W0.heap.size 9 1 (.slice oa m oc) m (strV (zdK ps (i+1))))
    clear hin hst hmm
    go_wp2_with (go_at_call 83;refine Calls.mono HC.out ?_;rintro e w9 ⟨rfl,hw9⟩;obtain rfl:=hw9.symm)
    go_roundw
    case rel=>exact ⟨i+1,m,oa,oc,rfl,by go_num,by omega,by omega,HO2,HB⟩
    case measure=>simp [intOf];omega
   ·
    rw [decide_eq_false (fun h=>hin (hmm.1 h))] at HC;rw [if_neg hin] at hst;obtain ⟨v',Y,hr,ho,hg⟩:=zci x HO.out HB.out.size (by omega);rw [←hst] at ho;obtain ⟨g',c',rfl⟩:=zaw ho (by omega);have HOY:Hid (Y.ownsRow W0.heap.size 9 1 (.slice (some ⟨g',0,none⟩) (m+1) c') (m+1) (strV (zdK ps (i+1)))):=ho;have HBY:Hid (Below W0.heap.size W0 Y):=HB.out.grown hg HB.out.size (fun q e=>(HO.out.lt q e).1);clear hin hst hmm ho hg
    go_wp2_with (first | (go_at_call 83;refine Calls.mono HC.out ?_;rintro e w9 ⟨rfl,hw9⟩;obtain rfl:=hw9.symm) | (at_builtin;refine za0 rfl (.tmp 31) (.tmp 37) 67 rfl _ _ _ rfl rfl hr ?_;clear hr))
    go_roundw
    case rel=>exact ⟨i+1,m+1,_,c',rfl,by go_num,by omega,by omega,HOY,HBY⟩
    case measure=>simp [intOf];omega
  ·
   have hall:=zog (ps:=ps) (i:=i) (by omega);have hO:=HO.out;rw [hall] at hO;obtain ⟨hol9,oa',oc',he,hoin⟩:=zaP hO;injection he with e1 _ e3;subst e1;subst e3;obtain ⟨V,hV⟩:∃ V,V=wr:=⟨_,rfl⟩
   subst hV;obtain ⟨l,hle⟩:∃ l,ord9 ps=l:=⟨_,rfl⟩
   rw [hle] at hoin hol9;have HZ:Hid (∀ Z,Below V.heap.size V Z→za7 Z oa m l∧zav Z a ps.length ps∧FBox Z w.heap.size∧Below w.heap.size w Z):=fun Z hz=>⟨hoin.below hz,(HP0.out.below HB.out).below hz,(HF0.out.below HB.out).below hz,(HB0.out.trans (HB.out.mono HB0.out.size)).trans (hz.mono (HB0.out.trans (HB.out.mono HB0.out.size)).size)⟩
   have HV0:Hid (zaT ps=match zc5 ps done (l.drop 0) 0 with | some f=>f | none=>zcm ps):=by exact (by unfold zaT;rw [HDn.out,hle,List.drop_zero];rfl:zaT ps=match zc5 ps done (l.drop 0) 0 with | some f=>f | none=>zcm ps)
   have HNm:Hid (∀ k,k<m→l.getD k []∈za4 ps):=fun k hk=>by
    have h1:l.getD k []∈l:=zjP (by omega);rw [←hle] at h1 ⊢;exact (zii HPJ.out).1 h1
   have HLl:Hid (l.length=m):=hol9;clear hall hO hoin hol9 hle HO HB HP0 HF0 HB0;go_wp2
   go_loopw [6] (fun iv wx=>∃ i:Nat,iv=.int .i64 (i:Int)∧i≤m∧Hid (zaT ps=match zc5 ps done (l.drop i) i with | some f=>f | none=>zcm ps)∧Hid (Below V.heap.size V wx)) (fun iv _=>m-(intOf iv).toNat)
   case atStart=>exact ⟨0,rfl,by omega,HV0,Below.refl _ _⟩
   case round =>
    obtain ⟨i,rfl,hi,HG,HB⟩:=hrel;clear HV0;by_cases hlt:(i:Int)<(m:Int)
    ·
     have hi2:i<m:=by omega
     obtain ⟨hto,hpk,hfb,hbw⟩:=HZ.out wr HB.out;obtain ⟨bo,oo,rfl,_,d0⟩:=hto.2 i hi2;have hdr:=zhR (ps:=ps) (done:=done) (l:=l) (i:=i) (by rw [HLl.out];exact hi2);have hnm:=HNm.out i hi2;obtain ⟨x,hx⟩:∃ x,l.getD i []=x:=⟨_,rfl⟩
     rw [hx] at d0 hdr hnm
     obtain ⟨j,hj,e8⟩:∃ j,j<ps.length∧at8 ps x=(j:Int):=by
      rcases zdm ps x with ⟨_,e⟩ | ⟨j,hj,e,_,_⟩
      ·exact absurd hnm e
      ·exact ⟨j,hj,e⟩
     have hpo:pkOf ps x=ps.getD j pk0:=by unfold pkOf;rw [e8];rfl
     rw [hpo] at hdr;obtain ⟨b,off,rfl,hbl,c0,ia,il,ic,fa,fl,fc,c1,c2,hti,hfi⟩:=hpk.2 j hj;have hsj:=HSH.out j;have hil:il≤1048576:=by rw [←hti.1];exact hsj.2.1
     have hfl:fl≤1048576:=by rw [←hfi.1];exact hsj.2.2.2.1
     have htl:∀ q,((ps.getD j pk0).2.2.getD q fn0).2.2.length≤1048576:=fun q=>(hsj.2.2.2.2 q).2.1
     obtain ⟨p,hpe⟩:∃ p,ps.getD j pk0=p:=⟨_,rfl⟩
     rw [hpe] at c0 hti hfi htl hdr;obtain ⟨nm,ims,fs⟩:=p;simp only at c0 hti hfi htl;have HA8:Hid (∀ W y,zav W (some ⟨b,off,none⟩) ps.length ps→Calls Tryz.prog 82 #[.slice (some ⟨b,off,none⟩) ps.length cap,.string ⟨y.toArray⟩] W fun e w'=>e=.returned (.int .i64 (at8 ps y))∧w'=W):=fun W y hW=>zfk (some ⟨b,off,none⟩) ps.length cap ps y W hW (by omega)
     obtain ⟨bx,hbx⟩:=Box3.new wr (.string ⟨nm.toArray⟩) (.slice ia il ic) (.slice fa fl fc) 99;obtain ⟨X,hX⟩:∃ X,wr.alloc (.cells #[.string ⟨nm.toArray⟩,.slice ia il ic,.slice fa fl fc] 99)=X:=⟨_,rfl⟩
     obtain ⟨E,hE⟩:∃ E,wr.heap.size=E:=⟨_,rfl⟩
     rw [hX] at bx hbx;rw [hE] at bx;have HBX:Hid (Below V.heap.size V X):=HB.out.trans (hbx.mono HB.out.size);have HY:Hid (∀ Z,Below X.heap.size X Z→Box3 Z E (.string ⟨nm.toArray⟩) (.slice ia il ic) (.slice fa fl fc)∧za7 Z ia il ims∧zaB Z fa fl fs∧Below V.heap.size V Z):=fun Z hz=>⟨bx.below hz,(hti.below hbx).below hz,(hfi.below hbx).below hz,HBX.out.trans (hz.mono HBX.out.size)⟩
     have HAx:Hid (_):=HA8.out wr x hpk;rw [e8] at HAx;have hjz:(j:Int)<(ps.length:Int):=by omega
     have HDr:Hid (_):=hdr;rw [HDr.out] at HG;obtain ⟨o0,o1,o2⟩:=bx;clear hto hpk hfb hbw hbx hti hfi hpo hpe hsj e8 hx hdr HDr hnm;go_wp2_with fail
     refine Calls.mono HAx.out ?_;rintro e w9 ⟨rfl,hw9⟩;obtain rfl:=hw9.symm;go_wp2;clear c0 c1 c2 d0
     go_loopw [8] (fun kv wx=>∃ k:Nat,kv=.int .i64 (k:Int)∧k≤il∧Hid (∀ q,q<k→0≤at8 ps (ims.getD q []))∧wx=X) (fun kv _=>il-(intOf kv).toNat)
     case atStart=>exact ⟨0,rfl,by omega,(fun q hq=>by omega),rfl⟩
     case round =>
      obtain ⟨k,rfl,hk,HA,hwx⟩:=hrel;obtain rfl:=hwx.symm;by_cases hkl:(k:Int)<(il:Int)
      ·
       have hk2:k<il:=by omega
       obtain ⟨_,hti,_,hbv⟩:=HY.out X (Below.refl _ _);obtain ⟨_,hpk,hfb,hbw⟩:=HZ.out X hbv;have himl:=hti.1;obtain ⟨bi,oi,rfl,_,d1⟩:=hti.2 k hk2;have HAk:Hid (_):=HA8.out X (ims.getD k []) hpk;obtain ⟨y,hy⟩:∃ y,ims.getD k []=y:=⟨_,rfl⟩
       rw [hy] at d1 HAk;by_cases hneg:at8 ps y<0
       ·
        have hms:zhi ps (nm,ims,fs):=⟨y,by rw [←hy];simp [List.getD,show k<ims.length by omega],hneg⟩;have HR:Hid (zaT ps=(1,nm,[])):=by exact (by rw [HG.out];unfold pk9;rw [if_pos hms]:zaT ps=(1,nm,[]))
        have f0:=hfb.1.c0;have f1:=hfb.1.c1;have f2:=hfb.1.c2;have z0:=hfb.2 0;have z1:=hfb.2 1;have z2:=hfb.2 2;obtain ⟨Y,hY,y0,y1,y2,hbY⟩:=hfb.put hbw (Nat.le_refl _) (1,nm,[]);simp only at hY y0 y1 y2;have HE:Hid (Below w.heap.size w Y):=hbY;clear hms hfb hbw hbv hpk hti hy hbY
        go_wp2_with (go_at_call 82;refine Calls.mono HAk.out ?_;rintro e w9 ⟨rfl,hw9⟩;obtain rfl:=hw9.symm)
        refine bodyPost_ret (v:=zb8 (1,nm,[])) (by unfold zb8;simp [results,Tryz.results104,go_sem,y0,y1,y2]) rfl ?_;exact ⟨by rw [HR.out],HE.out⟩
       ·
        have HA2:Hid (∀ q,q<k+1→0≤at8 ps (ims.getD q [])):=fun q hq=>by
         rcases Nat.lt_or_ge q k with h | h
         ·exact HA.out q h
         ·
          obtain rfl:q=k:=by omega
          rw [hy];omega
        clear hfb hbw hbv hpk hti hy
        go_wp2_with (go_at_call 82;refine Calls.mono HAk.out ?_;rintro e w9 ⟨rfl,hw9⟩;obtain rfl:=hw9.symm)
        go_roundw
        case rel=>exact ⟨k+1,by go_num,by omega,HA2,trivial⟩
        case measure=>simp [intOf];omega
      ·
       obtain ⟨_,hti,_,hbv⟩:=HY.out X (Below.refl _ _)
       have hms:¬zhi ps (nm,ims,fs):=by
        rintro ⟨y,hy,hneg⟩;obtain ⟨q,hq,e⟩:=List.mem_iff_getElem.1 hy;have e2:ims.getD q []=y:=by simp [List.getD,hq,e]
        have hq2:q<ims.length:=hq;have:=hti.1;have h9:=HA.out q (by omega);rw [e2] at h9;omega
       by_cases hd:(done:Int)≤(i:Int)
       ·
        obtain ⟨_,_,hfb,hbw⟩:=HZ.out X hbv;have HR:Hid (zaT ps=(2,nm,[])):=by exact (by rw [HG.out];unfold pk9;rw [if_neg hms,if_pos (by omega)]:zaT ps=(2,nm,[]))
        have f0:=hfb.1.c0;have f1:=hfb.1.c1;have f2:=hfb.1.c2;have z0:=hfb.2 0;have z1:=hfb.2 1;have z2:=hfb.2 2;obtain ⟨Y,hY,y0,y1,y2,hbY⟩:=hfb.put hbw (Nat.le_refl _) (2,nm,[]);simp only at hY y0 y1 y2;have HE:Hid (Below w.heap.size w Y):=hbY;clear hms hfb hbw hbv hti hbY;go_wp2;refine bodyPost_ret (v:=zb8 (2,nm,[])) (by unfold zb8;simp [results,Tryz.results104,go_sem,y0,y1,y2]) rfl ?_;exact ⟨by rw [HR.out],HE.out⟩
       ·
        have HG4:Hid (zaT ps=match zcV ps (nm,ims,fs) (fs.drop 0) 0 with | some f=>f | none=>(match zc5 ps done (l.drop (i+1)) (i+1) with | some f=>f | none=>zcm ps)):=by exact (by
         rw [HG.out];unfold pk9;rw [if_neg hms,if_neg (by omega),List.drop_zero];rcases zcV ps (nm,ims,fs) fs 0 with _ | f
         ·rfl
         ·rfl:zaT ps=match zcV ps (nm,ims,fs) (fs.drop 0) 0 with | some f=>f | none=>(match zc5 ps done (l.drop (i+1)) (i+1) with | some f=>f | none=>zcm ps))
        clear hms hti hbv HG;go_wp2
        go_loopw [9] (fun kv wx=>∃ k:Nat,kv=.int .i64 (k:Int)∧k≤fl∧Hid (zaT ps=match zcV ps (nm,ims,fs) (fs.drop k) k with | some f=>f | none=>(match zc5 ps done (l.drop (i+1)) (i+1) with | some f=>f | none=>zcm ps))∧Hid (Below X.heap.size X wx)) (fun kv _=>fl-(intOf kv).toNat)
        case atStart=>exact ⟨0,rfl,by omega,HG4,Below.refl _ _⟩
        case round =>
         obtain ⟨k4,rfl,hk4,HG5,HB5⟩:=hrel;clear HG4;obtain ⟨bx5,hti5,hfi5,hbv5⟩:=HY.out wr HB5.out;obtain ⟨_,hpk5,hfb5,hbw5⟩:=HZ.out wr hbv5;have p0:=bx5.c0;have p1:=bx5.c1;have p2:=bx5.c2;by_cases hkf:(k4:Int)<(fl:Int)
         ·
          have hk5:k4<fl:=by omega
          have hfl5:=hfi5.1;have hdr:=zhP (ps:=ps) (p:=(nm,ims,fs)) (k:=k4) (by show k4<fs.length;omega);simp only at hdr;rw [hdr] at HG5;have HFn:Hid (_):=znP (some ⟨b,off,none⟩) ps.length cap ps nm ia il ic fa fl fc ims fs k4 wr hpk5 hti5 hfi5 (by omega) hil hfl HSH.out hk5 htl;obtain ⟨cc,hcc⟩:∃ cc,func9 ps (nm,ims,fs) k4=cc:=⟨_,rfl⟩
          rw [hcc] at HFn HG5;by_cases hc0:cc=0
          ·
           subst hc0;rw [if_neg (by simp)] at HG5;clear hdr hcc hpk5 hfb5 hbw5 hti5 hfi5 hbv5 bx5
           go_wp2_with (go_at_call 124;refine Calls.mono HFn.out ?_;rintro e w7 ⟨rfl,hb7⟩;have HB7:Hid (Below X.heap.size X w7):=HB5.out.trans (hb7.mono HB5.out.size);clear hb7)
           go_roundw
           case rel=>exact ⟨k4+1,by go_num,by omega,HG5,HB7⟩
           case measure=>simp [intOf];omega
          ·
           rw [if_pos hc0] at HG5;have hcb:(cc !=0)=true:=by rw [bne_iff_ne];exact hc0
           have hcb2:(cc==0)=false:=beq_eq_false_iff_ne.2 hc0;clear hdr hcc hpk5 hfb5 hbw5 hti5 hfi5 hbv5 bx5;go_wp2_with fail
           refine Calls.mono HFn.out ?_;rintro e w7 ⟨rfl,hb7⟩;have hB7:Below X.heap.size X w7:=HB5.out.trans (hb7.mono HB5.out.size);obtain ⟨bx7,_,hfi7,hbv7⟩:=HY.out w7 hB7;obtain ⟨_,_,hfb7,hbw7⟩:=HZ.out w7 hbv7;obtain ⟨bf,of,rfl,_,s0,_⟩:=hfi7.2 k4 hk5;obtain ⟨fnm,hfn⟩:∃ fnm,(fs.getD k4 fn0).1=fnm:=⟨_,rfl⟩
           rw [hfn] at s0 HG5;have HR:Hid (zaT ps=(cc,nm,fnm)):=HG5.out;have u0:=bx7.c0;have u1:=bx7.c1;have u2:=bx7.c2;have f0:=hfb7.1.c0;have f1:=hfb7.1.c1;have f2:=hfb7.1.c2;have z0:=hfb7.2 0;have z1:=hfb7.2 1;have z2:=hfb7.2 2;obtain ⟨Y,hY,y0,y1,y2,hbY⟩:=hfb7.put hbw7 (Nat.le_refl _) (cc,nm,fnm);simp only at hY y0 y1 y2;have HE:Hid (Below w.heap.size w Y):=hbY;clear hb7 hB7 bx7 hfi7 hbv7 hfb7 hbw7 hbY hfn p0 p1 p2;go_wp2_with fail
           go_region
           all_goals
            go_wp2;refine bodyPost_ret (v:=zb8 (cc,nm,fnm)) (by unfold zb8;simp [results,Tryz.results104,go_sem,y0,y1,y2]) rfl ?_;exact ⟨by rw [HR.out],HE.out.trans ⟨rfl,rfl,rfl,Nat.le_refl _,fun _ _=>rfl⟩⟩
         ·
          have HG6:Hid (zaT ps=match zc5 ps done (l.drop (i+1)) (i+1) with | some f=>f | none=>zcm ps):=by exact (by
           rw [HG5.out,List.drop_of_length_le (by have:=hfi5.1;omega)]
           rfl:zaT ps=match zc5 ps done (l.drop (i+1)) (i+1) with | some f=>f | none=>zcm ps)
          have HB6:Hid (Below V.heap.size V wr):=hbv5;clear hpk5 hfb5 hbw5 hti5 hfi5 hbv5 bx5 HG5;go_wp2;go_roundw
          case rel=>exact ⟨i+1,by go_num,by omega,HG6,HB6⟩
          case measure=>simp [intOf];omega
    ·
     have HG2:Hid (zaT ps=zcm ps):=by exact (by rw [HG.out,List.drop_of_length_le (by rw [HLl.out];omega)];rfl:zaT ps=zcm ps)
     obtain ⟨_,hpk,hfb,hbw⟩:=HZ.out wr HB.out;have HAm:Hid (Calls Tryz.prog 82 #[.slice a ps.length cap,.string ⟨#[109,97,105,110]⟩] wr fun e w'=>e=.returned (.int .i64 (at8 ps za6))∧w'=wr):=zfk a ps.length cap ps za6 wr hpk (by omega);rcases zdm ps za6 with ⟨e8,_⟩ | ⟨j,hj,e8,_,_⟩
     ·
      have HR:Hid (zaT ps=(5,za6,za6)):=by exact (by rw [HG2.out];unfold zcm;rw [if_neg (fun h=>by have:=h.1;omega)]:zaT ps=(5,za6,za6))
      rw [e8] at HAm;clear e8 hpk HG HG2;have f0:=hfb.1.c0;have f1:=hfb.1.c1;have f2:=hfb.1.c2;have z0:=hfb.2 0;have z1:=hfb.2 1;have z2:=hfb.2 2;obtain ⟨Y,hY,y0,y1,y2,hbY⟩:=hfb.put hbw (Nat.le_refl _) (5,za6,za6);simp only [za6] at hY y0 y1 y2;have HE:Hid (Below w.heap.size w Y):=hbY;clear hfb hbw hbY
      go_wp2_with (go_at_call 82;refine Calls.mono HAm.out ?_;rintro e w9 ⟨rfl,hw9⟩;obtain rfl:=hw9.symm)
      refine bodyPost_ret (v:=zb8 (5,za6,za6)) (by unfold zb8;simp [results,Tryz.results104,go_sem,y0,y1,y2,za6]) rfl ?_;exact ⟨by rw [HR.out],HE.out⟩
     ·
      rw [e8] at HAm;obtain ⟨b,off,rfl,hbl,c0,ia,il,ic,fa,fl,fc,c1,c2,hti,hfi⟩:=hpk.2 j hj;have hsj:=HSH.out j;have hfl:fl≤1048576:=by rw [←hfi.1];exact hsj.2.2.2.1
      have hpo:pkOf ps za6=ps.getD j pk0:=by unfold pkOf;rw [e8];rfl
      have HMn:Hid (zaT ps=if 0≤atV (ps.getD j pk0).2.2 za6∧((ps.getD j pk0).2.2.getD (atV (ps.getD j pk0).2.2 za6).toNat fn0).2.1=1 then (0,[],[]) else (5,za6,za6)):=by exact (by
       rw [HG2.out];unfold zcm;rw [hpo];by_cases h:0≤atV (ps.getD j pk0).2.2 za6∧((ps.getD j pk0).2.2.getD (atV (ps.getD j pk0).2.2 za6).toNat fn0).2.1=1
       ·rw [if_pos ⟨by omega,h⟩,if_pos h]
       ·rw [if_neg (fun g=>h g.2),if_neg h]:zaT ps=if 0≤atV (ps.getD j pk0).2.2 za6∧((ps.getD j pk0).2.2.getD (atV (ps.getD j pk0).2.2 za6).toNat fn0).2.1=1 then (0,[],[]) else (5,za6,za6))
      obtain ⟨p,hpe⟩:∃ p,ps.getD j pk0=p:=⟨_,rfl⟩
      rw [hpe] at c0 hfi HMn;obtain ⟨nm,ims,fs⟩:=p;simp only at c0 hfi HMn;have hjz:(j:Int)<(ps.length:Int):=by omega
      have hj0:(0:Int)≤(j:Int):=by omega
      have HAt:Hid (Calls Tryz.prog 125 #[.agg #[.string ⟨nm.toArray⟩,.slice ia il ic,.slice fa fl fc],.string ⟨#[109,97,105,110]⟩] wr fun e w'=>e=.returned (.int .i64 (atV fs za6))∧Below wr.heap.size wr w'):=zja nm za6 ia il ic fa fl fc fs wr hfi hfl;have HFi:Hid (zaB wr fa fl fs):=hfi;have HFb:Hid (FBox wr w.heap.size):=hfb;have HBw:Hid (Below w.heap.size w wr):=hbw;clear e8 hpk HG HG2 hti hfi hsj hpo hpe hfb hbw;go_wp2_with fail
      refine Calls.mono HAm.out ?_;rintro e w9 ⟨rfl,hw9⟩;obtain rfl:=hw9.symm;rcases zhY fs za6 with e7 | ⟨q,hq,e7,_⟩
      ·
       have HR:Hid (zaT ps=(5,za6,za6)):=by exact (by rw [HMn.out,if_neg (fun h=>by have:=h.1;omega)]:zaT ps=(5,za6,za6))
       rw [e7] at HAt;go_wp2_with fail
       refine Calls.mono HAt.out ?_;rintro e w5 ⟨rfl,hb5⟩;have hfb:=HFb.out.below hb5;have hbw:=HBw.out.trans (hb5.mono HBw.out.size);clear hb5 e7;have f0:=hfb.1.c0;have f1:=hfb.1.c1;have f2:=hfb.1.c2;have z0:=hfb.2 0;have z1:=hfb.2 1;have z2:=hfb.2 2;obtain ⟨Y,hY,y0,y1,y2,hbY⟩:=hfb.put hbw (Nat.le_refl _) (5,za6,za6);simp only [za6] at hY y0 y1 y2;have HE:Hid (Below w.heap.size w Y):=hbY;clear hfb hbw hbY;go_wp2;refine bodyPost_ret (v:=zb8 (5,za6,za6)) (by unfold zb8;simp [results,Tryz.results104,go_sem,y0,y1,y2,za6]) rfl ?_;exact ⟨by rw [HR.out],HE.out⟩
      ·
       rw [e7] at HAt HMn;rw [Int.toNat_natCast] at HMn;have hq0:(0:Int)≤(q:Int):=by omega
       have hql:q<fl:=by rw [←HFi.out.1];exact hq
       have hqz:(q:Int)<(fl:Int):=by omega
       obtain ⟨A,hA⟩:∃ A,(fs.getD q fn0).2.1=A:=⟨_,rfl⟩
       go_wp2_with fail
       refine Calls.mono HAt.out ?_;rintro e w5 ⟨rfl,hb5⟩;obtain ⟨bf,of,rfl,_,_,s1,_⟩:=(HFi.out.below hb5).2 q hql;rw [hA] at s1 HMn;have d2:=(hb5.cell (p:=⟨b,off+j*3+2,none⟩) hbl).trans c2;have hfb:=HFb.out.below hb5;have hbw:=HBw.out.trans (hb5.mono HBw.out.size);clear hb5 e7 hA c0 c1 c2;by_cases hA1:A=1
       ·
        subst hA1;have HR:Hid (zaT ps=(0,[],[])):=by exact (by rw [HMn.out,if_pos ⟨hq0,rfl⟩]:zaT ps=(0,[],[]))
        have f0:=hfb.1.c0;have f1:=hfb.1.c1;have f2:=hfb.1.c2;have z0:=hfb.2 0;have z1:=hfb.2 1;have z2:=hfb.2 2;obtain ⟨Y,hY,y0,y1,y2,hbY⟩:=hfb.put hbw (Nat.le_refl _) (0,[],[]);simp only at hY y0 y1 y2;have HE:Hid (Below w.heap.size w Y):=hbY;clear hfb hbw hbY;go_wp2;refine bodyPost_ret (v:=zb8 (0,[],[])) (by unfold zb8;simp [results,Tryz.results104,go_sem,y0,y1,y2]) rfl ?_;exact ⟨by rw [HR.out],HE.out⟩
       ·
        have HR:Hid (zaT ps=(5,za6,za6)):=by exact (by rw [HMn.out,if_neg (fun h=>hA1 h.2)]:zaT ps=(5,za6,za6))
        have hAb:(A==1)=false:=beq_eq_false_iff_ne.2 hA1;have f0:=hfb.1.c0;have f1:=hfb.1.c1;have f2:=hfb.1.c2;have z0:=hfb.2 0;have z1:=hfb.2 1;have z2:=hfb.2 2;obtain ⟨Y,hY,y0,y1,y2,hbY⟩:=hfb.put hbw (Nat.le_refl _) (5,za6,za6);simp only [za6] at hY y0 y1 y2;have HE:Hid (Below w.heap.size w Y):=hbY;clear hfb hbw hbY;go_wp2;refine bodyPost_ret (v:=zb8 (5,za6,za6)) (by unfold zb8;simp [results,Tryz.results104,go_sem,y0,y1,y2,za6]) rfl ?_;exact ⟨by rw [HR.out],HE.out⟩
theorem zkt (a:Option Addr) (len cap:Nat) (ps:List Pk) (w:World) (hl:zav w a len ps) (hlen:len≤1048576) (hsh:zby ps) :
 Calls Tryz.prog 80 #[.slice a len cap] w fun e w'=>e=.returned (zb8 (zaS ps))∧Below w.heap.size w w':=by
 obtain ⟨fb,hb0⟩:=FBox.new w 95;obtain ⟨W0,hW0⟩:∃ W0,w.alloc (.cells #[.int .i64 0,.string ⟨#[]⟩,.string ⟨#[]⟩] 95)=W0:=⟨_,rfl⟩
 rw [hW0] at fb hb0;have HP0:Hid (zav W0 a len ps):=hl.below hb0;have HF0:Hid (FBox W0 w.heap.size):=fb;have HB0:Hid (Below w.heap.size w W0):=hb0;have HSH:Hid (zby ps):=hsh;have HPr:Hid (_):=zi9 a len cap ps W0 HP0.out hlen hsh;clear fb hb0 hl hsh;rcases hp:zaK ps with _ | _
 ·
  have HR:Hid (zaS ps=(6,[],[])):=by exact (by unfold zaS;rw [if_neg (by rw [hp];simp)]:zaS ps=(6,[],[]))
  rw [hp] at HPr;clear hp
  go_enter Tryz.func80,Tryz.ntmps80
  go_wp2_with fail
  refine Calls.mono HPr.out ?_;rintro e w1 ⟨rfl,hb1⟩;have hfb:=HF0.out.below hb1;have hbw:=HB0.out.trans (hb1.mono HB0.out.size);have f0:=hfb.1.c0;have f1:=hfb.1.c1;have f2:=hfb.1.c2;have z0:=hfb.2 0;have z1:=hfb.2 1;have z2:=hfb.2 2;obtain ⟨Y,hY,y0,y1,y2,hbY⟩:=hfb.put hbw (Nat.le_refl _) (6,[],[]);simp only at hY y0 y1 y2;have HE:Hid (Below w.heap.size w Y):=hbY;clear hfb hbw hbY hb1;go_wp2;refine bodyPost_ret (v:=zb8 (6,[],[])) (by unfold zb8;simp [results,Tryz.results80,go_sem,y0,y1,y2]) rfl ?_;exact ⟨by rw [HR.out],HE.out⟩
 ·
  have HR:Hid (zaS ps=zaT ps):=by exact (by unfold zaS;rw [if_pos hp]:zaS ps=zaT ps)
  rw [hp] at HPr
  go_enter Tryz.func80,Tryz.ntmps80
  go_wp2_with fail
  refine Calls.mono HPr.out ?_;rintro e w1 ⟨rfl,hb1⟩;have HP1:Hid (zav w1 a len ps):=HP0.out.below hb1;have HF1:Hid (FBox w1 w.heap.size):=HF0.out.below hb1;have HB1:Hid (Below w.heap.size w w1):=HB0.out.trans (hb1.mono HB0.out.size);have HFl:Hid (_):=zmI a len cap ps w1 HP1.out HSH.out hp;obtain ⟨f,hf⟩:∃ f,zaT ps=f:=⟨_,rfl⟩
  rw [hf] at HR HFl;clear hp hb1 hf;go_wp2_with fail
  refine Calls.mono HFl.out ?_;rintro e w2 ⟨rfl,hb2⟩;have hfb:=HF1.out.below hb2;have hbw:=HB1.out.trans (hb2.mono HB1.out.size);have f0:=hfb.1.c0;have f1:=hfb.1.c1;have f2:=hfb.1.c2;have z0:=hfb.2 0;have z1:=hfb.2 1;have z2:=hfb.2 2;obtain ⟨Y,hY,y0,y1,y2,hbY⟩:=hfb.put hbw (Nat.le_refl _) f;have HE:Hid (Below w.heap.size w Y):=hbY;unfold zb8;clear hfb hbw hbY hb2 HFl;go_wp2;refine bodyPost_ret (v:=zb8 f) (by unfold zb8;simp [results,Tryz.results80,go_sem,y0,y1,y2]) rfl ?_;exact ⟨by rw [HR.out],HE.out⟩
def prtV (ps:List Pk):List (List UInt8):=if (zaS ps).1=0 then zd4 ps za6++[za6] else []
theorem zeo {ps:List Pk} (h:(zaS ps).1=0):prtV ps=zd4 ps za6++[za6]∧zaK ps=true∧znb ps za6=true∧za6∈za4 ps:=by
 obtain ⟨_,hp,_,_,_,hm,_⟩:=zew h;refine ⟨if_pos h,hp,?_,(zdB ps za6).1 hm⟩;unfold znb;rw [hp,decide_eq_true hm]
 rfl
theorem zfs {ps:List Pk} (hp:zaK ps=true) (s:List UInt8):(zd4 ps s).length≤8:=by
 have h1:=(zbJ hp).1.len;have h2:=(zaf hp).2.1;have h3:(zd4 ps s).length≤(zaz ps).length:=List.length_filter_le _ _;omega
theorem zlP (ps:List Pk):(prtV ps).length≤9:=by
 unfold prtV
 split
 ·rename_i h;have:=zfs (zeo h).2.1 za6;simp;omega
 ·simp
theorem zhT (c:Int) (p g:List UInt8) (w:World):(binOp .neq 95 (.agg #[.int .i64 c,.string ⟨p.toArray⟩,.string ⟨g.toArray⟩]) (.agg #[.int .i64 0,.string ⟨#[]⟩,.string ⟨#[]⟩])).run Tryz.prog w=.ok (.bool (decide (¬(c=0∧p=[]∧g=[])))) w:=by
 rw [run_neq_struct];simp [go_sem];by_cases h1:c=0
 ·
  by_cases h2:p=[]
  ·
   by_cases h3:g=[]
   ·simp [h1,h2,h3]
   ·simp [h1,h2,h3]
  ·simp [h1,h2]
 ·simp [h1]
theorem zjU (z:Flt) (ps:List Pk) (h:zaS ps=z):(¬(z.1=0∧z.2.1=[]∧z.2.2=[])∧prtV ps=[])∨(z=(0,[],[])∧(zaS ps).1=0):=by
 by_cases h0:(zaS ps).1=0
 ·exact Or.inr ⟨by rw [←h];exact (zew h0).1,h0⟩
 ·refine Or.inl ⟨fun e=>h0 (by rw [h];exact e.1),if_neg h0⟩
theorem zhG (w:World):(w.alloc (.cells #[] 9)).ownsRow w.heap.size 9 1 (.slice (some ⟨w.heap.size,0,none⟩) 0 0) 0 (strV [])∧Below w.heap.size w (w.alloc (.cells #[] 9)) :=
 ⟨World.ownsRow_lit (base:=w.heap.size) (e:=9) (size:=1) w #[] 0 (Nat.le_refl _) (by decide) rfl,(Below.refl _ _).alloc (Nat.le_refl _) _⟩
theorem zj6 (a:Option Addr) (len cap:Nat) (ps:List Pk) (w:World) (hin:zav w a len ps) (h0:(zaS ps).1=0) :
 Calls Tryz.prog 81 #[.slice a len cap] w fun e w'=>∃ v,e=.returned v∧w'.ownsRow w.heap.size 9 1 v (prtV ps).length (strV (prtV ps))∧Below w.heap.size w w':=by
 obtain ⟨hV,hp,_,hm⟩:=zeo h0;have hl:=zfs hp za6;have HN:Hid (_):=znO a len cap ps za6 w hin hp hm;rw [hV];obtain ⟨ls,hls⟩:∃ ls,zd4 ps za6=ls:=⟨_,rfl⟩
 rw [hls] at HN hl ⊢;rw [List.length_append,List.length_singleton];clear hin h0 hp hm hV hls
 go_enter Tryz.func81,Tryz.ntmps81
 go_wp2_with fail
 refine Calls.mono HN.out ?_;rintro e w1 ⟨v,rfl,ho,hb1⟩;obtain ⟨v',Y,hr,hoY,hgY⟩:=zci za6 ho hb1.size (by omega);have HB:Hid (Below w.heap.size w Y):=hb1.grown hgY hb1.size (fun k e=>(ho.lt k e).1);have HO:Hid (Y.ownsRow w.heap.size 9 1 v' (ls.length+1) (strV (ls++[za6]))):=hoY;clear hgY hoY ho hb1 HN;unfold za6 at hr
 go_wp2_with (at_builtin;refine za0 rfl _ _ 67 rfl _ _ _ rfl rfl hr ?_)
 go_ret;exact ⟨_,rfl,HO.out,HB.out⟩
theorem specPrt (a:Option Addr) (len cap:Nat) (ps:List Pk) (w:World) (hin:zav w a len ps) (hlen:len≤1048576) (hsh:zby ps) :
 Calls Tryz.prog 49 #[.slice a len cap] w fun e w'=>∃ v,e=.returned v∧w'.ownsRow w.heap.size 9 1 v (prtV ps).length (strV (prtV ps))∧Below w.heap.size w w':=by
 have HF:Hid (_):=zkt a len cap ps w hin hlen hsh;have HI:Hid (zav w a len ps):=hin;obtain ⟨z,hz⟩:∃ z,zaS ps=z:=⟨_,rfl⟩
 have hzc:=zjU z ps hz;rw [hz] at HF;obtain ⟨c,p,g⟩:=z;unfold zb8 at HF;simp only at HF hzc;have HNe:Hid (_):=zhT c p g;clear hin hsh;rcases hzc with ⟨hno,hv⟩ | ⟨he,h0⟩
 ·
  have HV:Hid (prtV ps=[]):=hv;clear hz hv
  go_enter Tryz.func49,Tryz.ntmps49
  go_wp2_with fail
  refine Calls.mono HF.out ?_;rintro e w1 ⟨rfl,hb1⟩;have hne:=HNe.out w1;rw [decide_eq_true hno] at hne;have HB:Hid (Below w.heap.size w w1):=hb1;have HNo:Hid (¬(c=0∧p=[]∧g=[])):=hno;clear hb1 HF HNe hno;go_wp2
  all_goals first
   | (go_ret;obtain ⟨h1,h2⟩:=zhG w1;exact ⟨_,rfl,by rw [HV.out];exact zaD h1 HB.out.size,HB.out.trans (h2.mono HB.out.size)⟩)
   | (exfalso;have h:=HNo.out;simp_all;done)
 ·
  have H0:Hid ((zaS ps).1=0):=h0;simp only [Prod.mk.injEq] at he;obtain ⟨rfl,rfl,rfl⟩:=he;clear hz h0
  go_enter Tryz.func49,Tryz.ntmps49
  go_wp2_with fail
  refine Calls.mono HF.out ?_;rintro e w1 ⟨rfl,hb1⟩;have hne:=HNe.out w1;rw [decide_eq_false (by simp)] at hne;have HB:Hid (Below w.heap.size w w1):=hb1;have HC:Hid (_):=zj6 a len cap ps w1 (HI.out.below hb1) H0.out;clear hb1 HF HNe
  go_wp2_with (go_at_call 81;refine Calls.mono HC.out ?_;rintro e w2 ⟨v,rfl,ho,hb2⟩;have HO:Hid (w2.ownsRow w.heap.size 9 1 v (prtV ps).length (strV (prtV ps))∧Below w.heap.size w w2):=⟨zaD ho HB.out.size,HB.out.trans (hb2.mono HB.out.size)⟩;clear ho hb2)
  go_ret;exact ⟨_,rfl,HO.out.1,HO.out.2⟩
def zaY (l:List Int):List Value:=l.map (fun i=>Value.int .i64 i)
theorem zjE (l:List Int):(zaY l).length=l.length:=by simp [zaY]
theorem zjF (x y:List Int):zaY (x++y)=zaY x++zaY y:=by simp [zaY]
theorem zjD (l:List Int):∀ u∈zaY l,u.oneCell'=true:=by
 intro u hu;simp only [zaY,List.mem_map] at hu;obtain ⟨i,_,rfl⟩:=hu
 rfl
theorem new_int (w:World) (n:Int):∀ j u,(zaY [n])[j]?=some u→(w.alloc (.cells #[.int .i64 n] 2)).cell? ((⟨w.heap.size,0,none⟩:Addr).add j)=some u:=by
 intro j u hu;have e:(⟨w.heap.size,0,none⟩:Addr).add j=⟨w.heap.size,j,none⟩:=by unfold Addr.add;split<;>simp_all
 rw [e]
 match j,hu with
 | 0,hu=>simp [zaY] at hu;subst hu;simp
 | j+1,hu=>simp [zaY] at hu
theorem zm1 (l:List Int) (j:Nat) (h:j<l.length):(zaY l)[j]?=some (.int .i64 l[j]):=by
 unfold zaY;rw [List.getElem?_map,List.getElem?_eq_getElem h];rfl
section
open Go.ChangeShapes Go.WideShapes Go.ChangeAt Go.RowKit
def AsIn (w:World) (a:Option Addr) (xs:List Int):Prop:=∀ j,j<xs.length→∃ b off,a=some ⟨b,off,none⟩∧b<w.heap.size∧w.cell? ⟨b,off+j,none⟩=some (.int .i64 (xs.getD j 0))
theorem AsIn.below {w w':World} {a:Option Addr} {xs:List Int} (h:AsIn w a xs) (hb:Below w.heap.size w w'):AsIn w' a xs:=fun j hj=>by
 obtain ⟨b,off,e,hl,hc⟩:=h j hj;exact ⟨b,off,e,Nat.lt_of_lt_of_le hl hb.size,(hb.cell (p:=⟨b,off+j,none⟩) hl).trans hc⟩
theorem info2:(Tryz.prog.info? 2).map (fun i=>(i.zero,i.size,i.bytes))=some (some (.int .i64 0),1,8):=by kernel_rfl
theorem zij {w:World} {B g n cp:Nat} {xs:List Int} (h:w.ownsRow B 2 1 (.slice (some ⟨g,0,none⟩) n cp) n (zaY xs)) (hn:xs.length=n):AsIn w (some ⟨g,0,none⟩) xs:=fun j hj=>by
 have hc:=h.cellAt j (by omega);rw [zm1 xs j hj] at hc;refine ⟨g,0,rfl,World.block_lt_of_cell? w ⟨g,j,none⟩ hc,?_⟩;rw [Nat.zero_add,hc];simp [List.getD,hj]
end
end Go.Proofs.YtponeoijfaepnaaGreatDoor
