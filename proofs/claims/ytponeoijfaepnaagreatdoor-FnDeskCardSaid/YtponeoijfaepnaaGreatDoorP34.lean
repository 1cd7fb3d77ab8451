/-
  Parts of one proof, one behind the other: PlcI, ProjJ, CallI, ErrJ.
-/
import Derived.Test.YtponeoijfaepnaaGreatDoorP33
namespace Go.Proofs.YtponeoijfaepnaaGreatDoor
open Go.RowKit
set_option maxHeartbeats 4000000
set_option maxRecDepth 100000
def zdV (w:World) (a:Option Addr) (n:Nat) (l:List Nat):Prop:=l.length=n∧∀ j,j<n→∃ b off,a=some ⟨b,off,none⟩∧b<w.heap.size∧w.cell? ⟨b,off+j,none⟩=some (.int .i64 ((l.getD j 0:Nat):Int))
theorem zdV.below {w w':World} {a:Option Addr} {n:Nat} {l:List Nat} (h:zdV w a n l) (hb:Below w.heap.size w w'):zdV w' a n l :=
 ⟨h.1,fun j hj=>by
  obtain ⟨b,off,e,hlt,c⟩:=h.2 j hj;exact ⟨b,off,e,Nat.lt_of_lt_of_le hlt hb.size,(hb.cell (p:=⟨b,off+j,none⟩) hlt).trans c⟩⟩
theorem zbA {w:World} {B n:Nat} {v:Value} {l:List Nat} (h:w.ownsRow B 3 1 v n (natV l)) (hn:l.length=n):∃ a c,v=.slice a n c∧zdV w a n l:=by
 rcases zaR h with ⟨rfl,rfl,_⟩ | ⟨g,c,rfl⟩
 ·exact ⟨none,0,rfl,hn,fun j hj=>by omega⟩
 ·exact ⟨_,c,rfl,hn,fun j hj=>⟨g,0,rfl,(h.lt g rfl).2,by rw [Nat.zero_add];exact zbS h hn j hj⟩⟩
theorem zcc {l:List Nat} {k:Nat} (hk:k<l.length):l.getD k 0∈l:=by simp [List.getD,hk]
theorem zoj {l:List Nat} {x:Nat} (h:∀ i,i<l.length→l.getD i 0≠x):¬x∈l:=fun hm=>by
 obtain ⟨i,hi,e⟩:=List.mem_iff_getElem.1 hm;exact h i hi (by simp [List.getD,hi,e])
theorem indexNat (a:Option Addr) (n c:Nat) (l:List Nat) (x:Nat) (w:World) (hin:zdV w a n l) (hn:n≤1048576) :
 Calls Tryz.prog 174 #[.slice a n c,.int .i64 (x:Int)] w fun e w'=>∃ y:Int,e=.returned (.int .i64 y)∧Hid (0≤y↔x∈l)∧w'=w:=by
 obtain rfl:l.length=n:=hin.1;have HI:Hid (zdV w a l.length l):=hin;clear hin
 go_enter Tryz.func174,Tryz.ntmps174
 go_wp2
 go_loopw [8] (fun iv wr=>∃ k:Nat,iv=.int .i64 (k:Int)∧k≤l.length∧Hid (∀ i,i<k→l.getD i 0≠x)∧wr=w) (fun iv _=>l.length-(intOf iv).toNat)
 case atStart=>exact ⟨0,rfl,by omega,(fun i hi=>by omega),rfl⟩
 case round =>
  obtain ⟨k,rfl,hk,HA,hwr⟩:=hrel;obtain rfl:=hwr.symm;by_cases hlt:(k:Int)<(l.length:Int)
  ·
   have hk2:k<l.length:=by omega
   obtain ⟨b,off,rfl,hbl,c0⟩:=HI.out.2 k hk2;have hmem:=zcc hk2;obtain ⟨y,hy⟩:∃ y,l.getD k 0=y:=⟨_,rfl⟩
   rw [hy] at c0 hmem;by_cases hxy:x=y
   ·subst hxy;have HM:Hid (0≤(k:Int)↔x∈l):=⟨fun _=>hmem,fun _=>by omega⟩;clear HA hy hmem;go_wp2;go_ret;exact ⟨_,rfl,HM,rfl⟩
   ·
    have HA2:Hid (∀ i,i<k+1→l.getD i 0≠x):=fun i hi=>by
     rcases Nat.lt_or_ge i k with h | h
     ·exact HA.out i h
     ·
      obtain rfl:i=k:=by omega
      rw [hy];exact fun e=>hxy e.symm
    have hne:¬(x:Int)=(y:Int):=by omega
    have hne2:((x:Int)==(y:Int))=false:=beq_eq_false_iff_ne.2 hne;clear HA hy hmem;go_wp2;go_roundw
    case rel=>exact ⟨k+1,by go_num,by omega,HA2,trivial⟩
    case measure=>simp [intOf];omega
  ·have HM:Hid (0≤(-1:Int)↔x∈l):=⟨fun h=>by omega,fun h=>absurd h (zoj (fun i hi=>HA.out i (by omega)))⟩;go_wp2;go_ret;exact ⟨_,rfl,HM,rfl⟩
theorem zez (a:Option Addr) (n c:Nat) (l:List Nat) (x:Nat) (w:World) (hin:zdV w a n l) (hn:n≤1048576) :
 Calls Tryz.prog 142 #[.slice a n c,.int .i64 (x:Int)] w fun e w'=>e=.returned (.bool (decide (x∈l)))∧w'=w:=by
 have hI:=indexNat a n c l x w hin hn
 go_enter Tryz.func142,Tryz.ntmps142
 go_wp2_with fail
 refine hI.mono ?_;rintro e w1 ⟨y,rfl,HM,hw⟩;obtain rfl:=hw.symm;clear hI;go_wp2;go_ret;exact ⟨by rw [decide_eq_decide.2 HM.out.symm];rfl,rfl⟩
theorem zcN (a:Option Addr) (len cap:Nat) (ps:List Pk) (s:List UInt8) (w:World) (hin:zav w a len ps) (hlen:len≤1048576) :
 Calls Tryz.prog 94 #[.slice a len cap,.string ⟨s.toArray⟩] w fun e w'=>e=.returned (.int .i64 (at8 ps s))∧Below w.heap.size w w':=by
 obtain rfl:ps.length=len:=hin.1;have HI:Hid (zav w a ps.length ps):=hin;clear hin
 go_enter Tryz.func94,Tryz.ntmps94
 go_wp2
 go_loopw [9] (fun iv wr=>∃ j:Nat,iv=.int .i64 (j:Int)∧j≤ps.length∧Hid (at8 ps s=zc8 s (ps.drop j) j)∧Hid (Below w.heap.size w wr)) (fun iv _=>ps.length-(intOf iv).toNat)
 case atStart=>exact ⟨0,rfl,by omega,(rfl:at8 ps s=zc8 s (ps.drop 0) 0),Below.refl _ _⟩
 case round =>
  obtain ⟨j,rfl,hj,HA,HB⟩:=hrel;by_cases hlt:(j:Int)<(ps.length:Int)
  ·
   obtain ⟨b,off,rfl,hbl,c0,ia,il,ic,fa,fl,fc,c1,c2,_,_⟩:=(HI.out.below HB.out).2 j (by omega);have hg:=zhX (ps:=ps) (k:=j) (by omega) s;obtain ⟨x,hx⟩:∃ x,(ps.getD j pk0).1=x:=⟨_,rfl⟩
   rw [hx] at c0 hg;obtain ⟨bx,hbx⟩:=Box3.new wr (.string ⟨x.toArray⟩) (.slice ia il ic) (.slice fa fl fc) 99;obtain ⟨X,hX⟩:∃ X,wr.alloc (.cells #[.string ⟨x.toArray⟩,.slice ia il ic,.slice fa fl fc] 99)=X:=⟨_,rfl⟩
   rw [hX] at bx hbx;have d0:=bx.c0;have d1:=bx.c1;have d2:=bx.c2;have HB2:Hid (Below w.heap.size w X):=HB.out.trans (hbx.mono HB.out.size);clear bx hbx;by_cases hxs:x=s
   ·
    subst hxs;have HR:Hid (at8 ps x=(j:Int)):=by exact (by rw [HA.out,hg,if_pos rfl]:at8 ps x=(j:Int))
    have hself:(x==x)=true:=by simp
    clear HA hg hx;go_wp2;go_ret;exact ⟨by rw [HR.out];rfl,HB2.out⟩
   ·
    have HR:Hid (at8 ps s=zc8 s (ps.drop (j+1)) (j+1)):=by exact (by rw [HA.out,hg,if_neg hxs]:at8 ps s=zc8 s (ps.drop (j+1)) (j+1))
    have hne:(x==s)=false:=by rw [beq_eq_false_iff_ne];exact hxs
    clear HA hg hx;go_wp2;go_roundw
    case rel=>exact ⟨j+1,by go_num,by omega,HR,HB2⟩
    case measure=>simp [intOf];omega
  ·
   have HR:Hid (at8 ps s=-1):=by exact (by rw [HA.out,List.drop_of_length_le (by omega)];rfl:at8 ps s=-1)
   go_wp2;go_ret;exact ⟨by rw [HR.out];rfl,HB.out⟩
theorem zdP (a:Option Addr) (len cap:Nat) (ps:List Pk) (i:Nat) (w:World) (hin:zab w a len cap ps) (hi:i<len) :
 Calls Tryz.prog 170 #[.slice a len cap,.int .i64 (i:Int)] w fun e w'=>∃ v,e=.returned v∧w'.ownsRow w.heap.size 3 1 v (plc ps (zbe ps i)).length (natV (plc ps (zbe ps i)))∧Below w.heap.size w w':=by
 have HI:Hid (zab w a len cap ps):=hin;obtain ⟨b,off,rfl,hbl,c0,ia,il,ic,fa,fl,fc,c1,c2,hpk⟩:=hin.each i hi;have hsm:=hin.small;have hil:=hpk.il;obtain ⟨ims,hims⟩:∃ ims,zbe ps i=ims:=⟨_,rfl⟩
 have hti:za7 w ia il ims:=by rw [←hims];exact hpk.i
 rw [hims];obtain rfl:ims.length=il:=hti.1;have HT:Hid (za7 w ia ims.length ims):=hti;have hi2:(i:Int)<(len:Int):=by omega
 have c1a:(w.alloc (.cells #[] 3)).cell? ⟨b,off+i*3+1,none⟩=some (.slice ia ims.length ic):=(((Below.refl _ w).alloc (Nat.le_refl _) _).cell (p:=⟨b,off+i*3+1,none⟩) hbl).trans c1;have HO0:Hid ((w.alloc (.cells #[] 3)).ownsRow w.heap.size 3 1 (.slice (some ⟨w.heap.size,0,none⟩) 0 0) 0 (natV (plc ps (ims.take 0)))):=World.ownsRow_lit (base:=w.heap.size) (e:=3) (size:=1) w #[] 0 (Nat.le_refl _) (by decide) rfl;have HB0:Hid (Below w.heap.size w (w.alloc (.cells #[] 3))):=(Below.refl _ _).alloc (Nat.le_refl _) _;clear hin hpk hims hti c0 c2
 go_enter Tryz.func170,Tryz.ntmps170
 go_wp2
 go_loopw [5,16] (fun pv iv wr=>∃ (k m:Nat) (pa:Option Addr) (pc:Nat),pv=.slice pa m pc∧iv=.int .i64 (k:Int)∧k≤ims.length∧m≤k∧Hid ((plc ps (ims.take k)).length=m)∧Hid (wr.ownsRow w.heap.size 3 1 (.slice pa m pc) m (natV (plc ps (ims.take k))))∧Hid (Below w.heap.size w wr)) (fun _ iv _=>ims.length-(intOf iv).toNat)
 case atStart=>exact ⟨0,0,_,0,rfl,rfl,by omega,by omega,rfl,HO0,HB0⟩
 case round =>
  obtain ⟨k,m,pa,pc,rfl,rfl,hk,hmk,HLm,HO,HB⟩:=hrel;clear HO0 HB0;by_cases hlt:(k:Int)<(ims.length:Int)
  ·
   have hk2:k<ims.length:=by omega
   obtain ⟨b2,off2,rfl,_,d0⟩:=(HT.out.below HB.out).2 k hk2;have hpt:=plc_take ps ims hk2;obtain ⟨x,hx⟩:∃ x,ims.getD k []=x:=⟨_,rfl⟩
   rw [hx] at d0 hpt;have HP:Hid (_):=zcN (some ⟨b,off,none⟩) len cap ps x wr (HI.out.below HB.out).in (by omega);rcases zdm ps x with ⟨ea,_⟩ | ⟨q,hq,ea,_,_⟩
   ·
    rw [ea] at HP;rw [ea,if_neg (by decide)] at hpt;have HPT:Hid (plc ps (ims.take (k+1))=plc ps (ims.take k)):=hpt;clear hpt hx ea
    go_wp2_with (go_at_call 94;refine Calls.mono HP.out ?_;rintro e w1 ⟨rfl,hb1⟩;have HB1:Hid (Below w.heap.size w w1):=HB.out.trans (hb1.mono HB.out.size);have HO1:=za5 HO.out hb1;rw [←HPT.out] at HO1;clear hb1)
    go_roundw
    case rel=>exact ⟨k+1,m,pa,pc,rfl,by go_num,by omega,by omega,by exact (by rw [HPT.out];exact HLm.out:(plc ps (ims.take (k+1))).length=m),HO1,HB1⟩
    case measure=>simp [intOf];omega
   ·
    rw [ea] at HP;rw [ea,if_pos (by omega),Int.toNat_natCast] at hpt;have HPT:Hid (plc ps (ims.take (k+1))=plc ps (ims.take k)++[q]):=hpt;have hqn:¬(q:Int)=-1:=by omega
    have hqb:((q:Int) !=-1)=true:=by rw [bne_iff_ne];exact hqn
    have hqb2:((q:Int)==-1)=false:=beq_eq_false_iff_ne.2 hqn;clear hpt hx ea;go_wp2_with fail
    refine Calls.mono HP.out ?_;rintro e w1 ⟨rfl,hb1⟩;have hB1:Below w.heap.size w w1:=HB.out.trans (hb1.mono HB.out.size);have hO1:=za5 HO.out hb1;obtain ⟨v',Y,hr,ho,hg,_⟩:=zeL 163 Tryz.underlying163 q hO1 hB1.size (by omega);obtain ⟨g',c',rfl⟩:=zaw ho (by omega);rw [←HPT.out] at ho;have HOY:Hid (Y.ownsRow w.heap.size 3 1 (.slice (some ⟨g',0,none⟩) (m+1) c') (m+1) (natV (plc ps (ims.take (k+1))))):=ho;have HBY:Hid (Below w.heap.size w Y):=hB1.grown hg hB1.size (fun q e=>(hO1.lt q e).1);clear hb1 hO1 hB1 ho hg HP
    go_wp2_with (at_builtin;refine za0 rfl (.tmp 25) (.tmp 27) 163 rfl _ _ _ rfl rfl hr ?_;clear hr)
    go_roundw
    case rel=>exact ⟨k+1,m+1,_,c',rfl,by go_num,by omega,by omega,by exact (by rw [HPT.out,List.length_append,List.length_singleton,HLm.out]:(plc ps (ims.take (k+1))).length=m+1),HOY,HBY⟩
    case measure=>simp [intOf];omega
  ·have HE:Hid (ims.take k=ims):=List.take_of_length_le (by omega);go_wp2;go_ret;exact ⟨_,rfl,by have h1:=HO.out;have h2:=HLm.out;rw [HE.out] at h1 h2;rw [h2];exact h1,HB.out⟩
structure PjSt (ps:List Pk) (k:Nat) (z:List UInt8):Prop where
 ok:∀ i,i<k→pj8 ps i
 last:(k=0∧z=[])∨(0<k∧z=(ps.getD (k-1) pk0).1)
theorem PjSt.pk {ps:List Pk} {k:Nat} (hk:k<ps.length) (h:pkgB (ps.getD k pk0)=false):zaK ps=false:=zg9 hk (fun e=>by have:=e.1;rw [h] at this;cases this)
theorem PjSt.low {ps:List Pk} {k:Nat} {z:List UInt8} (s:PjSt ps k z) (hk:k<ps.length) (hp:pkgB (ps.getD k pk0)=true) (h:leT (ps.getD k pk0).1 z=true):zaK ps=false:=by
 refine zg9 hk (fun e=>?_);rcases s.last with ⟨_,rfl⟩ | ⟨h0,rfl⟩
 ·rw [zoy (zdc hp).1] at h;cases h
 ·rw [e.2 h0] at h;cases h
theorem PjSt.step {ps:List Pk} {k:Nat} {z:List UInt8} (s:PjSt ps k z) (hp:pkgB (ps.getD k pk0)=true) (h:leT (ps.getD k pk0).1 z=false):PjSt ps (k+1) (ps.getD k pk0).1:=by
 refine ⟨fun i hi=>?_,Or.inr ⟨by omega,by simp⟩⟩;rcases Nat.lt_or_ge i k with hl | hl
 ·exact s.ok i hl
 ·
  obtain rfl:i=k:=by omega
  refine ⟨hp,fun h0=>?_⟩;rcases s.last with ⟨e,_⟩ | ⟨_,e⟩
  ·omega
  ·rw [←e];exact h
theorem zf4 (a:Option Addr) (len cap:Nat) (ps:List Pk) (w:World) (h:zab w a len cap ps) :
 Calls Tryz.prog 160 #[.slice a len cap] w fun e w'=>e=.returned (.bool (zaK ps))∧Below w.heap.size w w':=by
 obtain rfl:ps.length=len:=h.hlen;have hsm:=h.small;have HI:Hid (zab w a ps.length cap ps):=h;clear h;by_cases h1:(ps.length:Int)<1
 ·
  have HR:Hid (zaK ps=false):=by exact (by unfold zaK;rw [zcx _ _ _ (Or.inl h1),Bool.and_false]:zaK ps=false)
  go_enter Tryz.func160,Tryz.ntmps160
  go_wp2;go_ret;exact ⟨by rw [HR.out];rfl,Below.refl _ _⟩
 by_cases h8:8<(ps.length:Int)
 ·
  have HR:Hid (zaK ps=false):=by exact (by unfold zaK;rw [zcx _ _ _ (Or.inr h8),Bool.and_false]:zaK ps=false)
  go_enter Tryz.func160,Tryz.ntmps160
  go_wp2;go_ret;exact ⟨by rw [HR.out];rfl,Below.refl _ _⟩
 go_enter Tryz.func160,Tryz.ntmps160
 go_wp2
 go_loopw [3,16] (fun lv iv wr=>∃ (k:Nat) (z:List UInt8),lv=.string ⟨z.toArray⟩∧iv=.int .i64 (k:Int)∧k≤ps.length∧Hid (PjSt ps k z)∧Hid (Below w.heap.size w wr)) (fun _ iv _=>ps.length-(intOf iv).toNat)
 case atStart=>exact ⟨0,[],rfl,rfl,by omega,(⟨fun i hi=>by omega,Or.inl ⟨rfl,rfl⟩⟩:PjSt ps 0 []),Below.refl _ _⟩
 case round =>
  obtain ⟨k,z,rfl,rfl,hk,HZ,HB⟩:=hrel;by_cases hlt:(k:Int)<(ps.length:Int)
  ·
   have hk2:k<ps.length:=by omega
   obtain ⟨b,off,rfl,hbl,c0,ia,il,ic,fa,fl,fc,c1,c2,hpk⟩:=(HI.out.below HB.out).each k hk2;obtain ⟨p,hp⟩:∃ p,ps.getD k pk0=p:=⟨_,rfl⟩
   have HNo:Hid (pkgB p=false→zaK ps=false):=fun e=>PjSt.pk hk2 (by rw [hp];exact e)
   have HLow:Hid (pkgB p=true→leT p.1 z=true→zaK ps=false):=fun e1 e2=>HZ.out.low hk2 (by rw [hp];exact e1) (by rw [hp];exact e2)
   have HStep:Hid (pkgB p=true→leT p.1 z=false→PjSt ps (k+1) p.1):=fun e1 e2=>by
    have:=HZ.out.step (by rw [hp];exact e1) (by rw [hp];exact e2);rw [hp] at this;exact this
   rw [hp] at c0 hpk;clear hp HZ;obtain ⟨x,ims,fs⟩:=p;simp only at c0 hpk;obtain ⟨bx,hbx⟩:=Box3.new wr (.string ⟨x.toArray⟩) (.slice ia il ic) (.slice fa fl fc) 99;obtain ⟨X,hX⟩:∃ X,wr.alloc (.cells #[.string ⟨x.toArray⟩,.slice ia il ic,.slice fa fl fc] 99)=X:=⟨_,rfl⟩
   obtain ⟨E,hE⟩:∃ E,wr.heap.size=E:=⟨_,rfl⟩
   rw [hX] at bx hbx;rw [hE] at bx;have d0:=bx.c0;have d1:=bx.c1;have d2:=bx.c2;have HBX:Hid (Box3 X E (.string ⟨x.toArray⟩) (.slice ia il ic) (.slice fa fl fc)):=bx;have HC:Hid (_):=ziw x ia il ic fa fl fc ims fs X (hpk.below hbx);have HB2:Hid (Below w.heap.size w X):=HB.out.trans (hbx.mono HB.out.size);clear bx hbx hpk HB;rcases hpb:pkgB (x,ims,fs) with _ | _
   ·
    have HR:Hid (zaK ps=false):=HNo.out hpb;rw [hpb] at HC;clear hpb
    go_wp2_with (go_at_call 181;refine Calls.mono HC.out ?_;rintro e w1 ⟨rfl,hb1⟩;have HB3:Hid (Below w.heap.size w w1):=HB2.out.trans (hb1.mono HB2.out.size);clear hb1)
    go_ret;exact ⟨by rw [HR.out];rfl,HB3.out⟩
   ·
    rcases hle:leT x z with _ | _
    ·
     have HS2:Hid (PjSt ps (k+1) x):=HStep.out hpb hle;rw [hpb] at HC;unfold leT at hle;clear hpb HNo HLow HStep
     go_wp2_with (go_at_call 181;refine Calls.mono HC.out ?_;rintro e w1 ⟨rfl,hb1⟩;have HB3:Hid (Below w.heap.size w w1):=HB2.out.trans (hb1.mono HB2.out.size);have q0:=(HBX.out.below hb1).c0;clear hb1)
     go_roundw
     case rel=>exact ⟨k+1,x,rfl,by go_num,by omega,HS2,HB3⟩
     case measure=>simp [intOf];omega
    ·
     have HR:Hid (zaK ps=false):=HLow.out hpb hle;rw [hpb] at HC;unfold leT at hle;clear hpb HNo HLow HStep
     go_wp2_with (go_at_call 181;refine Calls.mono HC.out ?_;rintro e w1 ⟨rfl,hb1⟩;have HB3:Hid (Below w.heap.size w w1):=HB2.out.trans (hb1.mono HB2.out.size);have q0:=(HBX.out.below hb1).c0;clear hb1)
     go_ret;exact ⟨by rw [HR.out];rfl,HB3.out⟩
  ·
   obtain rfl:k=ps.length:=by omega
   have HR:Hid (zaK ps=true):=by exact (by rw [zjh HZ.out.ok];unfold inB;exact decide_eq_true (by omega):zaK ps=true)
   go_wp2;go_ret;exact ⟨by rw [HR.out];rfl,HB.out⟩
theorem zkX (a:Option Addr) (len cap:Nat) (ps:List Pk) (s:List UInt8) (w:World) (h:zab w a len cap ps) :
 Calls Tryz.prog 139 #[.slice a len cap,.string ⟨s.toArray⟩] w fun e w'=>e=.returned (.int .i64 (if zaK ps=true then at8 ps s else -1))∧Below w.heap.size w w':=by
 have HP:Hid (_):=zf4 a len cap ps w h;have HI:Hid (zab w a len cap ps):=h;clear h;rcases hp:zaK ps with _ | _
 ·
  rw [hp] at HP
  go_enter Tryz.func139,Tryz.ntmps139
  go_wp2_with (go_at_call 160;refine Calls.mono HP.out ?_;rintro e w1 ⟨rfl,hb1⟩)
  go_ret;exact ⟨by simp,hb1⟩
 ·
  rw [hp] at HP
  go_enter Tryz.func139,Tryz.ntmps139
  go_wp2_with fail
  refine Calls.mono HP.out ?_;rintro e w1 ⟨rfl,hb1⟩;have HI1:Hid (zab w1 a len cap ps):=HI.out.below hb1;go_wp2_with fail
  refine (zcN a len cap ps s w1 HI1.out.in HI1.out.small).mono ?_;rintro e w2 ⟨rfl,hb2⟩;have HB:Hid (Below w.heap.size w w2):=hb1.trans (hb2.mono hb1.size);clear hb1 hb2;go_wp2;go_ret;exact ⟨by simp,HB.out⟩
theorem zl1 (a:Option Addr) (len cap:Nat) (ps:List Pk) (pa:Option Addr) (n pc:Nat) (l:List Nat) (w:World) (h:zab w a len cap ps) (hl:zdV w pa n l) (hlt:∀ x∈l,x<len) (hn:n≤1000) :
 Calls Tryz.prog 143 #[.slice a len cap,.slice pa n pc] w fun e w'=>∃ v,e=.returned v∧w'.ownsRow w.heap.size 9 1 v (zaJ ps l).length (strV (zaJ ps l))∧Below w.heap.size w w':=by
 obtain rfl:l.length=n:=hl.1;have HI:Hid (zab w a len cap ps):=h;have HL:Hid (zdV w pa l.length l):=hl;have HLt:Hid (∀ x∈l,x<len):=hlt;have hsm:=h.small;have HO0:Hid ((w.alloc (.cells #[] 9)).ownsRow w.heap.size 9 1 (.slice (some ⟨w.heap.size,0,none⟩) 0 0) 0 (strV (zaJ ps (l.take 0)))):=World.ownsRow_lit (base:=w.heap.size) (e:=9) (size:=1) w #[] 0 (Nat.le_refl _) (by decide) rfl;have HB0:Hid (Below w.heap.size w (w.alloc (.cells #[] 9))):=(Below.refl _ _).alloc (Nat.le_refl _) _;clear h hl hlt
 go_enter Tryz.func143,Tryz.ntmps143
 go_wp2
 go_loopw [5,11] (fun nv iv wr=>∃ (k:Nat) (na:Option Addr) (nc:Nat),nv=.slice na k nc∧iv=.int .i64 (k:Int)∧k≤l.length∧Hid (wr.ownsRow w.heap.size 9 1 (.slice na k nc) k (strV (zaJ ps (l.take k))))∧Hid (Below w.heap.size w wr)) (fun _ iv _=>l.length-(intOf iv).toNat)
 case atStart=>exact ⟨0,_,0,rfl,rfl,by omega,HO0,HB0⟩
 case round =>
  obtain ⟨k,na,nc,rfl,rfl,hk,HO,HB⟩:=hrel;clear HO0 HB0;by_cases hlt:(k:Int)<(l.length:Int)
  ·
   have hk2:k<l.length:=by omega
   obtain ⟨b2,off2,rfl,hb2l,d0⟩:=(HL.out.below HB.out).2 k hk2;have hql:=HLt.out _ (zcc hk2)
   have hnt:zaJ ps (l.take (k+1))=zaJ ps (l.take k)++[nmAt ps (l.getD k 0)]:=by rw [List.take_succ_eq_append_getElem hk2,zeU,show l.getD k 0=l[k] by simp [List.getD,hk2]]
   obtain ⟨q,hq⟩:∃ q,l.getD k 0=q:=⟨_,rfl⟩
   rw [hq] at d0 hql hnt;have hok:=HI.out.below HB.out;obtain ⟨b,off,rfl,hbl,c0,_⟩:=hok.each q hql;have hxl:=(hok.short q).1;have hnm:nmAt ps q=(ps.getD q pk0).1:=rfl;obtain ⟨x,hx⟩:∃ x,(ps.getD q pk0).1=x:=⟨_,rfl⟩
   rw [hnm,hx] at hnt;rw [hx] at c0 hxl;have HNT:Hid (zaJ ps (l.take (k+1))=zaJ ps (l.take k)++[x]):=hnt;have hqz:(q:Int)<(len:Int):=by omega
   clear hok hnt hnm hx hq;go_wp2_with fail
   refine (zbc x wr hxl).mono ?_;rintro e w1 ⟨rfl,hb1⟩;have hB1:Below w.heap.size w w1:=HB.out.trans (hb1.mono HB.out.size);have hO1:=za5 HO.out hb1;obtain ⟨v',Y,hr,ho,hg⟩:=zci x hO1 hB1.size (by omega);rw [←HNT.out] at ho;obtain ⟨g',c',rfl⟩:=zaw ho (by omega);have HOY:Hid (Y.ownsRow w.heap.size 9 1 (.slice (some ⟨g',0,none⟩) (k+1) c') (k+1) (strV (zaJ ps (l.take (k+1))))):=ho;have HBY:Hid (Below w.heap.size w Y):=hB1.grown hg hB1.size (fun q e=>(hO1.lt q e).1);clear hb1 hO1 hB1 ho hg
   go_wp2_with (at_builtin;refine za0 rfl (.tmp 15) (.tmp 22) 67 rfl _ _ _ rfl rfl hr ?_;clear hr)
   go_roundw
   case rel=>exact ⟨k+1,_,c',rfl,by go_num,by omega,HOY,HBY⟩
   case measure=>simp [intOf];omega
  ·
   obtain rfl:k=l.length:=by omega
   have HE:Hid (l.take l.length=l):=List.take_length;go_wp2;go_ret;exact ⟨_,rfl,by have h1:=HO.out;rw [HE.out] at h1;rw [show (zaJ ps l).length=l.length by simp [zaJ]];exact h1,HB.out⟩
def cwV (e:Nat→Addr) (c:Int):Value:=if c=0 then .nilIface else zb3 (e c.toNat)
theorem zgJ (a:Option Addr) (len cap:Nat) (ps:List Pk) (f:Nat) (q:List UInt8) (w:World) (h:zab w a len cap ps) (hf:f<len) :
 Calls Tryz.prog 201 #[.slice a len cap,.int .i64 (f:Int),.string ⟨q.toArray⟩] w fun e w'=>e=.returned (.int .i64 (toV ps f q))∧Below w.heap.size w w':=by
 obtain ⟨b,off,rfl,hbl,c0,ia,il,ic,fa,fl,fc,c1,c2,hpk⟩:=h.each f hf;have hsm:=h.small;have hf2:(f:Int)<(len:Int):=by omega
 have hilb:=hpk.il;have HP:Hid (_):=zcN (some ⟨b,off,none⟩) len cap ps q w h.in h.small;have HC:Hid (_):=zey ia il ic (zbe ps f) q w hpk.i hpk.il;obtain ⟨ov,hov⟩:∃ ov,toV ps f q=ov:=⟨_,rfl⟩
 have HV:Hid (toV ps f q=ov):=hov;rw [hov];unfold toV at hov;obtain ⟨x,hx⟩:∃ x,(ps.getD f pk0).1=x:=⟨_,rfl⟩
 have hx2:nmAt ps f=x:=hx;rw [hx] at c0;rw [hx2] at hov;clear hx hx2 hpk c2 h;by_cases h1:q=x
 ·
  rw [if_pos h1] at hov;have hb1:(q==x)=true:=by rw [h1];simp
  subst hov
  go_enter Tryz.func201,Tryz.ntmps201
  go_wp2;go_ret;exact ⟨rfl,Below.refl _ _⟩
 ·
  rw [if_neg h1] at hov;have hb1:(q==x)=false:=by rw [beq_eq_false_iff_ne];exact h1
  by_cases h2:q∈zbe ps f
  ·
   rw [if_pos h2] at hov;rw [decide_eq_true h2] at HC;rw [hov] at HP;clear hov h2 HV
   go_enter Tryz.func201,Tryz.ntmps201
   go_wp2_with fail
   refine Calls.mono HC.out ?_;rintro e w1 ⟨rfl,hw1⟩;obtain rfl:=hw1.symm;go_wp2_with fail
   refine Calls.mono HP.out ?_;rintro e w2 ⟨rfl,hb2⟩;go_wp2;go_ret;exact ⟨rfl,hb2⟩
  ·
   rw [if_neg h2] at hov;rw [decide_eq_false h2] at HC;subst hov;clear h2 HV
   go_enter Tryz.func201,Tryz.ntmps201
   go_wp2_with fail
   refine Calls.mono HC.out ?_;rintro e w1 ⟨rfl,hw1⟩;obtain rfl:=hw1.symm;go_wp2;go_ret;exact ⟨rfl,Below.refl _ _⟩
theorem ziA (a:Option Addr) (len cap:Nat) (ps:List Pk) (f i:Nat) (n:Nd) (er:Nat→Addr) (w:World) (h:zab w a len cap ps) (hE:Err4 w er) (hf:f<len) (hi:i≤(ps.getD f pk0).2.2.length) :
 Calls Tryz.prog 196 #[.slice a len cap,.int .i64 (f:Int),.int .i64 (i:Int),za9 n] w fun e w'=>e=.returned (cwV er (zb7 ps (ps.getD f pk0) (i:Int) n))∧Below w.heap.size w w':=by
 obtain rfl:ps.length=len:=h.hlen;obtain ⟨k,A,x,fn⟩:=n;have hw:=toV_ways hf x;have hway:∀ t,farB ps (ps.getD f pk0) x=false→ofPk ps (ps.getD f pk0) x=ps.getD t pk0→(x=(ps.getD f pk0).1↔t=f)→_:=fun t h1 h2 h3=>zno (i:=i) (n:=(k,A,x,fn)) h1 h2 h3
 have hfar:farB ps (ps.getD f pk0) x=true→_:=fun h1=>zpe (i:=i) (n:=(k,A,x,fn)) h1
 simp only at hway hfar;obtain ⟨cv,hcv⟩:∃ cv,zb7 ps (ps.getD f pk0) (i:Int) (k,A,x,fn)=cv:=⟨_,rfl⟩
 rw [hcv] at hfar hway ⊢;unfold za9;simp only;obtain ⟨⟨n0,n1,n2,n3⟩,hb0⟩:=zeT w (.int .i64 k) (.int .i64 A) (.string ⟨x.toArray⟩) (.string ⟨fn.toArray⟩) 104;obtain ⟨W,hW⟩:∃ W,w.alloc (.cells #[.int .i64 k,.int .i64 A,.string ⟨x.toArray⟩,.string ⟨fn.toArray⟩] 104)=W:=⟨_,rfl⟩
 rw [hW] at n0 n1 n2 n3 hb0;have hsW:w.heap.size<W.heap.size:=by rw [←hW];simp
 obtain ⟨D,hD⟩:∃ D,w.heap.size=D:=⟨_,rfl⟩
 rw [hD] at n0 n1 n2 n3 hsW;have HZ:Hid (∀ Z,Below W.heap.size W Z→(Z.cell? ⟨D,0,none⟩=some (.int .i64 k)∧Z.cell? ⟨D,1,none⟩=some (.int .i64 A)∧Z.cell? ⟨D,2,none⟩=some (.string ⟨x.toArray⟩)∧Z.cell? ⟨D,3,none⟩=some (.string ⟨fn.toArray⟩))∧zab Z a ps.length cap ps∧Err4 Z er∧Below w.heap.size w Z):=fun Z hz=>⟨⟨(hz.cell (p:=⟨D,0,none⟩) hsW).trans n0,(hz.cell (p:=⟨D,1,none⟩) hsW).trans n1,(hz.cell (p:=⟨D,2,none⟩) hsW).trans n2,(hz.cell (p:=⟨D,3,none⟩) hsW).trans n3⟩,(h.below hb0).below hz,(hE.below hb0).below hz,hb0.trans (hz.mono hb0.size)⟩
 have HT:Hid (_):=zgJ a ps.length cap ps f x W (HZ.out W (Below.refl _ _)).2.1 hf;have hsm:=h.small;have HI:Hid (i≤(ps.getD f pk0).2.2.length):=hi;clear h hE hb0 hcv hi
 go_enter Tryz.func196,Tryz.ntmps196
 go_wp2_with fail
 refine Calls.mono HT.out ?_;rintro e w1 ⟨rfl,hb1⟩;clear HT n0 n1 n2 n3;obtain ⟨⟨n0,n1,n2,n3⟩,hok,hE,HB⟩:=HZ.out w1 hb1;rcases hw with ⟨et,hfr⟩ | ⟨t,ht,et,hfr,hof,hiff⟩
 ·rw [et];obtain rfl:=hfar hfr;have g1:=hE.far;have HB2:Hid (_):=HB;clear hok hE HB hway hfar;go_wp2;go_ret;exact ⟨rfl,HB2.out⟩
 ·
  rw [et];have hw2:=hway t hfr hof hiff;have hln:=fsTo_len (ps:=ps) (f:=f) (t:=t) (i:=i) (fun e=>by rw [e];exact HI.out);obtain ⟨b,off,rfl,hbl,c0,ia,il,ic,fa,fl,fc,c1,c2,hpk⟩:=hok.each t ht;have ht2:(t:Int)<(ps.length:Int):=by omega
  have htn:¬(t:Int)=-1:=by omega
  have htb:((t:Int)==-1)=false:=beq_eq_false_iff_ne.2 htn;have hfll:=hpk.fl;have hfcc:=hpk.fc.2;have hflen:(ps.getD t pk0).2.2.length=fl:=hpk.f.1
  have hFI:∀ m:Nat,m=(if t=f then i else fl)→zaB w1 fa m (fsTo ps f t i):=fun m hm=>by
   unfold fsTo;by_cases e:t=f
   ·rw [if_pos e] at hm ⊢;subst hm;exact hpk.f.take (by have:=HI.out;rw [←e,hflen] at this;exact this)
   ·rw [if_neg e] at hm ⊢;subst hm;exact hpk.f
  have hml:(if t=f then i else fl)≤fl:=by
   by_cases e:t=f
   ·rw [if_pos e];have:=HI.out;rw [←e,hflen] at this;exact this
   ·rw [if_neg e];exact Nat.le_refl _
  generalize fsTo ps f t i=m at hw2 hln hFI;have gf:=hE.func;have gc:=hE.count;have HE:Hid (Err4 w1 er):=hE;have HB1:Hid (Below W.heap.size W w1):=hb1;have HP:Hid (zaB w1 fa (if t=f then i else fl) m):=hFI _ rfl;have HW:Hid (_):=hw2;clear hway hfar hok hpk hE HB hb1 hiff hof hfr hw2 hFI c0 c1 hflen;by_cases htf:t=f
  ·
   subst htf;rw [if_pos rfl] at HP hml;have hself:((t:Int)==(t:Int))=true:=by simp
   have hic:(i:Int)≤(fc:Int):=by omega
   have hic2:i≤fc:=by omega
   have HC:Hid (∀ cp,_):=fun cp=>zcO fa i cp m fn w1 HP.out (by omega)
   clear hln;go_wp2_with fail
   refine Calls.mono (HC.out _) ?_;rintro e w2 ⟨rfl,hb2⟩;have hP2:zaB w2 fa i m:=HP.out.below hb2;replace hb2:=HB1.out.trans (hb2.mono HB1.out.size);clear n0 n1 n2 n3 gf gc c2;obtain ⟨⟨n0,n1,n2,n3⟩,hok,hE,HB⟩:=HZ.out w2 hb2;have HB2:Hid (_):=HB;have gf:=hE.func;have gc:=hE.count;have hl2:m.length=i:=hP2.1;rcases HW.out with ⟨ea,rfl⟩ | ⟨c,hc,ea,hw3⟩
   ·rw [ea];clear hok hE HB HC HW hP2 HE hl2;go_wp2;go_ret;exact ⟨rfl,HB2.out⟩
   ·
    rw [ea];obtain ⟨b2,o2,rfl,hb2l,r0,r1,ta,tl,tc,r2,_,_⟩:=hP2.2 c (by omega);have hcn:((c:Int)==-1)=false:=beq_eq_false_iff_ne.2 (by omega);have hcl:(c:Int)<(i:Int):=by omega
    obtain ⟨ag,hag⟩:∃ ag,(m.getD c fn0).2.1=ag:=⟨_,rfl⟩
    rw [hag] at hw3 r1;clear hok hE HB HC HW hP2 HE hl2 HP ea hag r0 r2;rcases hw3 with ⟨hA,rfl⟩ | ⟨rfl,rfl⟩
    ·
     have hAb:(ag !=A)=true:=by rw [bne_iff_ne];exact hA
     go_wp2_with fail
     go_quiet (fail)
     go_wp2;go_ret;exact ⟨rfl,HB2.out.trans ⟨rfl,rfl,rfl,Nat.le_refl _,fun _ _=>rfl⟩⟩
    ·
     have hAb:(ag !=ag)=false:=by simp
     go_wp2_with fail
     go_quiet (fail)
     go_wp2;go_ret;exact ⟨rfl,HB2.out.trans ⟨rfl,rfl,rfl,Nat.le_refl _,fun _ _=>rfl⟩⟩
  ·
   rw [if_neg htf] at HP hml;have hne:((t:Int)==(f:Int))=false:=beq_eq_false_iff_ne.2 (by omega);have HC:Hid (∀ cp,_):=fun cp=>zcO fa fl cp m fn w1 HP.out (by omega)
   clear hln;go_wp2_with fail
   refine Calls.mono (HC.out _) ?_;rintro e w2 ⟨rfl,hb2⟩;have hP2:zaB w2 fa fl m:=HP.out.below hb2;replace hb2:=HB1.out.trans (hb2.mono HB1.out.size);clear n0 n1 n2 n3 gf gc c2;obtain ⟨⟨n0,n1,n2,n3⟩,hok,hE,HB⟩:=HZ.out w2 hb2;have HB2:Hid (_):=HB;have gf:=hE.func;have gc:=hE.count;have hl2:m.length=fl:=hP2.1;rcases HW.out with ⟨ea,rfl⟩ | ⟨c,hc,ea,hw3⟩
   ·rw [ea];clear hok hE HB HC HW hP2 HE hl2;go_wp2;go_ret;exact ⟨rfl,HB2.out⟩
   ·
    rw [ea];obtain ⟨b2,o2,rfl,hb2l,r0,r1,ta,tl,tc,r2,_,_⟩:=hP2.2 c (by omega);have hcn:((c:Int)==-1)=false:=beq_eq_false_iff_ne.2 (by omega);have hcl:(c:Int)<(fl:Int):=by omega
    obtain ⟨ag,hag⟩:∃ ag,(m.getD c fn0).2.1=ag:=⟨_,rfl⟩
    rw [hag] at hw3 r1;clear hok hE HB HC HW hP2 HE hl2 HP ea hag r0 r2;rcases hw3 with ⟨hA,rfl⟩ | ⟨rfl,rfl⟩
    ·
     have hAb:(ag !=A)=true:=by rw [bne_iff_ne];exact hA
     go_wp2_with fail
     go_quiet (fail)
     go_wp2;go_ret;exact ⟨rfl,HB2.out.trans ⟨rfl,rfl,rfl,Nat.le_refl _,fun _ _=>rfl⟩⟩
    ·
     have hAb:(ag !=ag)=false:=by simp
     go_wp2_with fail
     go_quiet (fail)
     go_wp2;go_ret;exact ⟨rfl,HB2.out.trans ⟨rfl,rfl,rfl,Nat.le_refl _,fun _ _=>rfl⟩⟩
theorem zhk (c:Int) (er:Nat→Addr) (w:World) (hE:Err4 w er) (hc:-1≤c∧c≤3) :
 Calls Tryz.prog 165 #[cwV er c] w fun e w'=>e=.returned (.int .i64 c)∧w'=w:=by
 have gt:=hE.told;have g1:=hE.far;have g2:=hE.func;have g3:=hE.count;unfold zb3 at gt g1 g2 g3;have h0:=hE.at0;have h1:=hE.at1;have h2:=hE.at2;have h3:=hE.at3;obtain ⟨d01,d02,d03,d12,d13,d23⟩:=hE.ne;clear hE;rcases (show c=0∨c=-1∨c=1∨c=2∨c=3 by omega) with rfl | rfl | rfl | rfl | rfl
 ·
  have hv:cwV er 0=.nilIface:=rfl;rw [hv]
  go_enter Tryz.func165,Tryz.ntmps165
  go_wp2;go_ret;exact ⟨rfl,rfl⟩
 ·
  have hv:cwV er (-1)=.iface 258 (.pointer (some (er 0))):=rfl;rw [hv]
  go_enter Tryz.func165,Tryz.ntmps165
  go_wp2_with fail
  refine Calls.mono (zcg (er 0) (er 1) w d01 h0 h1) ?_;rintro e w1 ⟨rfl,hw⟩;obtain rfl:=hw.symm;clear hw;go_wp2_with fail
  refine Calls.mono (zcg (er 0) (er 2) w d02 h0 h2) ?_;rintro e w2 ⟨rfl,hw⟩;obtain rfl:=hw.symm;clear hw;go_wp2_with fail
  refine Calls.mono (zcg (er 0) (er 3) w d03 h0 h3) ?_;rintro e w3 ⟨rfl,hw⟩;obtain rfl:=hw.symm;clear hw;go_wp2;go_ret;exact ⟨rfl,rfl⟩
 ·
  have hv:cwV er (1)=.iface 258 (.pointer (some (er 1))):=rfl;rw [hv]
  go_enter Tryz.func165,Tryz.ntmps165
  go_wp2_with fail
  refine Calls.mono (zkM (er 1) w) ?_;rintro e w1 ⟨rfl,hw⟩;obtain rfl:=hw.symm;clear hw;go_wp2;go_ret;exact ⟨rfl,rfl⟩
 ·
  have hv:cwV er (2)=.iface 258 (.pointer (some (er 2))):=rfl;rw [hv]
  go_enter Tryz.func165,Tryz.ntmps165
  go_wp2_with fail
  refine Calls.mono (zcg (er 2) (er 1) w d12.symm h2 h1) ?_;rintro e w1 ⟨rfl,hw⟩;obtain rfl:=hw.symm;clear hw;go_wp2_with fail
  refine Calls.mono (zkM (er 2) w) ?_;rintro e w2 ⟨rfl,hw⟩;obtain rfl:=hw.symm;clear hw;go_wp2;go_ret;exact ⟨rfl,rfl⟩
 ·
  have hv:cwV er (3)=.iface 258 (.pointer (some (er 3))):=rfl;rw [hv]
  go_enter Tryz.func165,Tryz.ntmps165
  go_wp2_with fail
  refine Calls.mono (zcg (er 3) (er 1) w d13.symm h3 h1) ?_;rintro e w1 ⟨rfl,hw⟩;obtain rfl:=hw.symm;clear hw;go_wp2_with fail
  refine Calls.mono (zcg (er 3) (er 2) w d23.symm h3 h2) ?_;rintro e w2 ⟨rfl,hw⟩;obtain rfl:=hw.symm;clear hw;go_wp2_with fail
  refine Calls.mono (zkM (er 3) w) ?_;rintro e w3 ⟨rfl,hw⟩;obtain rfl:=hw.symm;clear hw;go_wp2;go_ret;exact ⟨rfl,rfl⟩
section
open Go.RowKit Go.Extern.Stop Go.Stop Go.Extern
structure Err8 (w:World) (e:Nat→Addr):Prop where
 four:Err4 w e
 imp:w.cell? ⟨3,0,none⟩=some (zb3 (e 4))
 ring:w.cell? ⟨4,0,none⟩=some (zb3 (e 5))
 arg:w.cell? ⟨5,0,none⟩=some (zb3 (e 6))
 main:w.cell? ⟨2,0,none⟩=some (zb3 (e 7))
 at_:∀ i,i<8→zcT w (e i)
 ne:∀ i j,i<8→j<8→i≠j→e i≠e j
 ety:w.cell? ⟨6,0,none⟩=some (.iface 210 (.agg #[.pointer (some ⟨13,156,none⟩)]))
theorem Err8.below {w w':World} {e:Nat→Addr} (h:Err8 w e) (hb:Below w.heap.size w w'):Err8 w' e :=
 ⟨h.four.below hb,zbI h.imp hb,zbI h.ring hb,zbI h.arg hb,zbI h.main hb,fun i hi=>(h.at_ i hi).below hb,h.ne,zbI h.ety hb⟩
theorem noIsW (v:Value) (xT:TypeId) (w:World):(Instr.typeAssert (.iface 160 v) xT 233 true).run Tryz.prog w=.ok (.tuple #[.nilIface,.bool false]) w:=run_typeAssert_lacksB Tryz.underlying233 (by kernel_rfl) (by kernel_rfl) v xT w
theorem zhM (v:Value) (xT:TypeId) (w:World):(Instr.typeAssert (.iface 160 v) xT 217 true).run Tryz.prog w=.ok (.tuple #[.iface 160 v,.bool true]) w:=run_typeAssert_hasB Tryz.underlying217 (by kernel_rfl) v xT w
theorem zeW (v : Value) (w : World) : (Go.method 389 160 v "Unwrap").run Tryz.prog w = .ok (230, v) w := by kernel_rfl
theorem zbF (p f:List UInt8) (a:Addr) (w:World) :
 Calls Tryz.prog 164 #[.iface 160 (.agg #[.string ⟨p.toArray⟩,.string ⟨f.toArray⟩,.iface 258 (.pointer (some a))]),.iface 258 (.pointer (some a))] w fun e w'=>e=.returned (.bool true)∧Below w.heap.size w w':=by
 obtain ⟨i,hi,hcmp⟩:=Option.map_eq_some_iff.1 zm0;obtain ⟨j,hj,hjs⟩:=Option.map_eq_some_iff.1 zlZ;have h8:=@run_callFunc_extern Tryz.prog 185 _ Extern.ReflectliteType.typeOf Tryz.func185 (by kernel_rfl) (by kernel_rfl) (by kernel_rfl) (by kernel_rfl);have h32:=@run_callFunc_extern Tryz.prog 241 _ cmpE Tryz.func241 (by kernel_rfl) (by kernel_rfl) (by kernel_rfl) (by kernel_rfl);have tT:=zeY;have cT:=zcZ;have mR:=zbB;have nW:=noIsW;have uW:=zhM;have mU:=zeW;have heq:∀ W:World,_:=fun W=>run_eql_iface_ptr_same (P:=Tryz.prog) W a Tryz.underlying156 Tryz.underlying258 hi hcmp hj
 have hty:∀ W:World,_:=fun W=>run_eql_iface_types (P:=Tryz.prog) 160 258 (.agg #[.string ⟨p.toArray⟩,.string ⟨f.toArray⟩,.iface 258 (.pointer (some a))]) (.pointer (some a)) Tryz.underlying156 (by decide) W
 have hbn:Below w.heap.size w (w.alloc (.cells #[.string ⟨p.toArray⟩,.string ⟨f.toArray⟩,.iface 258 (.pointer (some a))] 160)):=(Below.refl _ _).alloc (Nat.le_refl _) _
 go_enter Tryz.func164,Tryz.ntmps164
 go_wp2;refine wp_loop_rounds 2 ?_;rw [rounds_succ];go_wp2;rw [rounds_succ];go_wp2;go_ret;exact ⟨rfl,hbn⟩
theorem zak (p f:List UInt8) (a b:Addr) (w:World) (hne:a≠b) (hsa:zcT w a) (hsb:zcT w b) :
 Calls Tryz.prog 164 #[.iface 160 (.agg #[.string ⟨p.toArray⟩,.string ⟨f.toArray⟩,.iface 258 (.pointer (some a))]),.iface 258 (.pointer (some b))] w fun e w'=>e=.returned (.bool false)∧Below w.heap.size w w':=by
 have hbn:Below w.heap.size w (w.alloc (.cells #[.string ⟨p.toArray⟩,.string ⟨f.toArray⟩,.iface 258 (.pointer (some a))] 160)):=(Below.refl _ _).alloc (Nat.le_refl _) _;obtain ⟨ca,ta,ha⟩:=hsa.below hbn;obtain ⟨cb,tb,hb⟩:=hsb.below hbn;obtain ⟨i,hi,hcmp⟩:=Option.map_eq_some_iff.1 zm0;obtain ⟨j,hj,hjs⟩:=Option.map_eq_some_iff.1 zlZ;have h8:=@run_callFunc_extern Tryz.prog 185 _ Extern.ReflectliteType.typeOf Tryz.func185 (by kernel_rfl) (by kernel_rfl) (by kernel_rfl) (by kernel_rfl);have h32:=@run_callFunc_extern Tryz.prog 241 _ cmpE Tryz.func241 (by kernel_rfl) (by kernel_rfl) (by kernel_rfl) (by kernel_rfl);have tT:=zeY;have cT:=zcZ;have mR:=zbB;have nE:=noIsE;have uE:=zgB;have vE:=zfq;have nW:=noIsW;have uW:=zhM;have mU:=zeW;have heq:=run_eql_iface_ptr_other (P:=Tryz.prog) (w.alloc (.cells #[.string ⟨p.toArray⟩,.string ⟨f.toArray⟩,.iface 258 (.pointer (some a))] 160)) Tryz.underlying156 Tryz.underlying258 hi hcmp hj (by rw [hjs];decide) hne ha hb;have hty:∀ W:World,_:=fun W=>run_eql_iface_types (P:=Tryz.prog) 160 258 (.agg #[.string ⟨p.toArray⟩,.string ⟨f.toArray⟩,.iface 258 (.pointer (some a))]) (.pointer (some b)) Tryz.underlying156 (by decide) W
 clear ha hb
 go_enter Tryz.func164,Tryz.ntmps164
 go_wp2;refine wp_loop_rounds 2 ?_;rw [rounds_succ];go_wp2;rw [rounds_succ];go_wp2;go_ret;exact ⟨rfl,hbn⟩
end
end Go.Proofs.YtponeoijfaepnaaGreatDoor
