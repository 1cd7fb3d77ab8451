/-
  Parts of one proof, one behind the other: FltK, FltL, FltM.
-/
import Derived.Test.YtponeoijfaepnaaGreatDoorP36
namespace Go.Proofs.YtponeoijfaepnaaGreatDoor
open Go.RowKit
set_option maxHeartbeats 8000000
set_option maxRecDepth 100000
theorem zlW (l:List Nat):∀ u∈natV l,u.oneCell'=true:=fun u hu=>by
 obtain ⟨x,_,rfl⟩:=List.mem_map.1 hu
 rfl
theorem zpc (B:Nat) (v:Value) (l:List Nat) (w:World) (h:w.ownsRow B 3 1 v l.length (natV l)) (hlen:l.length≤1000) :
 Calls Tryz.prog 182 #[v] w fun e w'=>∃ v',e=.returned v'∧w'.ownsRow w.heap.size 3 1 v' l.length (natV l)∧Below w.heap.size w w':=by
 obtain ⟨i0,hi,hz0,hz1,hz2⟩:=info_parts info3;have hsrc:=zih h (zlW l);rcases zaR h with ⟨rfl,h0,_⟩ | ⟨g,cap,rfl⟩
 ·
  obtain rfl:l=[]:=List.eq_nil_of_length_eq_zero h0;have HO:Hid (w.ownsRow w.heap.size 3 1 (.slice none 0 0) 0 (natV [])):=World.ownsRow_nil w _ _ _;have heq:∀ V:World,(binOp .eql 163 (.slice none 0 0) (.slice none 0 0)).run Tryz.prog V=.ok (.bool true) V:=fun V=>Lib.run_eql_slice_nil V _ _ none 0 0 0 0 Tryz.underlying163
  clear h hsrc h0
  go_enter Tryz.func182,Tryz.ntmps182
  go_wp2;go_ret;exact ⟨_,rfl,HO.out,Below.refl _ _⟩
 ·
  have hbA:Below w.heap.size w (w.alloc (.cells #[] 3)):=(Below.refl _ _).alloc (Nat.le_refl _) _;have hown0:=(World.ownsRow_lit (base:=w.heap.size) (e:=3) (size:=1) w #[] 0 (Nat.le_refl _) (by decide) rfl);have hsrc2:=zih (za5 h hbA) (zlW l);obtain ⟨v',w',hrun,hown',hg,_⟩:=zar (P:=Tryz.prog) (w.alloc (.cells #[] 3)) w.heap.size 163 163 3 i0 _ 1 8 Tryz.underlying163 hi hz0 hz1 hz2 rfl (by decide) _ _ _ hown0 (.slice (some ⟨g,0,none⟩) l.length cap) l.length (natV l) hsrc2 (by unfold maxLen;omega) (by omega) (by simp);have hb:Below w.heap.size w w':=hbA.grown hg hbA.size (fun q e=>by simp [Value.ownBlock] at e;omega)
  have HO:Hid (w'.ownsRow w.heap.size 3 1 v' l.length (natV l)):=by simp only [Nat.zero_add] at hown';exact (by simpa using hown':w'.ownsRow w.heap.size 3 1 v' l.length (natV l))
  have heq:∀ V:World,(binOp .eql 163 (.slice (some ⟨g,0,none⟩) l.length cap) (.slice none 0 0)).run Tryz.prog V=.ok (.bool false) V:=fun V=>Lib.run_eql_slice_nil V _ _ (some ⟨g,0,none⟩) l.length cap 0 0 Tryz.underlying163
  clear hown' hg hown0 hbA h hsrc hsrc2
  go_enter Tryz.func182,Tryz.ntmps182
  go_wp2_with (at_builtin;refine za0 rfl (.tmp 5) (.tmp 6) 163 rfl _ _ _ rfl rfl hrun ?_;clear hrun)
  go_ret;exact ⟨v',rfl,HO.out,hb⟩
theorem zjH (B:Nat) (v:Value) (l:List Nat) (many:Nat) (w:World) (h:w.ownsRow B 3 1 v l.length (natV l)) (hlen:l.length≤8) (hmany:many≤8) :
 Calls Tryz.prog 161 #[v,.int .i64 (many:Int)] w fun e w'=>∃ v',e=.returned v'∧w'.ownsRow w.heap.size 3 1 v' (all9 l many).length (natV (all9 l many))∧Below w.heap.size w w':=by
 have HCl:Hid (_):=zpc B v l w h (by omega);obtain ⟨a,c,rfl,hin⟩:=zbA h rfl;have HIn:Hid (zdV w a l.length l):=hin;have h9:all9 l 0=l:=by simp [all9]
 clear h hin
 go_enter Tryz.func161,Tryz.ntmps161
 go_wp2_with fail
 refine Calls.mono HCl.out ?_;rintro e w1 ⟨v1,rfl,ho1,hb1⟩;obtain ⟨pa,pc,rfl,-⟩:=zbA ho1 rfl;have HO0:Hid (w1.ownsRow w.heap.size 3 1 (.slice pa l.length pc) l.length (natV (all9 l 0))):=by exact (by rw [h9];exact ho1:w1.ownsRow w.heap.size 3 1 (.slice pa l.length pc) l.length (natV (all9 l 0)))
 have HL0:Hid ((all9 l 0).length=l.length):=by exact (by rw [h9]:(all9 l 0).length=l.length)
 have HB0:Hid (Below w.heap.size w w1):=hb1;clear HCl ho1 hb1 h9;go_wp2
 go_loopw [5,10] (fun pv iv wr=>∃ (k m:Nat) (pa:Option Addr) (pc:Nat),pv=.slice pa m pc∧iv=.int .i64 (k:Int)∧k≤many∧m≤16∧Hid ((all9 l k).length=m)∧Hid (wr.ownsRow w.heap.size 3 1 (.slice pa m pc) m (natV (all9 l k)))∧Hid (Below w.heap.size w wr)) (fun _ iv _=>many-(intOf iv).toNat)
 case atStart=>exact ⟨0,l.length,_,_,rfl,rfl,by omega,by omega,HL0,HO0,HB0⟩
 case round =>
  obtain ⟨k,m,pa,pc,rfl,rfl,hk,hm16,HL,HO,HB⟩:=hrel;clear HO0 HL0 HB0;by_cases hlt:(k:Int)<(many:Int)
  ·
   have hC:=zez a l.length c l k wr (HIn.out.below HB.out) (by omega);have hsucc:=zpn l k;have hlen9:=zmk l (k+1);by_cases hkl:k∈l
   ·
    rw [decide_eq_true hkl] at hC;rw [if_pos hkl] at hsucc;have HO2:Hid (wr.ownsRow w.heap.size 3 1 (.slice pa m pc) m (natV (all9 l (k+1)))):=by exact (by rw [hsucc];exact HO.out:wr.ownsRow w.heap.size 3 1 (.slice pa m pc) m (natV (all9 l (k+1))))
    have HL2:Hid ((all9 l (k+1)).length=m):=by exact (by rw [hsucc];exact HL.out:(all9 l (k+1)).length=m)
    have HC:Hid (_):=hC;clear hsucc hkl hlen9 hC HO HL;go_wp2_with fail
    refine Calls.mono HC.out ?_;rintro e w2 ⟨rfl,hw2⟩;obtain rfl:=hw2.symm;go_wp2;go_roundw
    case rel=>exact ⟨k+1,m,pa,pc,rfl,by go_num,by omega,by omega,HL2,HO2,HB⟩
    case measure=>simp [intOf];omega
   ·
    rw [decide_eq_false hkl] at hC;rw [if_neg hkl] at hsucc;have HL2:Hid ((all9 l (k+1)).length=m+1):=by exact (by rw [hsucc,List.length_append,HL.out];rfl:(all9 l (k+1)).length=m+1)
    have hm1:m+1≤16:=by rw [HL2.out] at hlen9;omega
    obtain ⟨v',Y,hr,ho,hg,_⟩:=zeL 163 Tryz.underlying163 k HO.out HB.out.size (by omega);obtain ⟨g',c',rfl⟩:=zaw ho (by omega);rw [←hsucc] at ho;have HOY:Hid (Y.ownsRow w.heap.size 3 1 (.slice (some ⟨g',0,none⟩) (m+1) c') (m+1) (natV (all9 l (k+1)))):=ho;have HBY:Hid (Below w.heap.size w Y):=HB.out.grown hg HB.out.size (fun q e=>(HO.out.lt q e).1);have HC:Hid (_):=hC;clear hsucc hkl hlen9 hC ho hg;go_wp2_with fail
    refine Calls.mono HC.out ?_;rintro e w2 ⟨rfl,hw2⟩;obtain rfl:=hw2.symm
    go_wp2_with (at_builtin;refine za0 rfl (.tmp 17) (.tmp 19) 163 rfl _ _ _ rfl rfl hr ?_;clear hr)
    go_roundw
    case rel=>exact ⟨k+1,m+1,_,c',rfl,by go_num,by omega,by omega,HL2,HOY,HBY⟩
    case measure=>simp [intOf];omega
  ·
   obtain rfl:k=many:=by omega
   go_wp2;go_ret;exact ⟨_,rfl,by rw [HL.out];exact HO.out,HB.out⟩
theorem zl5 (a:Option Addr) (len cap:Nat) (ps:List Pk) (w:World) (h:zab w a len cap ps) :
 Calls Tryz.prog 163 #[.slice a len cap] w fun e w'=>∃ mb:Bool,e=.returned (.bool mb)∧((mb=true∧zcm ps=(0,[],[]))∨(mb=false∧zcm ps=(5,za6,za6)))∧Below w.heap.size w w':=by
 obtain rfl:ps.length=len:=h.hlen;have HP:Hid (_):=zcN a ps.length cap ps za6 w h.in h.small;obtain ⟨M9v,hM9⟩:∃ m,zcm ps=m:=⟨_,rfl⟩
 have HM:Hid (M9v=if 0≤at8 ps za6∧0≤atV (pkOf ps za6).2.2 za6∧((pkOf ps za6).2.2.getD (atV (pkOf ps za6).2.2 za6).toNat fn0).2.1=1 then (0,[],[]) else (5,za6,za6)):=hM9.symm;rw [hM9];have hsm:=h.small;clear hM9;have hmt:(⟨za6.toArray⟩:ByteArray)=⟨#[109,97,105,110]⟩:=rfl;rcases zdm ps za6 with ⟨ea,_⟩ | ⟨f,hf,ea,_,_⟩
 ·
  have HR:Hid (M9v=(5,za6,za6)):=HM.out.trans (if_neg (fun e=>by have:=e.1;omega));rw [ea,hmt] at HP;clear HM ea h
  go_enter Tryz.func163,Tryz.ntmps163
  go_wp2_with fail
  refine Calls.mono HP.out ?_;rintro e w1 ⟨rfl,hb1⟩;go_wp2;go_ret;exact ⟨_,rfl,Or.inr ⟨rfl,HR.out⟩,hb1⟩
 ·
  have hpkO:pkOf ps za6=ps.getD f pk0:=by unfold pkOf;rw [ea,Int.toNat_natCast]
  rw [hpkO] at HM;rw [ea,hmt] at HP;have hfn:((f:Int)==-1)=false:=beq_eq_false_iff_ne.2 (by omega);have hf2:(f:Int)<(ps.length:Int):=by omega
  have HI:Hid (zab w a ps.length cap ps):=h;clear h hpkO
  go_enter Tryz.func163,Tryz.ntmps163
  go_wp2_with fail
  refine Calls.mono HP.out ?_;rintro e w1 ⟨rfl,hb1⟩;have hok:=HI.out.below hb1;obtain ⟨b,off,rfl,hbl,c0,ia,il,ic,fa,fl,fc,c1,c2,hpk⟩:=hok.each f hf;have hflb:=hpk.fl;have hPl:=zcO fa fl fc (ps.getD f pk0).2.2 za6 w1 hpk.f hpk.fl;have hin:=hpk.f;obtain ⟨fs,hfs⟩:∃ fs,(ps.getD f pk0).2.2=fs:=⟨_,rfl⟩
  rw [hfs] at hPl hin HM;clear hpk hfs c0 c1 hok HP;rcases zhY fs za6 with e7 | ⟨q,hq,e7,_⟩
  ·
   have HR:Hid (M9v=(5,za6,za6)):=HM.out.trans (if_neg (fun e=>by have:=e.2.1;omega));rw [e7,hmt] at hPl;have HPl:Hid (_):=hPl;clear HM e7 hPl;go_wp2_with fail
   refine Calls.mono HPl.out ?_;rintro e w2 ⟨rfl,hb2⟩;have HB2:Hid (Below w.heap.size w w2):=hb1.trans (hb2.mono hb1.size);clear hb1 hb2;go_wp2;go_ret;exact ⟨_,rfl,Or.inr ⟨rfl,HR.out⟩,HB2.out⟩
  ·
   rw [e7,hmt] at hPl;have HPl:Hid (_):=hPl;have hqn:((q:Int) !=-1)=true:=by rw [bne_iff_ne];omega
   have hql:fs.length=fl:=hin.1;have hq2:(q:Int)<(fl:Int):=by omega
   obtain ⟨b2,o2,rfl,hb2l,r0,r1,_⟩:=hin.2 q (by omega);rw [e7,Int.toNat_natCast] at HM;obtain ⟨ag,hag⟩:∃ ag,(fs.getD q fn0).2.1=ag:=⟨_,rfl⟩
   rw [hag] at r1 HM;clear e7 hPl hag hin r0;go_wp2_with fail
   refine Calls.mono HPl.out ?_;rintro e w2 ⟨rfl,hb2⟩;have HB2:Hid (Below w.heap.size w w2):=hb1.trans (hb2.mono hb1.size);have s2:=(hb2.cell (p:=⟨b,off+f*3+2,none⟩) hbl).trans c2;have s1:=(hb2.cell (p:=⟨b2,o2+q*3+1,none⟩) hb2l).trans r1;clear hb1 hb2 c2 r1;by_cases hA:ag=1
   ·subst hA;have HR:Hid (M9v=(0,[],[])):=HM.out.trans (if_pos ⟨by omega,by omega,rfl⟩);clear HM;go_wp2;go_ret;exact ⟨_,rfl,Or.inl ⟨rfl,HR.out⟩,HB2.out⟩
   ·have hAb:(ag==1)=false:=beq_eq_false_iff_ne.2 hA;have HR:Hid (M9v=(5,za6,za6)):=HM.out.trans (if_neg (fun e=>hA e.2.2));clear HM;go_wp2;go_ret;exact ⟨_,rfl,Or.inr ⟨rfl,HR.out⟩,HB2.out⟩
def PrIs (er:Nat→Addr) (v:Value) (F:Flt):Prop:=(F=(0,[],[])∧v=.nilIface)∨(F=(6,[],[])∧v=.iface 258 (.pointer (some (er 0)))) ∨
 ∃ c p g k,F=(c,p,g)∧zi6 c k∧v=.iface 160 (.agg #[.string ⟨p.toArray⟩,.string ⟨g.toArray⟩,.iface 258 (.pointer (some (er k)))])
theorem flt_step {ps:List Pk} (hpj:zaK ps=true) {al:List Nat} (hall:zaJ ps al=ord9 ps) (hlt:∀ x∈al,x<ps.length) (dn:Nat) {j:Nat} (hj:j<al.length) :
 zc5 ps dn ((ord9 ps).drop j) j=match pk9 ps dn j (ps.getD (al.getD j 0) pk0) with
  | some f=>some f
  | none=>zc5 ps dn ((ord9 ps).drop (j+1)) (j+1):=by
 have hl:j<(ord9 ps).length:=by rw [←hall];simpa [zaJ] using hj
 rw [zhR hl];have e1:(ord9 ps).getD j []=nmAt ps (al.getD j 0):=by rw [←hall];simp [zaJ,List.getD,hj]
 rw [e1,zo8 (zaf hpj).1.nodup (hlt _ (zcc hj))];generalize pk9 ps dn j (ps.getD (al.getD j 0) pk0)=o;cases o<;>rfl
theorem zg6 (a:Option Addr) (len cap:Nat) (ps:List Pk) (er:Nat→Addr) (w:World) (hE:Err8 w er) (h:zab w a len cap ps) :
 Calls Tryz.prog 136 #[.slice a len cap] w fun e w'=>∃ v,e=.returned v∧PrIs er v (zaS ps)∧Below w.heap.size w w':=by
 obtain rfl:ps.length=len:=h.hlen;obtain ⟨F9v,hF9⟩:∃ f,zaS ps=f:=⟨_,rfl⟩
 have HF:Hid (F9v=if zaK ps=true then zaT ps else (6,[],[])):=hF9.symm;have HPj:Hid (_):=zf4 a ps.length cap ps w h;have hsm:=h.small;rw [hF9];clear hF9;rcases hpj:zaK ps with _ | _
 ·
  have HR:Hid (F9v=(6,[],[])):=HF.out.trans (if_neg (by rw [hpj];decide));rw [hpj] at HPj;have HEr:Hid (Err8 w er):=hE;clear HF hpj h hE
  go_enter Tryz.func136,Tryz.ntmps136
  go_wp2_with fail
  refine Calls.mono HPj.out ?_;rintro e w1 ⟨rfl,hb1⟩;have g0:=(HEr.out.below hb1).four.told;unfold zb3 at g0;go_wp2;go_ret;exact ⟨_,rfl,Or.inr (Or.inl ⟨HR.out,rfl⟩),hb1⟩
 ·
  have HF2:Hid (F9v=zaT ps):=HF.out.trans (if_pos hpj);have hn8:ps.length≤8:=(zaf hpj).2.1.2;have HOr:Hid (∀ Z,zab Z a ps.length cap ps→_):=fun Z hz=>zdh a ps.length cap ps Z hz hpj
  have HMn:Hid (∀ Z,zab Z a ps.length cap ps→_):=fun Z hz=>zl5 a ps.length cap ps Z hz
  have HPw:Hid (∀ (Z:World) (f:Nat) (lo:Bool) (dn i:Nat),lo=decide (dn≤i)→Err8 Z er→zab Z a ps.length cap ps→f<ps.length→_):=fun Z f lo dn i h1 h2 h3 h4=>zg7 a ps.length cap ps f lo dn i h1 er Z h2 h3 h4
  have HSt:Hid (∀ (al:List Nat),zaJ ps al=ord9 ps→(∀ x∈al,x<ps.length)→∀ (dn j:Nat),j<al.length→_):=fun al h1 h2 dn j h3=>flt_step hpj h1 h2 dn h3
  have HNm:Hid (∀ out,zaJ ps out=zaz ps→(∀ x∈out,x<ps.length)→zaJ ps (all9 out ps.length)=ord9 ps):=fun out h1 h2=>znp hpj h1 h2
  have HI:Hid (zab w a ps.length cap ps):=h;have HEr:Hid (Err8 w er):=hE;rw [hpj] at HPj;clear HF hpj h hE
  go_enter Tryz.func136,Tryz.ntmps136
  go_wp2_with fail
  refine Calls.mono HPj.out ?_;rintro e w1 ⟨rfl,hb1⟩;have HB1:Hid (Below w.heap.size w w1):=hb1;clear hb1 HPj;go_wp2_with fail
  refine Calls.mono (HOr.out _ (HI.out.below HB1.out)) ?_;rintro e w2 ⟨v2,rfl,out,ho2,hnm,hlt,hl8,hb2⟩;have HB2:Hid (Below w.heap.size w w2):=HB1.out.trans (hb2.mono HB1.out.size);have HWl:Hid (_):=zjH w1.heap.size v2 out ps.length w2 ho2 hl8 hn8;obtain ⟨oa,oc,rfl,-⟩:=zbA ho2 rfl;have HLt:Hid (∀ x∈all9 out ps.length,x<ps.length):=all9_lt hlt;have HNa:Hid (zaJ ps (all9 out ps.length)=ord9 ps):=HNm.out out hnm hlt;have hdn:(zaz ps).length=out.length:=by rw [←hnm];simp [zaJ]
  have HF3:Hid (F9v=match zc5 ps out.length ((ord9 ps).drop 0) 0 with | some f=>f | none=>zcm ps):=by exact (by rw [HF2.out];unfold zaT;rw [hdn];rfl:F9v=match zc5 ps out.length ((ord9 ps).drop 0) 0 with | some f=>f | none=>zcm ps)
  have HStp:Hid (∀ j,j<(all9 out ps.length).length→_):=fun j hj=>HSt.out (all9 out ps.length) HNa.out HLt.out out.length j hj
  have hal:=zmk out ps.length;have HAl:Hid (zaJ ps (all9 out ps.length)=ord9 ps):=HNa;obtain ⟨al,hale⟩:∃ al,all9 out ps.length=al:=⟨_,rfl⟩
  rw [hale] at HWl HLt HStp hal HAl;clear hnm hlt ho2 hb2 HOr HSt HNm HF2 hdn HNa hale HB1;go_wp2_with fail
  refine Calls.mono HWl.out ?_;rintro e V ⟨v3,rfl,ho3,hb3⟩;obtain ⟨pa,pc,rfl,hin⟩:=zbA ho3 rfl
  have HZ:Hid (∀ Z,Below V.heap.size V Z→zdV Z pa al.length al∧Err8 Z er∧zab Z a ps.length cap ps∧Below w.heap.size w Z):=fun Z hz =>
   have hb:=HB2.out.trans (hb3.mono HB2.out.size);have hbz:=hb.trans (hz.mono hb.size)
   ⟨hin.below hz,HEr.out.below hbz,HI.out.below hbz,hbz⟩
  have HB:Hid (Below V.heap.size V V):=Below.refl _ _;clear ho3 hb3 hin HWl HI HEr HB2;go_wp2
  go_loopw [18] (fun iv wr=>∃ j:Nat,iv=.int .i64 (j:Int)∧j≤al.length∧Hid (F9v=match zc5 ps out.length ((ord9 ps).drop j) j with | some f=>f | none=>zcm ps)∧Hid (Below V.heap.size V wr)) (fun iv _=>al.length-(intOf iv).toNat)
  case atStart=>exact ⟨0,rfl,by omega,HF3,HB⟩
  case round =>
   obtain ⟨j,rfl,hj,HA,HBr⟩:=hrel;clear HF3 HB;obtain ⟨hin,hEr,hokr,hbw⟩:=HZ.out wr HBr.out;by_cases hlt:(j:Int)<(al.length:Int)
   ·
    have hj2:j<al.length:=by omega
    obtain ⟨bt,ot,rfl,hbt,k0⟩:=hin.2 j hj2;have hfx:=HLt.out _ (zcc hj2);have hst:=HStp.out j hj2;obtain ⟨f,hf⟩:∃ f,al.getD j 0=f:=⟨_,rfl⟩
    rw [hf] at k0 hfx hst;have HC:Hid (_):=HPw.out wr f (decide (out.length≤j)) out.length j rfl hEr hokr hfx;obtain ⟨o9,ho9⟩:∃ o,pk9 ps out.length j (ps.getD f pk0)=o:=⟨_,rfl⟩
    rw [ho9] at HC hst;have HSj:Hid (_):=hst;clear hin hEr hokr hbw hf ho9 hst hfx;go_wp2_with fail
    refine Calls.mono HC.out ?_;rintro e w4 ⟨v4,rfl,hv,hb4⟩;have HB4:Hid (Below V.heap.size V w4):=HBr.out.trans (hb4.mono HBr.out.size);clear hb4 HC HBr k0;rcases hv with ⟨rfl,rfl⟩ | ⟨c,p,g,ck,rfl,hck,rfl⟩
    ·
     have HA2:Hid (F9v=match zc5 ps out.length ((ord9 ps).drop (j+1)) (j+1) with | some f=>f | none=>zcm ps):=by exact (by rw [HA.out,HSj.out]:F9v=match zc5 ps out.length ((ord9 ps).drop (j+1)) (j+1) with | some f=>f | none=>zcm ps)
     clear HA HSj;go_wp2;go_roundw
     case rel=>exact ⟨j+1,by go_num,by omega,HA2,HB4⟩
     case measure=>simp [intOf];omega
    ·
     have HR:Hid (F9v=(c,p,g)):=by exact (by rw [HA.out,HSj.out]:F9v=(c,p,g))
     have HK:Hid (zi6 c ck):=hck;have HBW:Hid (Below w.heap.size w w4):=(HZ.out w4 HB4.out).2.2.2;clear HA HSj hck;go_wp2;go_ret;exact ⟨_,rfl,Or.inr (Or.inr ⟨c,p,g,ck,HR.out,HK.out,rfl⟩),HBW.out⟩
   ·
    have hlo:(ord9 ps).length=al.length:=by rw [←HAl.out];simp [zaJ]
    have HMa:Hid (F9v=zcm ps):=by exact (by rw [HA.out,List.drop_of_length_le (by omega)];rfl:F9v=zcm ps)
    have HC:Hid (_):=HMn.out wr hokr;clear HA hlo hin hEr hokr hbw;go_wp2_with fail
    refine Calls.mono HC.out ?_;rintro e w4 ⟨mb,rfl,hmb,hb4⟩;have HB4:Hid (Below V.heap.size V w4):=HBr.out.trans (hb4.mono HBr.out.size);have HBW:Hid (Below w.heap.size w w4):=(HZ.out w4 HB4.out).2.2.2;have gm:=(HZ.out w4 HB4.out).2.1.main;unfold zb3 at gm;clear hb4 HC;rcases hmb with ⟨rfl,hm9⟩ | ⟨rfl,hm9⟩
    ·have HR:Hid (F9v=(0,[],[])):=HMa.out.trans hm9;clear HMa hm9;go_wp2;go_ret;exact ⟨_,rfl,Or.inl ⟨HR.out,rfl⟩,HBW.out⟩
    ·have HR:Hid (F9v=(5,za6,za6)):=HMa.out.trans hm9;clear HMa hm9;go_wp2;go_ret;exact ⟨_,rfl,Or.inr (Or.inr ⟨5,za6,za6,7,HR.out,Or.inr (Or.inr (Or.inr (Or.inr ⟨rfl,rfl⟩))),rfl⟩),HBW.out⟩
theorem zk8 (p g:List UInt8) (er:Nat→Addr) (w:World) (hE:Err8 w er) :
 Calls Tryz.prog 165 #[.iface 160 (.agg #[.string ⟨p.toArray⟩,.string ⟨g.toArray⟩,.iface 258 (.pointer (some (er 1)))])] w fun e w'=>e=.returned (.int .i64 1)∧Below w.heap.size w w':=by
 have HE:Hid (Err8 w er):=hE;have HB:Hid (Below w.heap.size w w):=Below.refl _ _;clear hE
 go_enter Tryz.func165,Tryz.ntmps165
 have g1:=HE.out.four.far;unfold zb3 at g1;go_wp2_with fail
 refine Calls.mono (zbF p g (er 1) _) ?_;rintro e w1 ⟨rfl,hb1⟩;replace HB:Hid (Below w.heap.size w w1):=HB.out.trans (hb1.mono HB.out.size);replace HE:Hid (Err8 w1 er):=HE.out.below hb1;clear hb1 g1;go_wp2;go_ret;exact ⟨rfl,HB.out⟩
theorem zk7 (p g:List UInt8) (er:Nat→Addr) (w:World) (hE:Err8 w er) :
 Calls Tryz.prog 165 #[.iface 160 (.agg #[.string ⟨p.toArray⟩,.string ⟨g.toArray⟩,.iface 258 (.pointer (some (er 2)))])] w fun e w'=>e=.returned (.int .i64 2)∧Below w.heap.size w w':=by
 have HE:Hid (Err8 w er):=hE;have HB:Hid (Below w.heap.size w w):=Below.refl _ _;clear hE
 go_enter Tryz.func165,Tryz.ntmps165
 have g1:=HE.out.four.far;unfold zb3 at g1;go_wp2_with fail
 refine Calls.mono (zak p g (er 2) (er 1) _ (HE.out.ne 2 1 (by decide) (by decide) (by decide)) (HE.out.at_ 2 (by decide)) (HE.out.at_ 1 (by decide))) ?_;rintro e w1 ⟨rfl,hb1⟩;replace HB:Hid (Below w.heap.size w w1):=HB.out.trans (hb1.mono HB.out.size);replace HE:Hid (Err8 w1 er):=HE.out.below hb1;clear hb1 g1;have g2:=HE.out.four.func;unfold zb3 at g2;go_wp2_with fail
 refine Calls.mono (zbF p g (er 2) _) ?_;rintro e w2 ⟨rfl,hb2⟩;replace HB:Hid (Below w.heap.size w w2):=HB.out.trans (hb2.mono HB.out.size);replace HE:Hid (Err8 w2 er):=HE.out.below hb2;clear hb2 g2;go_wp2;go_ret;exact ⟨rfl,HB.out⟩
theorem zk6 (p g:List UInt8) (er:Nat→Addr) (w:World) (hE:Err8 w er) :
 Calls Tryz.prog 165 #[.iface 160 (.agg #[.string ⟨p.toArray⟩,.string ⟨g.toArray⟩,.iface 258 (.pointer (some (er 3)))])] w fun e w'=>e=.returned (.int .i64 3)∧Below w.heap.size w w':=by
 have HE:Hid (Err8 w er):=hE;have HB:Hid (Below w.heap.size w w):=Below.refl _ _;clear hE
 go_enter Tryz.func165,Tryz.ntmps165
 have g1:=HE.out.four.far;unfold zb3 at g1;go_wp2_with fail
 refine Calls.mono (zak p g (er 3) (er 1) _ (HE.out.ne 3 1 (by decide) (by decide) (by decide)) (HE.out.at_ 3 (by decide)) (HE.out.at_ 1 (by decide))) ?_;rintro e w1 ⟨rfl,hb1⟩;replace HB:Hid (Below w.heap.size w w1):=HB.out.trans (hb1.mono HB.out.size);replace HE:Hid (Err8 w1 er):=HE.out.below hb1;clear hb1 g1;have g2:=HE.out.four.func;unfold zb3 at g2;go_wp2_with fail
 refine Calls.mono (zak p g (er 3) (er 2) _ (HE.out.ne 3 2 (by decide) (by decide) (by decide)) (HE.out.at_ 3 (by decide)) (HE.out.at_ 2 (by decide))) ?_;rintro e w2 ⟨rfl,hb2⟩;replace HB:Hid (Below w.heap.size w w2):=HB.out.trans (hb2.mono HB.out.size);replace HE:Hid (Err8 w2 er):=HE.out.below hb2;clear hb2 g2;have g3:=HE.out.four.count;unfold zb3 at g3;go_wp2_with fail
 refine Calls.mono (zbF p g (er 3) _) ?_;rintro e w3 ⟨rfl,hb3⟩;replace HB:Hid (Below w.heap.size w w3):=HB.out.trans (hb3.mono HB.out.size);replace HE:Hid (Err8 w3 er):=HE.out.below hb3;clear hb3 g3;go_wp2;go_ret;exact ⟨rfl,HB.out⟩
theorem ziN (p g:List UInt8) (er:Nat→Addr) (w:World) (hE:Err8 w er) :
 Calls Tryz.prog 137 #[.iface 160 (.agg #[.string ⟨p.toArray⟩,.string ⟨g.toArray⟩,.iface 258 (.pointer (some (er 4)))])] w fun e w'=>e=.returned (.int .i64 1)∧Below w.heap.size w w':=by
 have HE:Hid (Err8 w er):=hE;have HB:Hid (Below w.heap.size w w):=Below.refl _ _;clear hE
 go_enter Tryz.func137,Tryz.ntmps137
 have g1:=HE.out.imp;unfold zb3 at g1;go_wp2_with fail
 refine Calls.mono (zbF p g (er 4) _) ?_;rintro e w1 ⟨rfl,hb1⟩;replace HB:Hid (Below w.heap.size w w1):=HB.out.trans (hb1.mono HB.out.size);replace HE:Hid (Err8 w1 er):=HE.out.below hb1;clear hb1 g1;go_wp2;go_ret;exact ⟨rfl,HB.out⟩
theorem ziM (p g:List UInt8) (er:Nat→Addr) (w:World) (hE:Err8 w er) :
 Calls Tryz.prog 137 #[.iface 160 (.agg #[.string ⟨p.toArray⟩,.string ⟨g.toArray⟩,.iface 258 (.pointer (some (er 5)))])] w fun e w'=>e=.returned (.int .i64 2)∧Below w.heap.size w w':=by
 have HE:Hid (Err8 w er):=hE;have HB:Hid (Below w.heap.size w w):=Below.refl _ _;clear hE
 go_enter Tryz.func137,Tryz.ntmps137
 have g1:=HE.out.imp;unfold zb3 at g1;go_wp2_with fail
 refine Calls.mono (zak p g (er 5) (er 4) _ (HE.out.ne 5 4 (by decide) (by decide) (by decide)) (HE.out.at_ 5 (by decide)) (HE.out.at_ 4 (by decide))) ?_;rintro e w1 ⟨rfl,hb1⟩;replace HB:Hid (Below w.heap.size w w1):=HB.out.trans (hb1.mono HB.out.size);replace HE:Hid (Err8 w1 er):=HE.out.below hb1;clear hb1 g1;have g2:=HE.out.ring;unfold zb3 at g2;go_wp2_with fail
 refine Calls.mono (zbF p g (er 5) _) ?_;rintro e w2 ⟨rfl,hb2⟩;replace HB:Hid (Below w.heap.size w w2):=HB.out.trans (hb2.mono HB.out.size);replace HE:Hid (Err8 w2 er):=HE.out.below hb2;clear hb2 g2;go_wp2;go_ret;exact ⟨rfl,HB.out⟩
theorem ziL (p g:List UInt8) (er:Nat→Addr) (w:World) (hE:Err8 w er) :
 Calls Tryz.prog 137 #[.iface 160 (.agg #[.string ⟨p.toArray⟩,.string ⟨g.toArray⟩,.iface 258 (.pointer (some (er 6)))])] w fun e w'=>e=.returned (.int .i64 3)∧Below w.heap.size w w':=by
 have HE:Hid (Err8 w er):=hE;have HB:Hid (Below w.heap.size w w):=Below.refl _ _;clear hE
 go_enter Tryz.func137,Tryz.ntmps137
 have g1:=HE.out.imp;unfold zb3 at g1;go_wp2_with fail
 refine Calls.mono (zak p g (er 6) (er 4) _ (HE.out.ne 6 4 (by decide) (by decide) (by decide)) (HE.out.at_ 6 (by decide)) (HE.out.at_ 4 (by decide))) ?_;rintro e w1 ⟨rfl,hb1⟩;replace HB:Hid (Below w.heap.size w w1):=HB.out.trans (hb1.mono HB.out.size);replace HE:Hid (Err8 w1 er):=HE.out.below hb1;clear hb1 g1;have g2:=HE.out.ring;unfold zb3 at g2;go_wp2_with fail
 refine Calls.mono (zak p g (er 6) (er 5) _ (HE.out.ne 6 5 (by decide) (by decide) (by decide)) (HE.out.at_ 6 (by decide)) (HE.out.at_ 5 (by decide))) ?_;rintro e w2 ⟨rfl,hb2⟩;replace HB:Hid (Below w.heap.size w w2):=HB.out.trans (hb2.mono HB.out.size);replace HE:Hid (Err8 w2 er):=HE.out.below hb2;clear hb2 g2;have g3:=HE.out.arg;unfold zb3 at g3;go_wp2_with fail
 refine Calls.mono (zbF p g (er 6) _) ?_;rintro e w3 ⟨rfl,hb3⟩;replace HB:Hid (Below w.heap.size w w3):=HB.out.trans (hb3.mono HB.out.size);replace HE:Hid (Err8 w3 er):=HE.out.below hb3;clear hb3 g3;go_wp2;go_ret;exact ⟨rfl,HB.out⟩
theorem ziK (p g:List UInt8) (er:Nat→Addr) (w:World) (hE:Err8 w er) :
 Calls Tryz.prog 137 #[.iface 160 (.agg #[.string ⟨p.toArray⟩,.string ⟨g.toArray⟩,.iface 258 (.pointer (some (er 7)))])] w fun e w'=>e=.returned (.int .i64 5)∧Below w.heap.size w w':=by
 have HE:Hid (Err8 w er):=hE;have HB:Hid (Below w.heap.size w w):=Below.refl _ _;clear hE
 go_enter Tryz.func137,Tryz.ntmps137
 have g1:=HE.out.imp;unfold zb3 at g1;go_wp2_with fail
 refine Calls.mono (zak p g (er 7) (er 4) _ (HE.out.ne 7 4 (by decide) (by decide) (by decide)) (HE.out.at_ 7 (by decide)) (HE.out.at_ 4 (by decide))) ?_;rintro e w1 ⟨rfl,hb1⟩;replace HB:Hid (Below w.heap.size w w1):=HB.out.trans (hb1.mono HB.out.size);replace HE:Hid (Err8 w1 er):=HE.out.below hb1;clear hb1 g1;have g2:=HE.out.ring;unfold zb3 at g2;go_wp2_with fail
 refine Calls.mono (zak p g (er 7) (er 5) _ (HE.out.ne 7 5 (by decide) (by decide) (by decide)) (HE.out.at_ 7 (by decide)) (HE.out.at_ 5 (by decide))) ?_;rintro e w2 ⟨rfl,hb2⟩;replace HB:Hid (Below w.heap.size w w2):=HB.out.trans (hb2.mono HB.out.size);replace HE:Hid (Err8 w2 er):=HE.out.below hb2;clear hb2 g2;have g3:=HE.out.arg;unfold zb3 at g3;go_wp2_with fail
 refine Calls.mono (zak p g (er 7) (er 6) _ (HE.out.ne 7 6 (by decide) (by decide) (by decide)) (HE.out.at_ 7 (by decide)) (HE.out.at_ 6 (by decide))) ?_;rintro e w3 ⟨rfl,hb3⟩;replace HB:Hid (Below w.heap.size w w3):=HB.out.trans (hb3.mono HB.out.size);replace HE:Hid (Err8 w3 er):=HE.out.below hb3;clear hb3 g3;have g4:=HE.out.main;unfold zb3 at g4;go_wp2_with fail
 refine Calls.mono (zbF p g (er 7) _) ?_;rintro e w4 ⟨rfl,hb4⟩;replace HB:Hid (Below w.heap.size w w4):=HB.out.trans (hb4.mono HB.out.size);replace HE:Hid (Err8 w4 er):=HE.out.below hb4;clear hb4 g4;go_wp2;go_ret;exact ⟨rfl,HB.out⟩
theorem ziQ (p g:List UInt8) (er:Nat→Addr) (w:World) (hE:Err8 w er) :
 Calls Tryz.prog 137 #[.iface 160 (.agg #[.string ⟨p.toArray⟩,.string ⟨g.toArray⟩,.iface 258 (.pointer (some (er 1)))])] w fun e w'=>e=.returned (.int .i64 4)∧Below w.heap.size w w':=by
 have HE:Hid (Err8 w er):=hE;have HB:Hid (Below w.heap.size w w):=Below.refl _ _;clear hE
 go_enter Tryz.func137,Tryz.ntmps137
 have g1:=HE.out.imp;unfold zb3 at g1;go_wp2_with fail
 refine Calls.mono (zak p g (er 1) (er 4) _ (HE.out.ne 1 4 (by decide) (by decide) (by decide)) (HE.out.at_ 1 (by decide)) (HE.out.at_ 4 (by decide))) ?_;rintro e w1 ⟨rfl,hb1⟩;replace HB:Hid (Below w.heap.size w w1):=HB.out.trans (hb1.mono HB.out.size);replace HE:Hid (Err8 w1 er):=HE.out.below hb1;clear hb1 g1;have g2:=HE.out.ring;unfold zb3 at g2;go_wp2_with fail
 refine Calls.mono (zak p g (er 1) (er 5) _ (HE.out.ne 1 5 (by decide) (by decide) (by decide)) (HE.out.at_ 1 (by decide)) (HE.out.at_ 5 (by decide))) ?_;rintro e w2 ⟨rfl,hb2⟩;replace HB:Hid (Below w.heap.size w w2):=HB.out.trans (hb2.mono HB.out.size);replace HE:Hid (Err8 w2 er):=HE.out.below hb2;clear hb2 g2;have g3:=HE.out.arg;unfold zb3 at g3;go_wp2_with fail
 refine Calls.mono (zak p g (er 1) (er 6) _ (HE.out.ne 1 6 (by decide) (by decide) (by decide)) (HE.out.at_ 1 (by decide)) (HE.out.at_ 6 (by decide))) ?_;rintro e w3 ⟨rfl,hb3⟩;replace HB:Hid (Below w.heap.size w w3):=HB.out.trans (hb3.mono HB.out.size);replace HE:Hid (Err8 w3 er):=HE.out.below hb3;clear hb3 g3;have g4:=HE.out.main;unfold zb3 at g4;go_wp2_with fail
 refine Calls.mono (zak p g (er 1) (er 7) _ (HE.out.ne 1 7 (by decide) (by decide) (by decide)) (HE.out.at_ 1 (by decide)) (HE.out.at_ 7 (by decide))) ?_;rintro e w4 ⟨rfl,hb4⟩;replace HB:Hid (Below w.heap.size w w4):=HB.out.trans (hb4.mono HB.out.size);replace HE:Hid (Err8 w4 er):=HE.out.below hb4;clear hb4 g4;go_wp2_with fail
 refine Calls.mono (zk8 p g er _ HE.out) ?_;rintro e w5 ⟨rfl,hb5⟩;replace HB:Hid (Below w.heap.size w w5):=HB.out.trans (hb5.mono HB.out.size);clear hb5;go_wp2;go_ret;exact ⟨rfl,HB.out⟩
theorem ziP (p g:List UInt8) (er:Nat→Addr) (w:World) (hE:Err8 w er) :
 Calls Tryz.prog 137 #[.iface 160 (.agg #[.string ⟨p.toArray⟩,.string ⟨g.toArray⟩,.iface 258 (.pointer (some (er 2)))])] w fun e w'=>e=.returned (.int .i64 4)∧Below w.heap.size w w':=by
 have HE:Hid (Err8 w er):=hE;have HB:Hid (Below w.heap.size w w):=Below.refl _ _;clear hE
 go_enter Tryz.func137,Tryz.ntmps137
 have g1:=HE.out.imp;unfold zb3 at g1;go_wp2_with fail
 refine Calls.mono (zak p g (er 2) (er 4) _ (HE.out.ne 2 4 (by decide) (by decide) (by decide)) (HE.out.at_ 2 (by decide)) (HE.out.at_ 4 (by decide))) ?_;rintro e w1 ⟨rfl,hb1⟩;replace HB:Hid (Below w.heap.size w w1):=HB.out.trans (hb1.mono HB.out.size);replace HE:Hid (Err8 w1 er):=HE.out.below hb1;clear hb1 g1;have g2:=HE.out.ring;unfold zb3 at g2;go_wp2_with fail
 refine Calls.mono (zak p g (er 2) (er 5) _ (HE.out.ne 2 5 (by decide) (by decide) (by decide)) (HE.out.at_ 2 (by decide)) (HE.out.at_ 5 (by decide))) ?_;rintro e w2 ⟨rfl,hb2⟩;replace HB:Hid (Below w.heap.size w w2):=HB.out.trans (hb2.mono HB.out.size);replace HE:Hid (Err8 w2 er):=HE.out.below hb2;clear hb2 g2;have g3:=HE.out.arg;unfold zb3 at g3;go_wp2_with fail
 refine Calls.mono (zak p g (er 2) (er 6) _ (HE.out.ne 2 6 (by decide) (by decide) (by decide)) (HE.out.at_ 2 (by decide)) (HE.out.at_ 6 (by decide))) ?_;rintro e w3 ⟨rfl,hb3⟩;replace HB:Hid (Below w.heap.size w w3):=HB.out.trans (hb3.mono HB.out.size);replace HE:Hid (Err8 w3 er):=HE.out.below hb3;clear hb3 g3;have g4:=HE.out.main;unfold zb3 at g4;go_wp2_with fail
 refine Calls.mono (zak p g (er 2) (er 7) _ (HE.out.ne 2 7 (by decide) (by decide) (by decide)) (HE.out.at_ 2 (by decide)) (HE.out.at_ 7 (by decide))) ?_;rintro e w4 ⟨rfl,hb4⟩;replace HB:Hid (Below w.heap.size w w4):=HB.out.trans (hb4.mono HB.out.size);replace HE:Hid (Err8 w4 er):=HE.out.below hb4;clear hb4 g4;go_wp2_with fail
 refine Calls.mono (zk7 p g er _ HE.out) ?_;rintro e w5 ⟨rfl,hb5⟩;replace HB:Hid (Below w.heap.size w w5):=HB.out.trans (hb5.mono HB.out.size);clear hb5;go_wp2;go_ret;exact ⟨rfl,HB.out⟩
theorem ziO (p g:List UInt8) (er:Nat→Addr) (w:World) (hE:Err8 w er) :
 Calls Tryz.prog 137 #[.iface 160 (.agg #[.string ⟨p.toArray⟩,.string ⟨g.toArray⟩,.iface 258 (.pointer (some (er 3)))])] w fun e w'=>e=.returned (.int .i64 4)∧Below w.heap.size w w':=by
 have HE:Hid (Err8 w er):=hE;have HB:Hid (Below w.heap.size w w):=Below.refl _ _;clear hE
 go_enter Tryz.func137,Tryz.ntmps137
 have g1:=HE.out.imp;unfold zb3 at g1;go_wp2_with fail
 refine Calls.mono (zak p g (er 3) (er 4) _ (HE.out.ne 3 4 (by decide) (by decide) (by decide)) (HE.out.at_ 3 (by decide)) (HE.out.at_ 4 (by decide))) ?_;rintro e w1 ⟨rfl,hb1⟩;replace HB:Hid (Below w.heap.size w w1):=HB.out.trans (hb1.mono HB.out.size);replace HE:Hid (Err8 w1 er):=HE.out.below hb1;clear hb1 g1;have g2:=HE.out.ring;unfold zb3 at g2;go_wp2_with fail
 refine Calls.mono (zak p g (er 3) (er 5) _ (HE.out.ne 3 5 (by decide) (by decide) (by decide)) (HE.out.at_ 3 (by decide)) (HE.out.at_ 5 (by decide))) ?_;rintro e w2 ⟨rfl,hb2⟩;replace HB:Hid (Below w.heap.size w w2):=HB.out.trans (hb2.mono HB.out.size);replace HE:Hid (Err8 w2 er):=HE.out.below hb2;clear hb2 g2;have g3:=HE.out.arg;unfold zb3 at g3;go_wp2_with fail
 refine Calls.mono (zak p g (er 3) (er 6) _ (HE.out.ne 3 6 (by decide) (by decide) (by decide)) (HE.out.at_ 3 (by decide)) (HE.out.at_ 6 (by decide))) ?_;rintro e w3 ⟨rfl,hb3⟩;replace HB:Hid (Below w.heap.size w w3):=HB.out.trans (hb3.mono HB.out.size);replace HE:Hid (Err8 w3 er):=HE.out.below hb3;clear hb3 g3;have g4:=HE.out.main;unfold zb3 at g4;go_wp2_with fail
 refine Calls.mono (zak p g (er 3) (er 7) _ (HE.out.ne 3 7 (by decide) (by decide) (by decide)) (HE.out.at_ 3 (by decide)) (HE.out.at_ 7 (by decide))) ?_;rintro e w4 ⟨rfl,hb4⟩;replace HB:Hid (Below w.heap.size w w4):=HB.out.trans (hb4.mono HB.out.size);replace HE:Hid (Err8 w4 er):=HE.out.below hb4;clear hb4 g4;go_wp2_with fail
 refine Calls.mono (zk6 p g er _ HE.out) ?_;rintro e w5 ⟨rfl,hb5⟩;replace HB:Hid (Below w.heap.size w w5):=HB.out.trans (hb5.mono HB.out.size);clear hb5;go_wp2;go_ret;exact ⟨rfl,HB.out⟩
theorem zk5 (er:Nat→Addr) (w:World) (hE:Err8 w er) :
 Calls Tryz.prog 137 #[.iface 258 (.pointer (some (er 0)))] w fun e w'=>e=.returned (.int .i64 6)∧Below w.heap.size w w':=by
 have HE:Hid (Err8 w er):=hE;have hC:=zhk (-1) er w hE.four ⟨by decide,by decide⟩;have hv:cwV er (-1)=.iface 258 (.pointer (some (er 0))):=rfl;rw [hv] at hC;have HC:Hid (_):=hC;clear hE hC hv
 go_enter Tryz.func137,Tryz.ntmps137
 have g1:=HE.out.imp;unfold zb3 at g1;go_wp2_with fail
 refine Calls.mono (zcg (er 0) (er 4) _ (HE.out.ne 0 4 (by decide) (by decide) (by decide)) (HE.out.at_ 0 (by decide)) (HE.out.at_ 4 (by decide))) ?_;rintro e w1 ⟨rfl,hw1⟩;obtain rfl:=hw1.symm;clear hw1 g1;have g2:=HE.out.ring;unfold zb3 at g2;go_wp2_with fail
 refine Calls.mono (zcg (er 0) (er 5) _ (HE.out.ne 0 5 (by decide) (by decide) (by decide)) (HE.out.at_ 0 (by decide)) (HE.out.at_ 5 (by decide))) ?_;rintro e w2 ⟨rfl,hw2⟩;obtain rfl:=hw2.symm;clear hw2 g2;have g3:=HE.out.arg;unfold zb3 at g3;go_wp2_with fail
 refine Calls.mono (zcg (er 0) (er 6) _ (HE.out.ne 0 6 (by decide) (by decide) (by decide)) (HE.out.at_ 0 (by decide)) (HE.out.at_ 6 (by decide))) ?_;rintro e w3 ⟨rfl,hw3⟩;obtain rfl:=hw3.symm;clear hw3 g3;have g4:=HE.out.main;unfold zb3 at g4;go_wp2_with fail
 refine Calls.mono (zcg (er 0) (er 7) _ (HE.out.ne 0 7 (by decide) (by decide) (by decide)) (HE.out.at_ 0 (by decide)) (HE.out.at_ 7 (by decide))) ?_;rintro e w4 ⟨rfl,hw4⟩;obtain rfl:=hw4.symm;clear hw4 g4;go_wp2_with fail
 refine Calls.mono HC.out ?_;rintro e w5 ⟨rfl,hw5⟩;obtain rfl:=hw5.symm;go_wp2;go_ret;exact ⟨rfl,Below.refl _ _⟩
theorem zgM (c:Int) (k:Nat) (hk:zi6 c k) (p g:List UInt8) (er:Nat→Addr) (w:World) (hE:Err8 w er) :
 Calls Tryz.prog 137 #[.iface 160 (.agg #[.string ⟨p.toArray⟩,.string ⟨g.toArray⟩,.iface 258 (.pointer (some (er k)))])] w fun e w'=>e=.returned (.int .i64 c)∧Below w.heap.size w w':=by
 rcases hk with ⟨rfl,rfl⟩ | ⟨rfl,rfl⟩ | ⟨rfl,rfl⟩ | ⟨rfl,h1,h3⟩ | ⟨rfl,rfl⟩
 ·exact ziN p g er w hE
 ·exact ziM p g er w hE
 ·exact ziL p g er w hE
 ·
  rcases (show k=1∨k=2∨k=3 by omega) with rfl | rfl | rfl
  ·exact ziQ p g er w hE
  ·exact ziP p g er w hE
  ·exact ziO p g er w hE
 ·exact ziK p g er w hE
end Go.Proofs.YtponeoijfaepnaaGreatDoor
