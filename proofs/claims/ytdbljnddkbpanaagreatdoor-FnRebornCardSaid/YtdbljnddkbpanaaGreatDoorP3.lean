/-
  Parts of one proof, one behind the other: TextS3, Turned, TextS4, TextS5, TreeS.
-/
import Derived.Test.YtdbljnddkbpanaaGreatDoorP2
import Derived.Test.YtdbljnddkbpanaaGreatDoorRows
import Derived.Test.YtdbljnddkbpanaaGreatDoorP1
import Derived.WalkKit
import Derived.WalkLawsBesides
import Derived.Laws.IdiomStrings
import Derived.Laws.Concat
import Derived.OpenShut
import Derived.Handy
namespace Go.Proofs.YtdbljnddkbpanaaGreatDoor
open Go.RowKit
def zc4 (t:List UInt8) (i k:Nat):Nat:=valL ((t.drop i).take (k-i))
theorem zgr (t:List UInt8) (i:Nat):zc4 t i i=0:=by simp [zc4,valL]
theorem zhK (t:List UInt8) (i k:Nat) (hi:i≤k) (hk:k<t.length):zc4 t i (k+1)=zc4 t i k*10+(t[k].toNat-48):=by
 unfold zc4
 rw [zjf t i k hi hk,zdQ]
theorem znZ (t:List UInt8) (i:Nat):zc4 t i t.length=valL (t.drop i):=by
 unfold zc4
 rw [List.take_of_length_le (by rw [List.length_drop];omega)]
theorem zm8 (t:List UInt8) (i k:Nat) (hi:i≤k) (hk:k≤t.length) (h10:t.length-i≤10) (h:∀ j (hj:j<t.length),i≤j→j<k→zbe t[j]):zc4 t i k<10000000000:=by
 unfold zc4
 have hd:∀ c∈(t.drop i).take (k-i),zbe c:=by
  intro c hc
  obtain ⟨j,hj,rfl⟩:=List.getElem_of_mem hc
  rw [List.length_take,List.length_drop] at hj
  rw [List.getElem_take,List.getElem_drop]
  exact h (i+j) (by omega) (by omega) (by omega)
 have h1:=zkW _ hd
 have h2:((t.drop i).take (k-i)).length≤10:=by rw [List.length_take,List.length_drop];omega
 have h3:(10:Nat) ^ ((t.drop i).take (k-i)).length≤10 ^ 10:=Nat.pow_le_pow_right (by omega) h2
 omega
theorem zkL (t:List UInt8) (i:Nat) (hi:(negB t=true∧i=1)∨(negB t=false∧i=0)):zaG t=t.drop i:=by
 unfold zaG
 rcases hi with ⟨h,rfl⟩ | ⟨h,rfl⟩
 ·
  rw [if_pos h];simp
 ·
  rw [if_neg (by rw [h];simp)];simp
theorem zfF {t:List UInt8} {i:Nat} (hi:zaG t=t.drop i) (h:¬(1≤t.length-i∧t.length-i≤10)):¬zex t:=fun hf=>by
 have:=hf.1
 rw [hi,List.length_drop] at this
 exact h this
theorem zem {t:List UInt8} {i k:Nat} (hi:zaG t=t.drop i) (hik:i≤k) (hk:k<t.length) (h:¬zbe t[k]):¬zex t:=fun hf=>by
 refine h (hf.2.1 t[k] ?_)
 rw [hi,List.mem_iff_getElem]
 exact ⟨k-i,by rw [List.length_drop];omega,by rw [List.getElem_drop];congr 1;omega⟩
theorem zkt {t:List UInt8} {i:Nat} (hi:zaG t=t.drop i) (hl:i<t.length):(zaG t).head?=some t[i]:=by
 rw [hi,List.head?_drop,List.getElem?_eq_getElem hl]
theorem zjb {t:List UInt8} {i:Nat} (hi:zaG t=t.drop i) (h1:1≤t.length-i∧t.length-i≤10) (h2:∀ j (hj:j<t.length),i≤j→zbe t[j]) (h3:¬((zaG t).head?=some 48∧1<t.length)):zex t:=by
 refine ⟨by rw [hi,List.length_drop];exact h1,?_,h3⟩
 intro c hc
 rw [hi] at hc
 obtain ⟨j,hj,rfl⟩:=List.getElem_of_mem hc
 rw [List.length_drop] at hj
 rw [List.getElem_drop]
 exact h2 (i+j) (by omega) (by omega)
theorem zbH {t:List UInt8} (h:¬zex t):zah t=0∧zaH t=false:=by
 unfold zah
 rw [readB_no h]
 exact ⟨if_neg (by simp),rfl⟩
theorem zgD {t:List UInt8} {i:Nat} (h:zex t) (hi:zaG t=t.drop i):zah t=(if negB t=true then -(zc4 t i t.length:Int) else (zc4 t i t.length:Int))∧zaH t=true:=by
 unfold zah
 rw [if_pos (zdi h),hi,znZ]
 exact ⟨rfl,zdi h⟩
set_option maxHeartbeats 4000000 in
set_option maxRecDepth 100000 in
theorem specRead (t:List UInt8) (w:World) (hl:t.length≤1048576) :
 Calls Tryz.prog 59 #[.string ⟨t.toArray⟩] w fun e w'=>e=.returned (.tuple #[.int .i64 (zah t),.bool (zaH t)])∧w'=w:=by
 by_cases hte:t=[]
 ·
  subst hte
  have HO:Hid (zah ([]:List UInt8)=0∧zaH ([]:List UInt8)=false):=zbH (fun hf=>by have:=hf.1;simp [zaG,negB] at this)
  go_enter Tryz.func59,Tryz.ntmps59
  go_wp2
  go_ret2
  exact ⟨by rw [HO.out.1,HO.out.2];rfl,rfl⟩
 ·
  have htl:0<t.length:=List.length_pos_iff.2 hte
  have htb:t.isEmpty=false:=by simp [hte]
  obtain ⟨x0,hx0⟩:∃ x0,t[0]=x0:=⟨_,rfl⟩
  have hx0b:(⟨t.toArray⟩:ByteArray)[0]'(by show 0<t.toArray.size;simpa using htl)=x0:=hx0
  have hng:negB t=(x0==45):=by
   unfold negB
   cases t with
   | nil=>exact absurd rfl hte
   | cons y r=>simp at hx0;rw [←hx0];simp
  have HX0:Hid (t[0]=x0):=hx0
  clear hx0 hte
  by_cases hxm:x0=45
  ·
   have hdx:((x0.toNat:Int)==45)=true:=by rw [hxm];rfl
   have hn:negB t=true:=by rw [hng];rw [hxm];rfl
   have hbd:=zkL t 1 (Or.inl ⟨hn,rfl⟩)
   have HB:Hid (zaG t=t.drop 1):=hbd
   have HNG:Hid (negB t=true):=hn
   clear hng hn hbd hxm
   by_cases hs1:t.length=1
   ·
    have HO:Hid (zah t=0∧zaH t=false):=zbH (zfF HB.out (by omega))
    have hs1':(t.length:Int)-1<1:=by omega
    clear hs1
    go_enter Tryz.func59,Tryz.ntmps59
    go_wp2
    go_ret2
    exact ⟨by rw [HO.out.1,HO.out.2];rfl,rfl⟩
   have hs1':¬(t.length:Int)-1<1:=by omega
   by_cases hs2:10<(t.length:Int)-1
   ·
    have HO:Hid (zah t=0∧zaH t=false):=zbH (zfF HB.out (by omega))
    go_enter Tryz.func59,Tryz.ntmps59
    go_wp2
    go_ret2
    exact ⟨by rw [HO.out.1,HO.out.2];rfl,rfl⟩
   go_enter Tryz.func59,Tryz.ntmps59
   go_wp2
   go_loop [6,7] (fun nv ix=>∃ k:Nat,1≤k∧k≤t.length∧ix=.int .i64 k∧nv=.int .i64 (zc4 t 1 k:Nat)∧Hid (∀ j (hj:j<t.length),1≤j→j<k→zbe t[j])) (fun _ ix=>t.length-(intOf ix).toNat)
   case atStart=>exact ⟨1,by omega,by omega,rfl,by rw [zgr];rfl,(fun j hj h1 h2=>by omega:∀ j (hj:j<t.length),1≤j→j<1→zbe t[j])⟩
   case round =>
    obtain ⟨k,hk0,hk1,rfl,rfl,HK⟩:=hrel
    have hvb:=zm8 t 1 k hk0 hk1 (by omega) HK.out
    have hvb2:(zc4 t 1 k:Int)<10000000000:=by omega
    by_cases hkl:(k:Int)<(t.length:Int)
    ·
     have hk2:k<t.length:=by omega
     obtain ⟨x,hx⟩:∃ x:UInt8,t[k]=x:=⟨_,rfl⟩
     have hxb:(⟨t.toArray⟩:ByteArray)[k]'(by show k<t.toArray.size;simpa using hk2)=x:=hx
     by_cases hd1:(x.toNat:Int)<48
     ·
      have HO:Hid (zah t=0∧zaH t=false):=zbH (zem HB.out hk0 hk2 (by rw [hx];unfold zbe;omega))
      clear hx
      go_wp2
      go_ret2
      exact ⟨by rw [HO.out.1,HO.out.2];rfl,rfl⟩
     ·
      by_cases hd2:57<(x.toNat:Int)
      ·
       have HO:Hid (zah t=0∧zaH t=false):=zbH (zem HB.out hk0 hk2 (by rw [hx];unfold zbe;omega))
       clear hx
       go_wp2
       go_ret2
       exact ⟨by rw [HO.out.1,HO.out.2];rfl,rfl⟩
      ·
       have HS:Hid (∀ j (hj:j<t.length),1≤j→j<k+1→zbe t[j]):=fun j hj h1 h2=>by
        by_cases e:j=k
        ·
         subst e;rw [hx];unfold zbe;omega
        ·
         exact HK.out j hj h1 (by omega)
       have hst:=zhK t 1 k hk0 hk2
       rw [hx] at hst
       have HV:Hid (zc4 t 1 (k+1)=zc4 t 1 k*10+(x.toNat-48)):=hst
       clear hx hst
       go_wp2
       go_round
       case rel=>exact ⟨k+1,by omega,by omega,by go_num,by rw [HV.out,show (((zc4 t 1 k*10+(x.toNat-48):Nat)):Int)=(zc4 t 1 k:Int)*10+((x.toNat:Int)-48) by omega],HS⟩
       case measure=>simp [intOf];omega
    ·
     obtain rfl:k=t.length:=by omega
     have hIl:1<t.length:=by omega
     obtain ⟨y,hy⟩:∃ y:UInt8,t[1]=y:=⟨_,rfl⟩
     have hyb:(⟨t.toArray⟩:ByteArray)[1]'(by show 1<t.toArray.size;simpa using hIl)=y:=hy
     have hhd:=zkt HB.out hIl
     rw [hy] at hhd
     by_cases hy0:y=48
     ·
      have HO:Hid (zah t=0∧zaH t=false):=zbH (fun hf=>hf.2.2 ⟨by rw [hhd,hy0],by omega⟩)
      have hdy:((y.toNat:Int)==48)=true:=by rw [hy0];rfl
      clear hy hy0
      clear hhd
      go_wp2
      go_ret2
      exact ⟨by rw [HO.out.1,HO.out.2];rfl,rfl⟩
     ·
      have hdy:((y.toNat:Int)==48)=false:=beq_eq_false_iff_ne.2 (fun e=>hy0 (UInt8.toNat_inj.1 (by have h48:(48:UInt8).toNat=48:=rfl;omega)))
      have hf:zex t:=zjb HB.out (by omega) (fun j hj h1=>HK.out j hj h1 (by omega)) (fun h=>hy0 (by have:=h.1;rw [hhd] at this;exact Option.some.inj this))
      have hv:=zgD hf HB.out
      rw [HNG.out] at hv
      have HV:Hid (zah t=-(zc4 t 1 t.length:Int)∧zaH t=true):=by
       exact (by simpa using hv:zah t=-(zc4 t 1 t.length:Int)∧zaH t=true)
      clear hf hv hhd
      clear hy hy0
      go_wp2
      go_ret2
      exact ⟨by rw [HV.out.1,HV.out.2];rfl,rfl⟩
  ·
   have hdx:((x0.toNat:Int)==45)=false:=beq_eq_false_iff_ne.2 (fun e=>hxm (UInt8.toNat_inj.1 (by have h45:(45:UInt8).toNat=45:=rfl;omega)))
   have hn:negB t=false:=by rw [hng];exact beq_eq_false_iff_ne.2 hxm
   have hbd:=zkL t 0 (Or.inr ⟨hn,rfl⟩)
   have HB:Hid (zaG t=t.drop 0):=hbd
   have HNG:Hid (negB t=false):=hn
   clear hng hn hbd hxm
   have hs1':¬(t.length:Int)<1:=by omega
   by_cases hs2:10<(t.length:Int)
   ·
    have HO:Hid (zah t=0∧zaH t=false):=zbH (zfF HB.out (by omega))
    go_enter Tryz.func59,Tryz.ntmps59
    go_wp2
    go_ret2
    exact ⟨by rw [HO.out.1,HO.out.2];rfl,rfl⟩
   go_enter Tryz.func59,Tryz.ntmps59
   go_wp2
   go_loop [6,7] (fun nv ix=>∃ k:Nat,0≤k∧k≤t.length∧ix=.int .i64 k∧nv=.int .i64 (zc4 t 0 k:Nat)∧Hid (∀ j (hj:j<t.length),0≤j→j<k→zbe t[j])) (fun _ ix=>t.length-(intOf ix).toNat)
   case atStart=>exact ⟨0,by omega,by omega,rfl,by rw [zgr];rfl,(fun j hj h1 h2=>by omega:∀ j (hj:j<t.length),0≤j→j<0→zbe t[j])⟩
   case round =>
    obtain ⟨k,hk0,hk1,rfl,rfl,HK⟩:=hrel
    have hvb:=zm8 t 0 k hk0 hk1 (by omega) HK.out
    have hvb2:(zc4 t 0 k:Int)<10000000000:=by omega
    by_cases hkl:(k:Int)<(t.length:Int)
    ·
     have hk2:k<t.length:=by omega
     obtain ⟨x,hx⟩:∃ x:UInt8,t[k]=x:=⟨_,rfl⟩
     have hxb:(⟨t.toArray⟩:ByteArray)[k]'(by show k<t.toArray.size;simpa using hk2)=x:=hx
     by_cases hd1:(x.toNat:Int)<48
     ·
      have HO:Hid (zah t=0∧zaH t=false):=zbH (zem HB.out hk0 hk2 (by rw [hx];unfold zbe;omega))
      clear hx
      go_wp2
      go_ret2
      exact ⟨by rw [HO.out.1,HO.out.2];rfl,rfl⟩
     ·
      by_cases hd2:57<(x.toNat:Int)
      ·
       have HO:Hid (zah t=0∧zaH t=false):=zbH (zem HB.out hk0 hk2 (by rw [hx];unfold zbe;omega))
       clear hx
       go_wp2
       go_ret2
       exact ⟨by rw [HO.out.1,HO.out.2];rfl,rfl⟩
      ·
       have HS:Hid (∀ j (hj:j<t.length),0≤j→j<k+1→zbe t[j]):=fun j hj h1 h2=>by
        by_cases e:j=k
        ·
         subst e;rw [hx];unfold zbe;omega
        ·
         exact HK.out j hj h1 (by omega)
       have hst:=zhK t 0 k hk0 hk2
       rw [hx] at hst
       have HV:Hid (zc4 t 0 (k+1)=zc4 t 0 k*10+(x.toNat-48)):=hst
       clear hx hst
       go_wp2
       go_round
       case rel=>exact ⟨k+1,by omega,by omega,by go_num,by rw [HV.out,show (((zc4 t 0 k*10+(x.toNat-48):Nat)):Int)=(zc4 t 0 k:Int)*10+((x.toNat:Int)-48) by omega],HS⟩
       case measure=>simp [intOf];omega
    ·
     obtain rfl:k=t.length:=by omega
     have hIl:0<t.length:=by omega
     have hy:=HX0.out
     have hhd:=zkt HB.out hIl
     rw [hy] at hhd
     by_cases hy0:x0=48
     ·
      have hdy:((x0.toNat:Int)==48)=true:=by rw [hy0];rfl
      by_cases h1l:1<(t.length:Int)
      ·
       have HO:Hid (zah t=0∧zaH t=false):=zbH (fun hf=>hf.2.2 ⟨by rw [hhd,hy0],by omega⟩)
       clear hy hy0
       clear hhd
       go_wp2
       go_ret2
       exact ⟨by rw [HO.out.1,HO.out.2];rfl,rfl⟩
      ·
       have hf:zex t:=zjb HB.out (by omega) (fun j hj h1=>HK.out j hj h1 (by omega)) (fun h=>absurd h.2 (by omega))
       have hv:=zgD hf HB.out
       rw [HNG.out] at hv
       have HV:Hid (zah t=(zc4 t 0 t.length:Int)∧zaH t=true):=by
        exact (by simpa using hv:zah t=(zc4 t 0 t.length:Int)∧zaH t=true)
       clear hf hv hhd
       clear hy hy0
       go_wp2
       go_ret2
       exact ⟨by rw [HV.out.1,HV.out.2];rfl,rfl⟩
     ·
      have hdy:((x0.toNat:Int)==48)=false:=beq_eq_false_iff_ne.2 (fun e=>hy0 (UInt8.toNat_inj.1 (by have h48:(48:UInt8).toNat=48:=rfl;omega)))
      have hf:zex t:=zjb HB.out (by omega) (fun j hj h1=>HK.out j hj h1 (by omega)) (fun h=>hy0 (by have:=h.1;rw [hhd] at this;exact Option.some.inj this))
      have hv:=zgD hf HB.out
      rw [HNG.out] at hv
      have HV:Hid (zah t=(zc4 t 0 t.length:Int)∧zaH t=true):=by
       exact (by simpa using hv:zah t=(zc4 t 0 t.length:Int)∧zaH t=true)
      clear hf hv hhd
      clear hy hy0
      go_wp2
      go_ret2
      exact ⟨by rw [HV.out.1,HV.out.2];rfl,rfl⟩
theorem back1 (t:Int) (h2:0≤t) (h3:t≤255) (W:World) :
 (convert 22 9 (.slice (some ⟨W.heap.size,0,none⟩) 1 1)).run Tryz.prog (W.alloc (.cells #[.int .u8 t] 5)).drew=.ok (.string ⟨#[UInt8.ofNat t.toNat]⟩) (W.alloc (.cells #[.int .u8 t] 5)).drew:=by
 have ht:((UInt8.ofNat t.toNat).toNat:Int)=t:=by
  rw [UInt8.toNat_ofNat'];omega
 have h:=run_convert_bytes_back (P:=Tryz.prog) (W.alloc (.cells #[.int .u8 t] 5)).drew 22 9 5 ⟨W.heap.size,0,none⟩ 1 [UInt8.ofNat t.toNat] Tryz.underlying22 Tryz.underlying5 Tryz.underlying9 (by
  intro j hj
  have hj':j<1:=by simpa using hj
  match j,hj' with
  | 0,_=>simp only [List.getElem_cons_zero,ht];simp [Addr.add,go_sem])
 exact h
set_option maxHeartbeats 1000000 in
set_option maxRecDepth 100000 in
theorem ziC (s:ByteArray) (a t:Int) (w:World) (hs:s.size≤1048576) (h0:0≤a) (h1:a<s.size) (h2:0≤t) (h3:t≤255) :
 Calls Tryz.prog 16 #[.string s,.int .i64 a,.int .i64 t] w fun e w'=>e=.returned (.string ⟨(zda s.data.toList a t).toArray⟩)∧Below w.heap.size w w':=by
 have hB:inB t 0 255=true:=zdG _ _ _ h2 h3
 have hbk:=back1 t h2 h3
 go_enter Tryz.func16,Tryz.ntmps16
 go_wp2_with (go_at_call 38;refine (zc0 _ _ _ _).mono ?_;rintro e w' ⟨rfl,rfl⟩)
 go_region
 all_goals (try go_wp2)
 go_ret
 exact ⟨ret_str2 (zmV s a t h0 h1 h2 h3),((Below.refl _ _).alloc (Nat.le_refl _) _).drew⟩
set_option maxHeartbeats 1000000 in
set_option maxRecDepth 100000 in
theorem zjH (s:ByteArray) (a t:Int) (w:World) (h:a<0∨(s.size:Int)≤a∨t<0∨255<t) :
 Calls Tryz.prog 16 #[.string s,.int .i64 a,.int .i64 t] w fun e w'=>e=.returned (.string s)∧Below w.heap.size w w':=by
 rcases (show a<0∨(0≤a∧(s.size:Int)≤a)∨((0≤a∧a<s.size)∧(t<0∨255<t)) by omega) with h | ⟨h0,h⟩ | ⟨⟨h0,h1⟩,h⟩
 ·
  go_enter Tryz.func16,Tryz.ntmps16
  go_wp2
  go_ret
  exact ⟨rfl,Below.refl _ _⟩
 ·
  go_enter Tryz.func16,Tryz.ntmps16
  go_wp2
  go_ret
  exact ⟨rfl,Below.refl _ _⟩
 ·
  have hB:inB t 0 255=false:=zcv _ _ _ h
  clear h
  go_enter Tryz.func16,Tryz.ntmps16
  go_wp2_with (go_at_call 38;refine (zc0 _ _ _ _).mono ?_;rintro e w' ⟨rfl,rfl⟩)
  go_ret
  exact ⟨rfl,Below.refl _ _⟩
theorem zn9 (s:ByteArray) (a t:Int) (w:World) (hs:s.size≤1048576) :
 Calls Tryz.prog 16 #[.string s,.int .i64 a,.int .i64 t] w fun e w'=>e=.returned (.string ⟨(zda s.data.toList a t).toArray⟩)∧Below w.heap.size w w':=by
 by_cases h:(0≤a∧a<s.size)∧(0≤t∧t≤255)
 ·
  exact ziC s a t w hs h.1.1 h.1.2 h.2.1 h.2.2
 ·
  rw [zmW _ _ _ (by simp;omega)]
  exact zjH s a t w (by omega)
theorem back1p (t:Int) (h2:0≤t) (h3:t≤255) (W:World) :
 (convert 22 9 (.slice (some ⟨W.heap.size,0,none⟩) 1 1)).run Tryz.prog (W.alloc (.cells #[.int .u8 t] 5))=.ok (.string ⟨#[UInt8.ofNat t.toNat]⟩) (W.alloc (.cells #[.int .u8 t] 5)):=by
 have ht:((UInt8.ofNat t.toNat).toNat:Int)=t:=by
  rw [UInt8.toNat_ofNat'];omega
 have h:=run_convert_bytes_back (P:=Tryz.prog) (W.alloc (.cells #[.int .u8 t] 5)) 22 9 5 ⟨W.heap.size,0,none⟩ 1 [UInt8.ofNat t.toNat] Tryz.underlying22 Tryz.underlying5 Tryz.underlying9 (by
  intro j hj
  have hj':j<1:=by simpa using hj
  match j,hj' with
  | 0,_=>simp only [List.getElem_cons_zero,ht];simp [Addr.add,go_sem])
 exact h
theorem zjp (k:Nat) (W:World) :
 (convert 22 9 (.slice (some ⟨W.heap.size,0,none⟩) 1 1)).run Tryz.prog (W.alloc (.cells #[.int .u8 (48+(k:Int) % 10)] 5))=.ok (.string ⟨[zc9 k].toArray⟩) (W.alloc (.cells #[.int .u8 (48+(k:Int) % 10)] 5)):=by
 have h:=back1p (48+(k:Int) % 10) (by omega) (by omega) W
 have e:UInt8.ofNat (48+(k:Int) % 10).toNat=zc9 k:=by unfold zc9;congr 1
 rw [e] at h
 exact h
set_option maxHeartbeats 1000000 in
set_option maxRecDepth 100000 in
theorem znc (N:Nat) (w:World) (hN:(N:Int)≤9223372036854775807) :
 Calls Tryz.prog 62 #[.int .i64 (N:Int)] w fun e w'=>e=.returned (.string ⟨(digL N).toArray⟩)∧Below w.heap.size w w':=by
 have hcat:=zbU
 have hneg:decide ((N:Int)<0)=false:=decide_eq_false (by omega)
 go_enter Tryz.func62,Tryz.ntmps62
 go_wp2
 go_loopw [0,3] (fun nv sv wr=>∃ (k:Nat) (s:List UInt8),nv=.int .i64 k∧sv=.string ⟨s.toArray⟩∧(k:Int)≤9223372036854775807∧Hid (zeN k s=digL N)∧Below w.heap.size w wr) (fun nv sv _=>(intOf nv).toNat+(match sv with | .string b=>if b.size=0 then 1 else 0 | _=>0))
 case atStart=>exact ⟨N,[],rfl,rfl,hN,zhh N,Below.refl _ _⟩
 case round =>
  obtain ⟨k,s,rfl,rfl,hk,HD,hb⟩:=hrel
  have hs19:(s.length:Int)≤19:=by have:=zkC k N s HD.out (by omega);omega
  by_cases hc:s=[]∨k≠0
  ·
   have hbk:=zjp k wr
   have HD2:Hid (zeN (k / 10) (zc9 k :: s)=digL N):=by exact (by rw [zip k s hc];exact HD.out:zeN (k / 10) (zc9 k :: s)=digL N)
   have hd10:((k / 10:Nat):Int)=(k:Int) / 10:=by omega
   have hnn:¬(k:Int) % 10<0:=by omega
   rcases hc with rfl | hc
   ·
    go_wp2
    refine ⟨⟨k / 10,[zc9 k],by rw [hd10],rfl,by omega,HD2,hb.alloc hb.size _⟩,?_⟩
    simp [intOf,ByteArray.size]
    omega
   ·
    have hk0:((k:Int) !=0)=true:=bne_iff_ne.2 (by omega)
    by_cases hs:s=[]
    ·
     subst hs
     go_wp2
     refine ⟨⟨k / 10,[zc9 k],by rw [hd10],rfl,by omega,HD2,hb.alloc hb.size _⟩,?_⟩
     simp [intOf,ByteArray.size]
     omega
    ·
     have hse:s.isEmpty=false:=by simp [hs]
     have hz:s.length≠0:=by have:=List.length_pos_iff.2 hs;omega
     clear hs
     go_wp2
     refine ⟨⟨k / 10,zc9 k :: s,by rw [hd10],rfl,by omega,HD2,hb.alloc hb.size _⟩,?_⟩
     simp [intOf,ByteArray.size,hz]
     omega
  ·
   have hs:s≠[]:=fun e=>hc (Or.inl e)
   have hk0:k=0:=by
    by_cases e:k=0
    ·
     exact e
    ·
     exact absurd (Or.inr e) hc
   subst hk0
   have hse:s.isEmpty=false:=by simp [hs]
   have HF:Hid (s=digL N):=by exact (by rw [←HD.out,zkD hs]:s=digL N)
   clear hs hc
   go_wp2
   go_ret
   exact ⟨by rw [←HF.out];rfl,hb⟩
theorem neg_tmod (k:Nat):(-(k:Int)).tmod 10=-((k:Int) % 10):=by
 rw [Int.neg_tmod,Int.tmod_eq_emod_of_nonneg (by omega)]
theorem neg_tdiv (k:Nat):(-(k:Int)).tdiv 10=-((k:Int) / 10):=by
 rw [Int.neg_tdiv,Int.tdiv_eq_ediv_of_nonneg (by omega)]
set_option maxHeartbeats 2000000 in
set_option maxRecDepth 100000 in
theorem znd (N:Nat) (w:World) (hN0:0<N) (hN:(N:Int)≤9223372036854775808) :
 Calls Tryz.prog 62 #[.int .i64 (-(N:Int))] w fun e w'=>e=.returned (.string ⟨(45 :: digL N).toArray⟩)∧Below w.heap.size w w':=by
 have hcat:=zbU
 have hneg:decide (-(N:Int)<0)=true:=decide_eq_true (by omega)
 have hneg2:-(N:Int)<0:=by omega
 go_enter Tryz.func62,Tryz.ntmps62
 go_wp2
 go_loopw [0,3] (fun nv sv wr=>∃ (k:Nat) (s:List UInt8),nv=.int .i64 (-(k:Int))∧sv=.string ⟨s.toArray⟩∧(k:Int)≤9223372036854775808∧Hid (zeN k s=digL N)∧Below w.heap.size w wr) (fun nv sv _=>(intOf nv).natAbs+(match sv with | .string b=>if b.size=0 then 1 else 0 | _=>0))
 case atStart=>exact ⟨N,[],rfl,rfl,hN,zhh N,Below.refl _ _⟩
 case round =>
  obtain ⟨k,s,rfl,rfl,hk,HD,hb⟩:=hrel
  have hs19:(s.length:Int)≤19:=by have:=zkC k N s HD.out (by omega);omega
  have htm:=neg_tmod k
  have htd:=neg_tdiv k
  by_cases hc:s=[]∨k≠0
  ·
   have hbk:=zjp k wr
   have HD2:Hid (zeN (k / 10) (zc9 k :: s)=digL N):=by exact (by rw [zip k s hc];exact HD.out:zeN (k / 10) (zc9 k :: s)=digL N)
   have hd10:((k / 10:Nat):Int)=(k:Int) / 10:=by omega
   have hr0:0≤(k:Int) % 10:=by omega
   have hr1:(k:Int) % 10<10:=by omega
   have hc2:s=[]∨(s≠[]∧k≠0):=by
    by_cases e:s=[]
    ·
     exact Or.inl e
    ·
     exact Or.inr ⟨e,by rcases hc with h | h;exact absurd h e;exact h⟩
   clear hc
   by_cases hr:0<(k:Int) % 10
   ·
    have hr2:-((k:Int) % 10)<0:=by omega
    rcases hc2 with rfl | ⟨hs,hc⟩
    ·
     go_wp2
     refine ⟨⟨k / 10,[zc9 k],by rw [hd10],rfl,by omega,HD2,hb.alloc hb.size _⟩,?_⟩
     simp [intOf,ByteArray.size]
     omega
    ·
     have hk0:(-(k:Int) !=0)=true:=bne_iff_ne.2 (by omega)
     have hse:s.isEmpty=false:=by simp [hs]
     have hz:s.length≠0:=by have:=List.length_pos_iff.2 hs;omega
     clear hs
     go_wp2
     refine ⟨⟨k / 10,zc9 k :: s,by rw [hd10],rfl,by omega,HD2,hb.alloc hb.size _⟩,?_⟩
     simp [intOf,ByteArray.size,hz]
     omega
   ·
    have hr2:¬-((k:Int) % 10)<0:=by omega
    have hbk2:(convert 22 9 (.slice (some ⟨wr.heap.size,0,none⟩) 1 1)).run Tryz.prog (wr.alloc (.cells #[.int .u8 (48+-((k:Int) % 10))] 5))=.ok (.string ⟨[zc9 k].toArray⟩) (wr.alloc (.cells #[.int .u8 (48+-((k:Int) % 10))] 5)):=by
     rw [show (48:Int)+-((k:Int) % 10)=48+(k:Int) % 10 by omega]
     exact zjp k wr
    rcases hc2 with rfl | ⟨hs,hc⟩
    ·
     go_wp2
     refine ⟨⟨k / 10,[zc9 k],by rw [hd10],rfl,by omega,HD2,hb.alloc hb.size _⟩,?_⟩
     simp [intOf,ByteArray.size]
     omega
    ·
     have hk0:(-(k:Int) !=0)=true:=bne_iff_ne.2 (by omega)
     have hse:s.isEmpty=false:=by simp [hs]
     have hz:s.length≠0:=by have:=List.length_pos_iff.2 hs;omega
     clear hs
     go_wp2
     refine ⟨⟨k / 10,zc9 k :: s,by rw [hd10],rfl,by omega,HD2,hb.alloc hb.size _⟩,?_⟩
     simp [intOf,ByteArray.size,hz]
     omega
  ·
   have hs:s≠[]:=fun e=>hc (Or.inl e)
   have hk0:k=0:=by
    by_cases e:k=0
    ·
     exact e
    ·
     exact absurd (Or.inr e) hc
   subst hk0
   have hse:s.isEmpty=false:=by simp [hs]
   have HF:Hid (s=digL N):=by exact (by rw [←HD.out,zkD hs]:s=digL N)
   clear hs hc htm htd
   go_wp2
   go_ret
   exact ⟨by rw [←HF.out];rfl,hb⟩
theorem zl6 (n:Int) (w:World) (h0:-9223372036854775808≤n) (h1:n≤9223372036854775807) :
 Calls Tryz.prog 62 #[.int .i64 n] w fun e w'=>e=.returned (.string ⟨(intL n).toArray⟩)∧Below w.heap.size w w':=by
 by_cases h:n<0
 ·
  obtain ⟨N,rfl⟩:∃ N:Nat,n=-(N:Int):=⟨n.natAbs,by omega⟩
  have e:intL (-(N:Int))=45 :: digL N:=by unfold intL;rw [if_pos h];congr 2;omega
  rw [e]
  exact znd N w (by omega) (by omega)
 ·
  obtain ⟨N,rfl⟩:∃ N:Nat,n=(N:Int):=⟨n.natAbs,by omega⟩
  have e:intL (N:Int)=digL N:=by unfold intL;rw [if_neg h];congr 1
  rw [e]
  exact znc N w (by omega)
def za8 (n:Nd):Value:=.agg #[.int .i64 n.1,.int .i64 n.2.1,.string ⟨n.2.2.1.toArray⟩,.string ⟨n.2.2.2.toArray⟩]
theorem zgL (k a:Int) (p f:List UInt8) (hk:k≠8) (h:p≠[]∨f≠[]):zaQ (k,a,p,f)=false:=zmr (fun hp=>by
 unfold zdC at hp
 simp only at hp
 rcases hp with ⟨_,_,h1,h2⟩ | ⟨_,_,h1,h2⟩ | ⟨_,_,h1,h2⟩ | ⟨h1,_⟩
 ·
  rcases h with h | h;exact h h1;exact h h2
 ·
  rcases h with h | h;exact h h1;exact h h2
 ·
  rcases h with h | h;exact h h1;exact h h2
 ·
  exact hk h1)
theorem zoM (a:Int):zaQ (1,a,[],[])=inB a (-2147483648) 2147483647:=by
 unfold zaQ inB
 exact decide_eq_decide.2 (by unfold zdC;simp)
theorem zoN (a:Int):zaQ (2,a,[],[])=inB a 0 2:=by
 unfold zaQ inB
 exact decide_eq_decide.2 (by unfold zdC;simp)
theorem nodeB_op (k a:Int) (h:3≤k∧k≤7):zaQ (k,a,[],[])=(a==0):=by
 rw [Bool.eq_iff_iff,zdZ,beq_iff_eq]
 unfold zdC
 simp
 omega
theorem znq (a:Int) (p f:List UInt8):zaQ (8,a,p,f)=(inB a 0 3 && (zaF p && zaF f)):=by
 rw [Bool.eq_iff_iff,zdZ]
 unfold zdC inB
 simp
theorem zlh (k a:Int) (p f:List UInt8) (h:k<1∨8<k):zaQ (k,a,p,f)=false:=zmr (fun hp=>by
 unfold zdC at hp
 simp only at hp
 omega)
set_option maxHeartbeats 2000000 in
set_option maxRecDepth 100000 in
theorem znb (n:Nd) (w:World) (hp:n.2.2.1.length≤1048576) (hf:n.2.2.2.length≤1048576) :
 Calls Tryz.prog 150 #[za8 n] w fun e w'=>e=.returned (.bool (zaQ n))∧Below w.heap.size w w':=by
 obtain ⟨k,a,p,f⟩:=n
 simp only at hp hf
 unfold za8
 simp only
 by_cases h8:k=8
 ·
  subst h8
  have HN:=znq a p f
  rw [HN]
  clear HN
  rcases hia:inB a 0 3 with _ | _
  ·
   have HA:Hid (inB a 0 3=false):=hia
   clear hia
   go_enter Tryz.func150,Tryz.ntmps150
   go_wp2_with fail
   refine (zc0 _ _ _ _).mono ?_
   rintro e w1 ⟨rfl,rfl⟩
   rw [HA.out]
   go_wp2
   go_ret
   exact ⟨rfl,(Below.refl _ w).alloc (Nat.le_refl _) _⟩
  ·
   have HA:Hid (inB a 0 3=true):=hia
   clear hia
   rcases hnp:zaF p with _ | _
   ·
    have HP:Hid (zaF p=false):=hnp
    clear hnp
    go_enter Tryz.func150,Tryz.ntmps150
    go_wp2_with fail
    refine (zc0 _ _ _ _).mono ?_
    rintro e w1 ⟨rfl,rfl⟩
    rw [HA.out]
    go_wp2_with fail
    refine (zcg p _ hp).mono ?_
    rintro e w1 ⟨rfl,rfl⟩
    rw [HP.out]
    go_wp2
    go_ret
    exact ⟨rfl,(Below.refl _ w).alloc (Nat.le_refl _) _⟩
   ·
    have HP:Hid (zaF p=true):=hnp
    clear hnp
    go_enter Tryz.func150,Tryz.ntmps150
    go_wp2_with fail
    refine (zc0 _ _ _ _).mono ?_
    rintro e w1 ⟨rfl,rfl⟩
    rw [HA.out]
    go_wp2_with fail
    refine (zcg p _ hp).mono ?_
    rintro e w1 ⟨rfl,rfl⟩
    rw [HP.out]
    go_wp2_with fail
    refine (zcg f _ hf).mono ?_
    rintro e w1 ⟨rfl,rfl⟩
    go_wp2
    go_ret
    exact ⟨rfl,(Below.refl _ w).alloc (Nat.le_refl _) _⟩
 ·
  have d8:(k !=8)=true:=bne_iff_ne.2 h8
  have d8':(k==8)=false:=beq_eq_false_iff_ne.2 h8
  by_cases hpe:p=[]
  ·
   subst hpe
   by_cases hfe:f=[]
   ·
    subst hfe
    by_cases h1:k=1
    ·
     subst h1
     have HN:=zoM a
     rw [HN]
     clear HN
     go_enter Tryz.func150,Tryz.ntmps150
     go_wp2_with fail
     refine (zn8 _ _).mono ?_
     rintro e w1 ⟨rfl,rfl⟩
     go_wp2
     go_ret
     exact ⟨rfl,(Below.refl _ w).alloc (Nat.le_refl _) _⟩
    ·
     have d1:(k==1)=false:=beq_eq_false_iff_ne.2 h1
     by_cases h2:k=2
     ·
      subst h2
      have HN:=zoN a
      rw [HN]
      clear HN
      go_enter Tryz.func150,Tryz.ntmps150
      go_wp2_with fail
      refine (zc0 _ _ _ _).mono ?_
      rintro e w1 ⟨rfl,rfl⟩
      go_wp2
      go_ret
      exact ⟨rfl,(Below.refl _ w).alloc (Nat.le_refl _) _⟩
     ·
      have d2:(k==2)=false:=beq_eq_false_iff_ne.2 h2
      by_cases h37:3≤k∧k≤7
      ·
       have HN:=nodeB_op k a h37
       rw [HN]
       clear HN
       rcases (show k=3∨k=4∨k=5∨k=6∨k=7 by omega) with rfl | rfl | rfl | rfl | rfl
       all_goals
        go_enter Tryz.func150,Tryz.ntmps150
        go_wp2
        go_ret
        exact ⟨rfl,(Below.refl _ w).alloc (Nat.le_refl _) _⟩
      ·
       have HN:=zlh k a [] [] (by omega)
       rw [HN]
       clear HN
       have d3:(k==3)=false:=beq_eq_false_iff_ne.2 (by omega)
       have d4:(k==4)=false:=beq_eq_false_iff_ne.2 (by omega)
       have d5:(k==5)=false:=beq_eq_false_iff_ne.2 (by omega)
       have d6:(k==6)=false:=beq_eq_false_iff_ne.2 (by omega)
       have d7:(k==7)=false:=beq_eq_false_iff_ne.2 (by omega)
       clear h37 h1 h2 h8
       go_enter Tryz.func150,Tryz.ntmps150
       go_wp2
       go_ret
       exact ⟨rfl,(Below.refl _ w).alloc (Nat.le_refl _) _⟩
   ·
    have HN:=zgL k a [] f h8 (Or.inr hfe)
    rw [HN]
    have hfb:f.isEmpty=false:=by simp [hfe]
    clear HN hfe h8
    go_enter Tryz.func150,Tryz.ntmps150
    go_wp2
    go_ret
    exact ⟨rfl,(Below.refl _ w).alloc (Nat.le_refl _) _⟩
  ·
   have HN:=zgL k a p f h8 (Or.inl hpe)
   rw [HN]
   have hpb:p.isEmpty=false:=by simp [hpe]
   clear HN hpe h8
   go_enter Tryz.func150,Tryz.ntmps150
   go_wp2
   go_ret
   exact ⟨rfl,(Below.refl _ w).alloc (Nat.le_refl _) _⟩
theorem kids_two (k a:Int) (p f:List UInt8) (h:3≤k∧k≤6):zbt (k,a,p,f)=2:=if_pos h
theorem kids_if (a:Int) (p f:List UInt8):zbt (7,a,p,f)=3:=by unfold zbt;simp
theorem zp3 (a:Int) (p f:List UInt8):zbt (8,a,p,f)=a:=by unfold zbt;simp
theorem zp2 (k a:Int) (p f:List UInt8) (h:k<3∨8<k):zbt (k,a,p,f)=0:=by
 unfold zbt
 simp only
 rw [if_neg (by omega),if_neg (by omega),if_neg (by omega)]
set_option maxHeartbeats 2000000 in
set_option maxRecDepth 100000 in
theorem zmc (n:Nd) (w:World) :
 Calls Tryz.prog 122 #[za8 n] w fun e w'=>e=.returned (.int .i64 (zbt n))∧Below w.heap.size w w':=by
 obtain ⟨k,a,p,f⟩:=n
 unfold za8
 simp only
 by_cases h36:3≤k∧k≤6
 ·
  rw [kids_two k a p f h36]
  rcases (show k=3∨k=4∨k=5∨k=6 by omega) with rfl | rfl | rfl | rfl
  all_goals
   go_enter Tryz.func122,Tryz.ntmps122
   go_wp2
   go_ret
   exact ⟨rfl,(Below.refl _ w).alloc (Nat.le_refl _) _⟩
 ·
  by_cases h7:k=7
  ·
   subst h7
   rw [kids_if]
   go_enter Tryz.func122,Tryz.ntmps122
   go_wp2
   go_ret
   exact ⟨rfl,(Below.refl _ w).alloc (Nat.le_refl _) _⟩
  ·
   by_cases h8:k=8
   ·
    subst h8
    rw [zp3]
    go_enter Tryz.func122,Tryz.ntmps122
    go_wp2
    go_ret
    exact ⟨rfl,(Below.refl _ w).alloc (Nat.le_refl _) _⟩
   ·
    rw [zp2 k a p f (by omega)]
    have d3:(k==3)=false:=beq_eq_false_iff_ne.2 (by omega)
    have d4:(k==4)=false:=beq_eq_false_iff_ne.2 (by omega)
    have d5:(k==5)=false:=beq_eq_false_iff_ne.2 (by omega)
    have d6:(k==6)=false:=beq_eq_false_iff_ne.2 (by omega)
    have d7:(k==7)=false:=beq_eq_false_iff_ne.2 h7
    have d8:(k==8)=false:=beq_eq_false_iff_ne.2 h8
    clear h36 h7 h8
    go_enter Tryz.func122,Tryz.ntmps122
    go_wp2
    go_ret
    exact ⟨rfl,(Below.refl _ w).alloc (Nat.le_refl _) _⟩
end Go.Proofs.YtdbljnddkbpanaaGreatDoor
