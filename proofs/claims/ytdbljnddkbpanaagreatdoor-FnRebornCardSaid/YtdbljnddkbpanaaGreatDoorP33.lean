/-
  Parts of one proof, one behind the other: TextI.
-/
import Derived.Test.YtdbljnddkbpanaaGreatDoorP32
import Derived.Test.YtdbljnddkbpanaaGreatDoorP3
import Derived.BigQuiet
namespace Go.Proofs.YtdbljnddkbpanaaGreatDoor
open Go.RowKit
def BetJ (l:List UInt8) (b:UInt8) (c:Int) (w:World) (L:Nat) (a:Act) (wr:World):Prop :=
 ∃ (o:List (List UInt8)) (f i g cp:Nat) (u2 u3 u4 u8 u9 u10 u11 u12 u13 u14 u15 u16 u17 u18 u19 u20 u21 u22 u23 u24 u25 u26 u27 u28 u29 u30 u31 u32 u33 u34 u35 u36 u37:Value),a={ tmps:=#[.string ⟨l.toArray⟩,.int .u8 c,u2,u3,u4,.slice (some ⟨g,0,none⟩) o.length cp,.int .i64 (f:Int),.int .i64 (i:Int),u8,u9,u10,u11,u12,u13,u14,u15,u16,u17,u18,u19,u20,u21,u22,u23,u24,u25,u26,u27,u28,u29,u30,u31,u32,u33,u34,u35,u36,u37],defers:=[] }∧o.length≤i∧i≤l.length∧f≤i∧Hid (o++zan b ((l.drop f).take (i-f)) (l.drop i)=za3 b l)∧wr.ownsRow w.heap.size 9 1 (.slice (some ⟨g,0,none⟩) o.length cp) o.length (strV o)∧Below w.heap.size w wr ∧
  (L=1∨(L=2∧∃ hi:i<l.length,l[i]=b)∨(L=0∧i=l.length))
def betM (l:List UInt8) (L:Nat) (a:Act) (_:World):Nat :=
 match L with
 | 0=>0
 | 1=>2*(l.length-(intOf (a.tmps.getD 7 undef)).toNat)+2
 | _=>2*(l.length-(intOf (a.tmps.getD 7 undef)).toNat)+1
set_option maxHeartbeats 4000000 in
set_option maxRecDepth 100000 in
theorem zlK (l:List UInt8) (b:UInt8) (c:Int) (w:World) (hc:c=(b.toNat:Int)) (hl:l.length≤1048576) :
 Calls Tryz.prog 111 #[.string ⟨l.toArray⟩,.int .u8 c] w fun e w'=>∃ g cp,e=.returned (.slice (some ⟨g,0,none⟩) (za3 b l).length cp)∧w'.ownsRow w.heap.size 9 1 (.slice (some ⟨g,0,none⟩) (za3 b l).length cp) (za3 b l).length (strV (za3 b l))∧Below w.heap.size w w':=by
 obtain ⟨i0,hi,hz0,hz1,hz2⟩:=info_parts zlp
 have hext:=zbL
 have hown0:=(World.ownsRow_lit (base:=w.heap.size) (e:=9) (size:=1) w #[] 0 (Nat.le_refl _) (by decide) rfl)
 have HC:Hid (c=(b.toNat:Int)):=hc
 clear hc
 go_enter Tryz.func111,Tryz.ntmps111
 go_wp2
 refine zeS (BetJ l b c w) (betM l) ?pass ?first
 case first =>
  intro fall
  go_wp2
  go_step3
  rename_i K hK
  apply hK
  refine fall 1 _ _ ?_ _ rfl
  exact ⟨[],0,0,w.heap.size,0,_,_,_,_,_,_,_,_,_,_,_,_,_,_,_,_,_,_,_,_,_,_,_,_,_,_,_,_,_,_,_,_,_,rfl,by simp,by omega,by omega,(by simp [za3]:_=_),hown0,(Below.refl _ _).alloc (Nat.le_refl _) _,Or.inl rfl⟩
 case pass =>
  clear hown0
  rintro L a wr ⟨o,f,i,g,cp,u2,u3,u4,u8,u9,u10,u11,u12,u13,u14,u15,u16,u17,u18,u19,u20,u21,u22,u23,u24,u25,u26,u27,u28,u29,u30,u31,u32,u33,u34,u35,u36,u37,rfl,hoi,hil,hfi,HE,hown,hb,hL⟩ -
  have hfi1:(f:Int)≤(i:Int):=by omega
  have hf0:(0:Int)≤(f:Int):=by omega
  rcases hL with rfl | ⟨rfl,hi2,hib⟩ | ⟨rfl,hend⟩
  ·
   refine ⟨_,rfl,?_⟩
   by_cases hend:i=l.length
   ·
    subst hend
    go_wp2
    go_step3
    show BetJ l b c w 0 _ _∧betM l 0 _ _<betM l 1 _ _
    refine ⟨⟨o,f,l.length,g,cp,_,_,_,_,_,_,_,_,_,_,_,_,_,_,_,_,_,_,_,_,_,_,_,_,_,_,_,_,_,_,_,_,_,rfl,hoi,by omega,hfi,HE,hown,hb,Or.inr (Or.inr ⟨rfl,rfl⟩)⟩,?_⟩
    simp [betM]
   ·
    have de:((i:Int)==(l.length:Int))=false:=beq_eq_false_iff_ne.2 (by omega)
    have hil2:i<l.length:=by omega
    have hil3:(i:Int)<(l.length:Int):=by omega
    obtain ⟨x,hx⟩:∃ x,l[i]=x:=⟨_,rfl⟩
    by_cases hxb:x=b
    ·
     have dx:((((⟨l.toArray⟩:ByteArray)[i]'(by show i<l.toArray.size;simpa using hil2)).toNat:Int)==c)=true:=by show ((l[i].toNat:Int)==c)=true;rw [hx,hxb,HC.out];simp
     have HX:Hid (∃ hi:i<l.length,l[i]=b):=(⟨hil2,hx.trans hxb⟩:∃ hi:i<l.length,l[i]=b)
     clear hx hxb hend
     go_wp2
     go_step3
     show BetJ l b c w 2 _ _∧betM l 2 _ _<betM l 1 _ _
     refine ⟨⟨o,f,i,g,cp,_,_,_,_,_,_,_,_,_,_,_,_,_,_,_,_,_,_,_,_,_,_,_,_,_,_,_,_,_,_,_,_,_,rfl,hoi,by omega,hfi,HE,hown,hb,Or.inr (Or.inl ⟨rfl,HX.out⟩)⟩,?_⟩
     simp [betM,intOf]
    ·
     have HF:Hid (o++zan b ((l.drop f).take (i+1-f)) (l.drop (i+1))=za3 b l):=by
      have:=zhN b l o _ i hil2 (by rw [hx];exact hxb) HE.out
      rw [zjf l f i hfi hil2]
      exact this
     have dx:((((⟨l.toArray⟩:ByteArray)[i]'(by show i<l.toArray.size;simpa using hil2)).toNat:Int)==c)=false:=by show ((l[i].toNat:Int)==c)=false;rw [hx,HC.out];exact beq_eq_false_iff_ne.2 (fun e=>hxb (UInt8.toNat_inj.1 (by omega)))
     clear HE hx hxb hend
     go_wp2
     go_step3
     show BetJ l b c w 1 _ _∧betM l 1 _ _<betM l 1 _ _
     refine ⟨⟨o,f,i+1,g,cp,_,_,_,_,_,_,_,_,_,_,_,_,_,_,_,_,_,_,_,_,_,_,_,_,_,_,_,_,_,_,_,_,_,rfl,by omega,by omega,by omega,HF,hown,hb,Or.inl rfl⟩,?_⟩
     simp [betM,intOf]
     omega
  ·
   refine ⟨_,rfl,?_⟩
   have HF:Hid ((o++[(l.drop f).take (i-f)])++zan b [] (l.drop (i+1))=za3 b l):=zjE b l o _ i hi2 hib HE.out
   have hil3:(i:Int)<(l.length:Int):=by omega
   have hil4:(i:Int)≤(l.length:Int):=by omega
   clear HE hib
   go_wp2_with fail
   refine (zbb ((l.drop f).take (i-f)) _ (by rw [List.length_take,List.length_drop];omega)).mono ?_
   rintro e wc ⟨rfl,hbc⟩
   have hbd:Below w.heap.size w wc:=hb.trans (hbc.mono hb.size)
   have hownc:=za6 hown hbc
   have hsc:w.heap.size≤wc.heap.size:=hbd.size
   clear hown hb hbc
   go_wp2_with (at_builtin;refine wpList_append_own _ rfl _ _ 35 rfl w.heap.size 9 i0 (.string ⟨#[]⟩) 1 16 Tryz.underlying35 hi hz0 hz1 hz2 rfl (by decide) _ _ _ rfl (hownc.alloc _) ⟨wc.heap.size,0,none⟩ 1 1 [.string ⟨(((l.drop f).take (i-f))).toArray⟩] rfl rfl ?c1 ?c2 ?c3 ?c4 ?c5 ?_)
   first | (case c1=>exact cell_one_new _ _ _) | skip
   first | (case c2=>first | rfl | (intro u hu;simp at hu;subst hu;rfl)) | skip
   first | (case c3=>unfold maxLen;omega) | skip
   first | (case c4=>omega) | skip
   first | (case c5=>simp;try omega) | skip
   intro v' w3 hown3 hgrow3 hnil3
   have hown4:=zdA hown3
   have hv':v'≠.slice none 0 0:=hnil3
   obtain ⟨g',cp',rfl⟩:=zdk hown4 hv'
   have hb3:Below w.heap.size w w3:=(hbd.alloc hbd.size _).grown hgrow3 (by simp;omega) (fun k e=>(hownc.lt k e).1)
   clear hown3 hgrow3 hnil3 hownc hbd hv'
   go_wp2
   go_step3
   show BetJ l b c w 1 _ _∧betM l 1 _ _<betM l 2 _ _
   refine ⟨⟨o++[(l.drop f).take (i-f)],i+1,i+1,g',cp',_,_,_,_,_,_,_,_,_,_,_,_,_,_,_,_,_,_,_,_,_,_,_,_,_,_,_,_,_,_,_,_,_,rfl,by rw [List.length_append,List.length_singleton];omega,by omega,by omega,(by rw [Nat.sub_self,List.take_zero];exact HF.out:_=_),hown4,hb3,Or.inl rfl⟩,?_⟩
   simp [betM,intOf]
   omega
  ·
   refine ⟨_,rfl,?_⟩
   subst hend
   have HF:Hid (o++[(l.drop f).take (l.length-f)]=za3 b l):=zjF b l o _ HE.out
   have htk:List.take (l.length-f) (List.drop f l)=List.drop f l:=List.take_of_length_le (by rw [List.length_drop];omega)
   rw [htk] at HF
   clear HE
   go_wp2_with fail
   refine (zbb (l.drop f) _ (by rw [List.length_drop];omega)).mono ?_
   rintro e wc ⟨rfl,hbc⟩
   have hbd:Below w.heap.size w wc:=hb.trans (hbc.mono hb.size)
   have hownc:=za6 hown hbc
   have hsc:w.heap.size≤wc.heap.size:=hbd.size
   clear hown hb hbc
   go_wp2_with (at_builtin;refine wpList_append_own _ rfl _ _ 35 rfl w.heap.size 9 i0 (.string ⟨#[]⟩) 1 16 Tryz.underlying35 hi hz0 hz1 hz2 rfl (by decide) _ _ _ rfl (hownc.alloc _) ⟨wc.heap.size,0,none⟩ 1 1 [.string ⟨((l.drop f)).toArray⟩] rfl rfl ?c1 ?c2 ?c3 ?c4 ?c5 ?_)
   first | (case c1=>exact cell_one_new _ _ _) | skip
   first | (case c2=>first | rfl | (intro u hu;simp at hu;subst hu;rfl)) | skip
   first | (case c3=>unfold maxLen;omega) | skip
   first | (case c4=>omega) | skip
   first | (case c5=>simp;try omega) | skip
   intro v' w3 hown3 hgrow3 hnil3
   have hown4:=zdA hown3
   have hv':v'≠.slice none 0 0:=hnil3
   obtain ⟨g',cp',rfl⟩:=zdk hown4 hv'
   have hb3:Below w.heap.size w w3:=(hbd.alloc hbd.size _).grown hgrow3 (by simp;omega) (fun k e=>(hownc.lt k e).1)
   clear hown3 hgrow3 hnil3 hownc hbd hv'
   go_wp2
   refine zj8 ?_
   go_ret
   have hlen:(o++[l.drop f]).length=o.length+1:=by simp
   rw [hlen] at hown4
   exact ⟨g',cp',by rw [←HF.out,hlen];rfl,by rw [←HF.out,hlen];exact hown4,hb3⟩
set_option maxHeartbeats 1000000 in
set_option maxRecDepth 100000 in
theorem zp8 (l:List UInt8) (w:World) (hl:l.length≤1048576) :
 Calls Tryz.prog 83 #[.string ⟨l.toArray⟩] w fun e w'=>∃ v,e=.returned v∧w'.ownsRow w.heap.size 9 1 v (zbh l).length (strV (zbh l))∧Below w.heap.size w w':=by
 by_cases hle:l=[]
 ·
  subst hle
  have hown0:=(World.ownsRow_lit (base:=w.heap.size) (e:=9) (size:=1) w #[] 0 (Nat.le_refl _) (by decide) rfl)
  go_enter Tryz.func83,Tryz.ntmps83
  go_wp2
  go_ret
  exact ⟨_,rfl,hown0,(Below.refl _ _).alloc (Nat.le_refl _) _⟩
 ·
  have hlb:l.isEmpty=false:=by simp [hle]
  have HW:Hid (zbh l=za3 32 l):=by exact (if_neg hle:zbh l=za3 32 l)
  clear hle
  go_enter Tryz.func83,Tryz.ntmps83
  go_wp2_with fail
  refine (zlK l 32 32 _ (by rfl) hl).mono ?_
  rintro e w1 ⟨g,cp,rfl,hown,hb⟩
  go_wp2
  go_ret
  exact ⟨_,rfl,by rw [HW.out];exact hown,hb⟩
set_option maxHeartbeats 1000000 in
set_option maxRecDepth 100000 in
theorem zbW (l:List UInt8) (w:World) (hl:l.length≤1048576) :
 Calls Tryz.prog 66 #[.string ⟨l.toArray⟩] w fun e w'=>e=.returned (.bool (zaF l))∧w'=w:=by
 go_enter Tryz.func66,Tryz.ntmps66
 go_wp2
 go_loop [6] (fun ix=>∃ k:Nat,k≤l.length∧ix=.int .i64 k∧Hid (∀ j (hj:j<l.length),j<k→97≤l[j].toNat∧l[j].toNat≤122)) (fun ix=>l.length-(intOf ix).toNat)
 case atStart=>exact ⟨0,Nat.zero_le _,rfl,(fun j _ h=>by omega:∀ j (hj:j<l.length),j<0→_)⟩
 case round =>
  obtain ⟨k,hk,rfl,HK⟩:=hrel
  by_cases hkl:(k:Int)<(l.length:Int)
  ·
   have hk2:k<l.length:=by omega
   obtain ⟨x,hx⟩:∃ x:UInt8,l[k]=x:=⟨_,rfl⟩
   have hxb:(⟨l.toArray⟩:ByteArray)[k]'(by show k<l.toArray.size;simpa using hk2)=x:=hx
   by_cases h1:(x.toNat:Int)<97
   ·
    have HF:Hid (zaF l=false):=zgi l k hk2 (by rw [hx];omega)
    clear hx
    go_wp2
    go_ret
    exact ⟨by rw [HF.out];rfl,rfl⟩
   ·
    by_cases h2:122<(x.toNat:Int)
    ·
     have HF:Hid (zaF l=false):=zgi l k hk2 (by rw [hx];omega)
     clear hx
     go_wp2
     go_ret
     exact ⟨by rw [HF.out];rfl,rfl⟩
    ·
     have HS:Hid (∀ j (hj:j<l.length),j<k+1→97≤l[j].toNat∧l[j].toNat≤122):=fun j hj hjk=>by
      by_cases e:j=k
      ·
       subst e;rw [hx];omega
      ·
       exact HK.out j hj (by omega)
     clear hx
     go_wp2
     go_round
     case rel=>exact ⟨k+1,by omega,by go_num,HS⟩
     case measure=>simp [intOf];omega
  ·
   have HF:Hid (zaF l=inB (l.length:Int) 1 8):=zk5 l (fun j hj=>HK.out j hj (by omega))
   by_cases h1:1≤(l.length:Int)
   ·
    by_cases h2:(l.length:Int)≤8
    ·
     have HB:Hid (inB (l.length:Int) 1 8=true):=zdG _ _ _ h1 h2
     go_wp2
     go_ret
     exact ⟨by rw [HF.out,HB.out];rfl,rfl⟩
    ·
     have HB:Hid (inB (l.length:Int) 1 8=false):=zcv _ _ _ (by omega)
     go_wp2
     go_ret
     exact ⟨by rw [HF.out,HB.out];rfl,rfl⟩
   ·
    have HB:Hid (inB (l.length:Int) 1 8=false):=zcv _ _ _ (by omega)
    go_wp2
    go_ret
    exact ⟨by rw [HF.out,HB.out];rfl,rfl⟩
def sgn (t:List UInt8):Int:=if negB t=true then -1 else 1
theorem zmm {t:List UInt8} (h:zex t):zah t=sgn t*(valL (zaG t):Int)∧zaH t=true:=by
 refine ⟨?_,zdi h⟩
 unfold zah sgn
 rw [if_pos (zdi h)]
 split<;>omega
theorem zks:zah [48]=0∧zaH [48]=true:=by
 have hb:zaG [48]=[48]:=by decide
 have hf:zex [48]:=by
  refine ⟨by rw [hb];simp,?_,fun h=>by have:=h.2;simp at this⟩
  intro c hc
  rw [hb] at hc
  simp at hc
  subst hc
  decide
 have h:=zmm hf
 rw [hb] at h
 exact ⟨by rw [h.1];simp [valL],h.2⟩
theorem zig {t:List UInt8} (h:¬(1≤(zaG t).length∧(zaG t).length≤10)):zah t=0∧zaH t=false:=zbH fun hf=>h hf.1
theorem zlV {t q:List UInt8} (h:zaG t=48 :: q) (ht:t≠[48]):zah t=0∧zaH t=false:=zbH fun hf=>by
 refine hf.2.2 ⟨by rw [h];rfl,?_⟩
 unfold zaG at h
 split at h
 ·
  cases t with
  | nil=>simp at h
  | cons x r=>simp at h;subst h;simp
 ·
  subst h
  cases q with
  | nil=>exact absurd rfl ht
  | cons y r=>simp
theorem zih {t p q:List UInt8} {x:UInt8} (h:zaG t=p++x :: q) (hx:¬zbe x):zah t=0∧zaH t=false:=zbH fun hf=>hx (hf.2.1 x (by rw [h];simp))
theorem form_all {t:List UInt8} (hl:1≤(zaG t).length∧(zaG t).length≤10) (hd:∀ c∈zaG t,zbe c) (hh:(zaG t).head?≠some 48):zah t=sgn t*(valL (zaG t):Int)∧zaH t=true :=
 zmm ⟨hl,hd,fun h=>hh h.1⟩
theorem digs_bd {p:List UInt8} (hl:p.length≤10) (hd:∀ c∈p,zbe c):(valL p:Int)<10000000000:=by
 have h1:=zkW p hd
 have h2:(10:Nat) ^ p.length≤10 ^ 10:=Nat.pow_le_pow_right (by omega) hl
 omega
set_option maxHeartbeats 1000000 in
set_option maxRecDepth 100000 in
theorem zmC (t:List UInt8) (w:World) (hl:t.length≤1048576) :
 Calls Tryz.prog 112 #[.string ⟨t.toArray⟩,.string ⟨#[45]⟩] w fun e w'=>e=.returned (.bool (negB t))∧w'=w:=by
 have hlite:Calls Tryz.prog 144 #[.string ⟨t.toArray⟩,.string ⟨#[45]⟩] w fun e w'=>e=.returned (.bool (negB t))∧w'=w:=by
  cases t with
  | nil =>
   go_enter Tryz.func144,Tryz.ntmps144
   go_wp2
   go_ret
   exact ⟨rfl,rfl⟩
  | cons x r =>
   have hext:=zbL
   have hl1:(1:Int)≤((r.length+1:Nat):Int):=by omega
   go_enter Tryz.func144,Tryz.ntmps144
   go_wp2
   go_ret
   exact ⟨rfl,rfl⟩
 go_enter Tryz.func112,Tryz.ntmps112
 go_wp2_with fail
 refine hlite.mono ?_
 rintro e w1 ⟨rfl,rfl⟩
 go_wp2
 go_ret
 exact ⟨rfl,rfl⟩
def NumJ (t:List UInt8) (w:World) (L:Nat) (a:Act) (wr:World):Prop :=
 Below w.heap.size w wr∧∃ (n sg:Int) (r:List UInt8) (u1 u2 u3 u7 u8 u9 u10 u11 u12 u13 u14 u15 u16 u17 u18 u19 u20 u21 u22 u23 u24 u25 u26 u27 u28 u29 u30 u31 u32 u33 u34 u35 u36 u37 u38 u39 u40 u41 u42 u43 u44 u45 u46 u47 u48:Value),a={ tmps:=#[.string ⟨t.toArray⟩,u1,u2,u3,.int .i64 n,.int .i64 sg,.string ⟨r.toArray⟩,u7,u8,u9,u10,u11,u12,u13,u14,u15,u16,u17,u18,u19,u20,u21,u22,u23,u24,u25,u26,u27,u28,u29,u30,u31,u32,u33,u34,u35,u36,u37,u38,u39,u40,u41,u42,u43,u44,u45,u46,u47,u48],defers:=[] } ∧
  ((L=1∧r=zaG t∧n=0∧sg=sgn t∧t≠[48]) ∨
   (L=3∧sg=sgn t∧∃ p x q,r=x :: q∧Hid (zaG t=p++x :: q)∧n=(valL p:Int)∧(zaG t).length≤10∧(∀ c∈p,zbe c)∧(zaG t).head?≠some 48) ∨
   (L=0∧Hid (zah t=sg*n∧zaH t=true)) ∨
   (L=2∧Hid (zah t=0∧zaH t=false)))
def zgT:Value→Nat | .string s=>s.size | _=>0
def numM (t:List UInt8) (L:Nat) (a:Act) (_:World):Nat :=
 match L with
 | 0=>0
 | 1=>t.length+10
 | 2=>0
 | _=>zgT (a.tmps.getD 6 undef)+1
theorem zpP (t:List UInt8):(zaG t).length≤t.length:=by
 unfold zaG
 split
 ·
  rw [List.length_tail];omega
 ·
  exact Nat.le_refl _
set_option maxHeartbeats 4000000 in
set_option maxRecDepth 100000 in
theorem zfS (t:List UInt8) (w:World) (hl:t.length≤1048576) :
 Calls Tryz.prog 84 #[.string ⟨t.toArray⟩] w fun e w'=>e=.returned (.tuple #[.int .i64 (zah t),.bool (zaH t)])∧Below w.heap.size w w':=by
 have hext:=zbL
 have hbl:=zpP t
 go_enter Tryz.func84,Tryz.ntmps84
 go_wp2
 refine zeS (NumJ t w) (numM t) ?pass ?first
 case first =>
  intro fall
  by_cases ht:t=[48]
  ·
   subst ht
   go_wp2
   go_step3
   exact ⟨Below.refl _ _,0,1,[48],_,_,_,_,_,_,_,_,_,_,_,_,_,_,_,_,_,_,_,_,_,_,_,_,_,_,_,_,_,_,_,_,_,_,_,_,_,_,_,_,_,_,_,_,_,rfl,Or.inr (Or.inr (Or.inl ⟨rfl,(by rw [zks.1,zks.2];exact ⟨rfl,rfl⟩:_∧_)⟩))⟩
  ·
   have htb:(t==[48])=false:=beq_eq_false_iff_ne.2 ht
   rcases hn:negB t with _ | _
   ·
    have HN:Hid (negB t=false):=hn
    have HB:Hid (zaG t=t):=by exact (by unfold zaG;rw [hn];simp:zaG t=t)
    have HG:Hid (sgn t=1):=by exact (by unfold sgn;rw [hn];simp:sgn t=1)
    have HT:Hid (t≠[48]):=ht
    clear hn ht
    go_wp2_with (go_at_call 112;refine (zmC t _ hl).mono ?_;rintro e w' ⟨rfl,rfl⟩;rw [HN.out])
    go_step3
    exact ⟨Below.refl _ _,0,1,t,_,_,_,_,_,_,_,_,_,_,_,_,_,_,_,_,_,_,_,_,_,_,_,_,_,_,_,_,_,_,_,_,_,_,_,_,_,_,_,_,_,_,_,_,_,rfl,Or.inl ⟨rfl,HB.out.symm,rfl,HG.out.symm,HT.out⟩⟩
   ·
    obtain ⟨q,rfl⟩:∃ q,t=45 :: q:=by
     unfold negB at hn
     cases t with
     | nil=>simp at hn
     | cons x r=>simp at hn;exact ⟨r,by rw [hn]⟩
    have HN:Hid (negB (45 :: q)=true):=hn
    have HB:Hid (zaG (45 :: q)=q):=by exact (by unfold zaG;rw [hn];simp:zaG (45 :: q)=q)
    have HG:Hid (sgn (45 :: q)=-1):=by exact (by unfold sgn;rw [hn];simp:sgn (45 :: q)=-1)
    have HT:Hid (45 :: q≠[48]):=ht
    clear hn ht
    go_wp2_with (go_at_call 112;refine (zmC (45 :: q) _ hl).mono ?_;rintro e w' ⟨rfl,rfl⟩;rw [HN.out])
    go_quiet (fail)
    go_wp2
    go_step3
    rename_i K hK
    apply hK
    refine fall 1 _ _ ?_ _ rfl
    exact ⟨⟨rfl,rfl,rfl,Nat.le_refl _,fun _ _=>rfl⟩,0,-1,q,_,_,_,_,_,_,_,_,_,_,_,_,_,_,_,_,_,_,_,_,_,_,_,_,_,_,_,_,_,_,_,_,_,_,_,_,_,_,_,_,_,_,_,_,_,rfl,Or.inl ⟨rfl,HB.out.symm,rfl,HG.out.symm,HT.out⟩⟩
 case pass =>
  rintro L a wr ⟨hb,n,sg,r,u1,u2,u3,u7,u8,u9,u10,u11,u12,u13,u14,u15,u16,u17,u18,u19,u20,u21,u22,u23,u24,u25,u26,u27,u28,u29,u30,u31,u32,u33,u34,u35,u36,u37,u38,u39,u40,u41,u42,u43,u44,u45,u46,u47,u48,rfl,hL⟩ fall
  rcases hL with ⟨rfl,hr,rfl,hsg0,ht⟩ | ⟨rfl,hsg0,p,x,q,rfl,HB,rfl,hlen,hd,hh⟩ | ⟨rfl,HO⟩ | ⟨rfl,HO⟩
  ·
   refine ⟨_,rfl,?_⟩
   have HSG:Hid (sg=sgn t):=hsg0
   clear hsg0
   cases r with
   | nil =>
    have HO:Hid (zah t=0∧zaH t=false):=zig (by rw [←hr];simp)
    clear hr
    go_wp2
    go_step3
    show NumJ t w 2 _ _∧numM t 2 _ _<numM t 1 _ _
    exact ⟨⟨hb,0,sg,[],_,_,_,_,_,_,_,_,_,_,_,_,_,_,_,_,_,_,_,_,_,_,_,_,_,_,_,_,_,_,_,_,_,_,_,_,_,_,_,_,_,_,_,_,_,rfl,Or.inr (Or.inr (Or.inr ⟨rfl,HO⟩))⟩,by simp [numM]⟩
   | cons x q =>
    have hxb:(⟨(x :: q).toArray⟩:ByteArray)[0]'(by show 0<(x :: q).toArray.size;simp)=x:=rfl
    have hql:q.length+1≤t.length:=by rw [←hr] at hbl;simpa using hbl
    by_cases hx:x=48
    ·
     subst hx
     have HO:Hid (zah t=0∧zaH t=false):=zlV hr.symm ht
     clear hr
     go_wp2
     go_step3
     show NumJ t w 2 _ _∧numM t 2 _ _<numM t 1 _ _
     exact ⟨⟨hb,0,sg,48 :: q,_,_,_,_,_,_,_,_,_,_,_,_,_,_,_,_,_,_,_,_,_,_,_,_,_,_,_,_,_,_,_,_,_,_,_,_,_,_,_,_,_,_,_,_,_,rfl,Or.inr (Or.inr (Or.inr ⟨rfl,HO⟩))⟩,by simp [numM]⟩
    ·
     have hdx:((x.toNat:Int)==48)=false:=beq_eq_false_iff_ne.2 (fun e=>hx (UInt8.toNat_inj.1 (by have h48:(48:UInt8).toNat=48:=rfl;omega)))
     by_cases h10:10<((q.length:Int)+1)
     ·
      have HO:Hid (zah t=0∧zaH t=false):=zig (by rw [←hr];simp;omega)
      clear hr hx
      go_wp2
      go_step3
      show NumJ t w 2 _ _∧numM t 2 _ _<numM t 1 _ _
      exact ⟨⟨hb,0,sg,x :: q,_,_,_,_,_,_,_,_,_,_,_,_,_,_,_,_,_,_,_,_,_,_,_,_,_,_,_,_,_,_,_,_,_,_,_,_,_,_,_,_,_,_,_,_,_,rfl,Or.inr (Or.inr (Or.inr ⟨rfl,HO⟩))⟩,by simp [numM]⟩
     ·
      have HB:Hid (zaG t=[]++x :: q):=hr.symm
      have HH:Hid ((zaG t).head?≠some 48):=by exact (by rw [←hr];simpa using hx:(zaG t).head?≠some 48)
      have HL:Hid ((zaG t).length≤10):=by exact (by rw [←hr];simp;omega:(zaG t).length≤10)
      clear hr hx
      go_wp2
      go_step3
      rename_i K hK
      apply hK
      refine fall 3 _ _ ?_ ?_ _ rfl
      ·
       exact ⟨hb,0,sg,x :: q,_,_,_,_,_,_,_,_,_,_,_,_,_,_,_,_,_,_,_,_,_,_,_,_,_,_,_,_,_,_,_,_,_,_,_,_,_,_,_,_,_,_,_,_,_,rfl,Or.inr (Or.inl ⟨rfl,HSG.out,[],x,q,rfl,HB,by simp [valL],HL.out,by simp,HH.out⟩)⟩
      ·
       show zgT (.string ⟨(x :: q).toArray⟩)+1<t.length+10
       have:zgT (.string ⟨(x :: q).toArray⟩)=(x :: q).length:=List.size_toArray
       rw [this,List.length_cons];omega
  ·
   refine ⟨_,rfl,?_⟩
   have HSG:Hid (sg=sgn t):=hsg0
   clear hsg0
   have hxb:(⟨(x :: q).toArray⟩:ByteArray)[0]'(by show 0<(x :: q).toArray.size;simp)=x:=rfl
   have hpl:p.length+1≤10:=by rw [HB.out] at hlen;simp at hlen;omega
   have hvb:=digs_bd (by omega) hd
   by_cases hd1:(x.toNat:Int)<48
   ·
    have HO:Hid (zah t=0∧zaH t=false):=zih HB.out (by unfold zbe;omega)
    go_wp2
    go_step3
    show NumJ t w 2 _ _∧numM t 2 _ _<numM t 3 _ _
    exact ⟨⟨hb,_,sg,x :: q,_,_,_,_,_,_,_,_,_,_,_,_,_,_,_,_,_,_,_,_,_,_,_,_,_,_,_,_,_,_,_,_,_,_,_,_,_,_,_,_,_,_,_,_,_,rfl,Or.inr (Or.inr (Or.inr ⟨rfl,HO⟩))⟩,by simp [numM]⟩
   ·
    by_cases hd2:57<(x.toNat:Int)
    ·
     have HO:Hid (zah t=0∧zaH t=false):=zih HB.out (by unfold zbe;omega)
     go_wp2
     go_step3
     show NumJ t w 2 _ _∧numM t 2 _ _<numM t 3 _ _
     exact ⟨⟨hb,_,sg,x :: q,_,_,_,_,_,_,_,_,_,_,_,_,_,_,_,_,_,_,_,_,_,_,_,_,_,_,_,_,_,_,_,_,_,_,_,_,_,_,_,_,_,_,_,_,_,rfl,Or.inr (Or.inr (Or.inr ⟨rfl,HO⟩))⟩,by simp [numM]⟩
    ·
     have hdx:∀ c∈p++[x],zbe c:=fun c hc=>by
      rw [List.mem_append] at hc
      rcases hc with hc | hc
      ·
       exact hd c hc
      ·
       simp at hc;subst hc;unfold zbe;omega
     have hv:=zdQ p x
     cases q with
     | nil =>
      have hO:=form_all (t:=t) (by rw [HB.out];simp;omega) (by rw [HB.out];exact hdx) hh
      rw [HB.out,←HSG.out,hv] at hO
      rw [show (((valL p*10+(x.toNat-48):Nat)):Int)=10*(valL p:Int)+((x.toNat:Int)-48) by omega] at hO
      have HO:Hid (zah t=sg*(10*(valL p:Int)+((x.toNat:Int)-48))∧zaH t=true):=hO
      clear hO hv hh hdx hd
      go_wp2
      go_step3
      rename_i K hK
      apply hK
      refine fall 0 _ _ ?_ ?_ _ rfl
      ·
       exact ⟨hb,_,sg,[],_,_,_,_,_,_,_,_,_,_,_,_,_,_,_,_,_,_,_,_,_,_,_,_,_,_,_,_,_,_,_,_,_,_,_,_,_,_,_,_,_,_,_,_,_,rfl,Or.inr (Or.inr (Or.inl ⟨rfl,HO⟩))⟩
      ·
       simp [numM]
     | cons y q =>
      have HB2:Hid (zaG t=(p++[x])++y :: q):=by exact (by rw [HB.out];simp:zaG t=(p++[x])++y :: q)
      have HV:Hid (valL (p++[x])=valL p*10+(x.toNat-48)):=hv
      have HD:Hid (∀ c∈p++[x],zbe c):=hdx
      clear hv hdx hd HB
      go_wp2
      go_step3
      show NumJ t w 3 _ _∧numM t 3 _ _<numM t 3 _ _
      refine ⟨⟨hb,_,sg,y :: q,_,_,_,_,_,_,_,_,_,_,_,_,_,_,_,_,_,_,_,_,_,_,_,_,_,_,_,_,_,_,_,_,_,_,_,_,_,_,_,_,_,_,_,_,_,rfl,Or.inr (Or.inl ⟨rfl,HSG.out,p++[x],y,q,rfl,HB2,?_,hlen,HD.out,hh⟩)⟩,?_⟩
      ·
       rw [HV.out];omega
      ·
       show zgT (.string ⟨(y :: q).toArray⟩)+1<zgT (.string ⟨(x :: y :: q).toArray⟩)+1
       have e1:zgT (.string ⟨(y :: q).toArray⟩)=(y :: q).length:=List.size_toArray
       have e2:zgT (.string ⟨(x :: y :: q).toArray⟩)=(x :: y :: q).length:=List.size_toArray
       rw [e1,e2];simp
  ·
   refine ⟨_,rfl,?_⟩
   have hbd:=zgf t
   rw [HO.out.1] at hbd
   obtain ⟨hb1,hb2⟩:=hbd
   go_wp2
   refine zj8 ?_
   go_ret2
   exact ⟨by rw [HO.out.1,HO.out.2];rfl,hb⟩
  ·
   refine ⟨_,rfl,?_⟩
   go_wp2
   refine zj8 ?_
   go_ret2
   exact ⟨by rw [HO.out.1,HO.out.2];rfl,hb⟩
end Go.Proofs.YtdbljnddkbpanaaGreatDoor
