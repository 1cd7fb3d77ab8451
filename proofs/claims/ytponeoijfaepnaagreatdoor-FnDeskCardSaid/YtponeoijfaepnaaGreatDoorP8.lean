/-
  Parts of one proof, one behind the other: ProjS4, ProjS5, ProjS6, Bend1, Bend2, RowW, PackS4, TreeS4, TreeS5, PackC, NodeL, PackC2, PackS5.
-/
import Derived.Test.YtponeoijfaepnaaGreatDoorP7
namespace Go.Proofs.YtponeoijfaepnaaGreatDoor
open Go.RowKit
set_option maxHeartbeats 4000000
set_option maxRecDepth 100000
theorem app8 {X:World} {B:Nat} {v x:Value} {n m:Nat} {ls ms:List (List UInt8)} (hv:X.ownsRow B 9 1 v n (strV ls)) (hb:B≤X.heap.size) (hs:Src X x m 1 (strV ms)) (hn:n+m≤4194304) :
 ∃ v' Y,(Builtin.append_ #[67,67] 67 #[v,x]).run Tryz.prog X=.ok v' Y∧Y.ownsRow B 9 1 v' (n+m) (strV (ls++ms))∧X.grownBy Y v.ownBlock:=by
 obtain ⟨i0,hi,hz0,hz1,hz2⟩:=info_parts zn1;obtain ⟨v',Y,hrun,hown,hg,_⟩:=zar (P:=Tryz.prog) X B 67 67 9 i0 _ 1 16 Tryz.underlying67 hi hz0 hz1 hz2 rfl (by decide) _ _ _ hv x m (strV ms) hs (by unfold maxLen;omega) (by omega) hb;have e:strV (ls++ms)=strV ls++strV ms:=by simp [strV]
 exact ⟨v',Y,hrun,by rw [e];exact hown,hg⟩
theorem za7.src8 {w:World} {a:Option Addr} {len cap:Nat} {ts:List (List UInt8)} (h:za7 w a len ts) (hc:a=none→cap=0):Src w (.slice a len cap) len 1 (strV ts):=by
 have hl:(strV ts).length=len:=by simp [strV,h.1]
 refine ⟨by omega,fun u hu=>?_,?_⟩
 ·
  simp only [strV,List.mem_map] at hu;obtain ⟨l,_,rfl⟩:=hu
  rfl
 ·
  rcases Nat.eq_zero_or_pos len with h0 | h0
  ·
   cases a with
   | none=>left;rw [hc rfl,h0];exact ⟨rfl,rfl⟩
   | some ad=>right;exact ⟨ad,cap,rfl,fun j u hu=>by rw [List.getElem?_eq_none (by omega)] at hu;cases hu⟩
  ·
   obtain ⟨b,off,rfl,_,hcell⟩:=h.at h0;right;refine ⟨_,cap,rfl,fun j u hu=>?_⟩;have hj:j<len:=by have:=(List.getElem?_eq_some_iff.1 hu).1;omega
   have e:(⟨b,off,none⟩:Addr).add j=⟨b,off+j,none⟩:=by unfold Addr.add;split<;>simp_all
   rw [e,hcell j hj];have h2:(strV ts)[j]?=some (.string ⟨(ts.getD j []).toArray⟩):=by simp [strV,List.getD,List.getElem?_eq_getElem (show j<ts.length by rw [h.1];exact hj)]
   rw [←h2];exact hu
theorem src_take {w:World} {B g cap:Nat} {ts:List (List UInt8)} (h:w.ownsRow B 9 1 (.slice (some ⟨g,0,none⟩) ts.length cap) ts.length (strV ts)) {k:Nat} (hk:k≤ts.length):Src w (.slice (some ⟨g,0,none⟩) k cap) k 1 (strV (ts.take k)):=by
 refine ⟨by simp [strV];omega,fun u hu=>?_,Or.inr ⟨_,cap,rfl,fun j u hu=>?_⟩⟩
 ·
  simp only [strV,List.mem_map] at hu;obtain ⟨l,_,rfl⟩:=hu
  rfl
 ·
  have hj:j<k:=by have:=(List.getElem?_eq_some_iff.1 hu).1;simp [strV] at this;omega
  have e:(⟨g,0,none⟩:Addr).add j=⟨g,j,none⟩:=by unfold Addr.add;split<;>simp_all
  rw [e,World.ownsRow.cellAt h j (by omega)];rw [←znG,List.getElem?_take,if_pos hj] at hu;exact hu
theorem src_drop {w:World} {B g cap:Nat} {ts:List (List UInt8)} (h:w.ownsRow B 9 1 (.slice (some ⟨g,0,none⟩) ts.length cap) ts.length (strV ts)) {k:Nat} (hk:k≤ts.length):Src w (.slice (if cap=k then some ⟨g,0,none⟩ else some ⟨g,k,none⟩) (ts.length-k) (cap-k)) (ts.length-k) 1 (strV (ts.drop k)):=by
 have hcap:=zkB h
 have hone:∀ u∈strV (ts.drop k),u.oneCell'=true:=fun u hu=>by
  simp only [strV,List.mem_map] at hu;obtain ⟨l,_,rfl⟩:=hu
  rfl
 by_cases hc:cap=k
 ·rw [if_pos hc];have hd:ts.drop k=[]:=List.drop_eq_nil_of_le (by omega);rw [hd];exact ⟨by simp [strV];omega,fun u hu=>by simp [strV] at hu,Or.inr ⟨_,_,rfl,fun j u hu=>by simp [strV] at hu⟩⟩
 ·
  rw [if_neg hc];refine ⟨by simp [strV],hone,Or.inr ⟨_,cap-k,rfl,fun j u hu=>?_⟩⟩
  have hj:j<ts.length-k:=by
   have:=(List.getElem?_eq_some_iff.1 hu).1
   simpa [strV] using this
  have e:(⟨g,k,none⟩:Addr).add j=⟨g,k+j,none⟩:=by unfold Addr.add;split<;>simp_all
  rw [e,World.ownsRow.cellAt h (k+j) (by omega)];have e2:(strV (ts.drop k))[j]?=(strV ts)[k+j]?:=by simp [strV,List.getElem?_drop]
  rw [←e2];exact hu
theorem znN (B g cap:Nat) (ts:List (List UInt8)) (s:List UInt8) (w:World) (h:w.ownsRow B 9 1 (.slice (some ⟨g,0,none⟩) ts.length cap) ts.length (strV ts)) (hB:B≤w.heap.size) (hlen:ts.length≤1048576) :
 Calls Tryz.prog 90 #[.slice (some ⟨g,0,none⟩) ts.length cap,.string ⟨s.toArray⟩] w fun e w'=>∃ g' c',e=.returned (.slice (some ⟨g',0,none⟩) (put8 ts s).length c')∧w'.ownsRow B 9 1 (.slice (some ⟨g',0,none⟩) (put8 ts s).length c') (put8 ts s).length (strV (put8 ts s))∧Below w.heap.size w w':=by
 have hcap:=zkB h;have HO:Hid (w.ownsRow B 9 1 (.slice (some ⟨g,0,none⟩) ts.length cap) ts.length (strV ts)):=h;have hc1:(ts.length:Int)≤(cap:Int):=by omega
 go_enter Tryz.func90,Tryz.ntmps90
 go_wp2
 go_loopw [5] (fun iv wr=>∃ k:Nat,iv=.int .i64 (k:Int)∧k≤ts.length∧Hid (∀ i,i<k→Op.bytesLess (ts.getD i []) s=true)∧w=wr) (fun iv _=>ts.length-(intOf iv).toNat)
 case atStart=>exact ⟨0,rfl,by omega,(fun i hi=>by omega),rfl⟩
 case round =>
  obtain ⟨k,rfl,hk,HA,rfl⟩:=hrel
  -- the way on where the text is not there
  have HW:Hid (low8 s ts=k→ts[k]?≠some s→∃ v1 Y1 v2 Y2 v3 Y3 g' c' Y4,(Builtin.append_ #[67,67] 67 #[.slice (some ⟨w.heap.size,0,none⟩) 0 0,.slice (if cap=k then some ⟨g,0,none⟩ else some ⟨g,k,none⟩) (ts.length-k) (cap-k)]).run Tryz.prog (w.alloc (.cells #[] 9))=.ok v1 Y1 ∧
   (Builtin.append_ #[67,67] 67 #[.slice (some ⟨Y1.heap.size,0,none⟩) 0 0,.slice (some ⟨g,0,none⟩) k cap]).run Tryz.prog (Y1.alloc (.cells #[] 9))=.ok v2 Y2 ∧
   (Builtin.append_ #[67,67] 67 #[v2,.slice (some ⟨Y2.heap.size,0,none⟩) 1 1]).run Tryz.prog (Y2.alloc (.cells #[.string ⟨s.toArray⟩] 9))=.ok v3 Y3 ∧
   (Builtin.append_ #[67,67] 67 #[v3,v1]).run Tryz.prog Y3=.ok (.slice (some ⟨g',0,none⟩) (put8 ts s).length c') Y4∧Y4.ownsRow B 9 1 (.slice (some ⟨g',0,none⟩) (put8 ts s).length c') (put8 ts s).length (strV (put8 ts s))∧Below w.heap.size w Y4):=fun hlow hno=>by
   have hput:put8 ts s=ts.take k++s :: ts.drop k:=by unfold put8;rw [hlow,if_neg hno]
   have hb1:Below w.heap.size w (w.alloc (.cells #[] 9)):=(Below.refl _ _).alloc (Nat.le_refl _) _;have ho1:=(World.ownsRow_lit (base:=w.heap.size) (e:=9) (size:=1) w #[] 0 (Nat.le_refl _) (by decide) rfl);obtain ⟨v1,Y1,hr1,hv1,hg1⟩:=app8 (ls:=[]) ho1 hb1.size (src_drop (za5 HO.out hb1) hk) (by omega);have hbY1:Below w.heap.size w Y1:=hb1.grown hg1 hb1.size (fun q e=>by simp [Value.ownBlock] at e;omega);have hb2:Below Y1.heap.size Y1 (Y1.alloc (.cells #[] 9)):=(Below.refl _ _).alloc (Nat.le_refl _) _;have ho2:=(World.ownsRow_lit (base:=Y1.heap.size) (e:=9) (size:=1) Y1 #[] 0 (Nat.le_refl _) (by decide) rfl);obtain ⟨v2,Y2,hr2,hv2,hg2⟩:=app8 (ls:=[]) ho2 hb2.size (src_take (za5 (za5 HO.out hbY1) hb2) hk) (by omega);have hbY2:Below Y1.heap.size Y1 Y2:=hb2.grown hg2 hb2.size (fun q e=>by simp [Value.ownBlock] at e;omega);obtain ⟨v3,Y3,hr3,hv3,hg3⟩:=zci s hv2 hbY2.size (by simp;omega);have hbY3:Below Y1.heap.size Y1 Y3:=hbY2.grown hg3 hbY2.size (fun q e=>(hv2.lt q e).1);have hv1Y3:=za5 hv1 hbY3;obtain ⟨_,a1,c1,rfl,hin1⟩:=zaP hv1
   have hsrc1:Src Y3 (.slice a1 (0+(ts.length-k)) c1) (0+(ts.length-k)) 1 (strV ([]++ts.drop k)):=by
    obtain ⟨_,a2,c2,e2,hin2⟩:=zaP hv1Y3;injection e2 with e2a _ e2c;subst e2a e2c;refine hin2.src8 (fun e=>?_);rcases zaR hv1Y3 with ⟨e3,_,_⟩ | ⟨g3,cp3,e3⟩
    ·injection e3
    ·injection e3 with e3;rw [e] at e3;cases e3
   obtain ⟨v4,Y4,hr4,hv4,hg4⟩:=app8 hv3 hbY3.size hsrc1 (by omega);have e4:[]++ts.take k++[s]++([]++ts.drop k)=put8 ts s:=by rw [hput];simp
   have e5:0+k+1+(0+(ts.length-k))=(put8 ts s).length:=by rw [hput];simp;omega
   rw [e4,e5] at hv4;obtain ⟨g',c',rfl⟩:=zaw hv4 (by rw [←e5];omega);exact ⟨_,Y1,v2,Y2,v3,Y3,g',c',Y4,hr1,hr2,hr3,hr4,zaD hv4 (Nat.le_trans hB hbY1.size),hbY1.trans ((hbY3.grown hg4 hbY3.size (fun q e=>(hv3.lt q e).1)).mono hbY1.size)⟩
  by_cases hkl:(k:Int)<(ts.length:Int)
  ·
   have hk2:k<ts.length:=by omega
   have c0:=zfh HO.out rfl k hk2;have hat:ts[k]?=some (ts.getD k []):=by simp [List.getD,hk2]
   have hlow:=zkJ s ts k HA.out hk;obtain ⟨x,hx⟩:∃ x,ts.getD k []=x:=⟨_,rfl⟩
   rw [hx] at c0 hat hlow;rcases hb:Op.bytesLess x s with _ | _
   ·
    have hl:=hlow (Or.inr hb);by_cases hxs:x=s
    ·
     subst hxs;have HPt:Hid (put8 ts x=ts):=by exact (by unfold put8;rw [hl,if_pos hat]:put8 ts x=ts)
     have hself:(x==x)=true:=by simp
     clear HW HA hat hlow hx hl;go_wp2;go_ret;exact ⟨g,cap,by rw [HPt.out];rfl,by rw [HPt.out];exact HO.out,Below.refl _ _⟩
    ·
     obtain ⟨v1,Y1,v2,Y2,v3,Y3,g',c',Y4,hr1,hr2,hr3,hr4,hv4,hbY4⟩:=HW.out hl (by rw [hat];intro e;injection e with e;exact hxs e);have hne:(x==s)=false:=by rw [beq_eq_false_iff_ne];exact hxs
     have HV4:Hid (Y4.ownsRow B 9 1 (.slice (some ⟨g',0,none⟩) (put8 ts s).length c') (put8 ts s).length (strV (put8 ts s))):=hv4;rw [if_neg (show ¬cap=k by omega)] at hr1;clear HW HA hat hlow hx hl hv4 h;have hkc:(k:Int)≤(cap:Int):=by omega
     go_wp2_with (at_builtin;first | (refine za0 rfl (.tmp 34) (.tmp 37) 67 rfl _ _ _ rfl rfl hr1 ?_;clear hr1) | (refine za0 rfl (.tmp 39) (.tmp 42) 67 rfl _ _ _ rfl rfl hr2 ?_;clear hr2) | (refine za0 rfl (.tmp 43) (.tmp 45) 67 rfl _ _ _ rfl rfl hr3 ?_;clear hr3) | (refine za0 rfl (.tmp 46) (.tmp 47) 67 rfl _ _ _ rfl rfl hr4 ?_;clear hr4))
     go_ret;exact ⟨g',c',rfl,HV4.out,hbY4⟩
   ·
    have HA2:Hid (∀ i,i<k+1→Op.bytesLess (ts.getD i []) s=true):=fun i hi=>by
     rcases Nat.lt_or_ge i k with h | h
     ·exact HA.out i h
     ·
      obtain rfl:i=k:=by omega
      rw [hx];exact hb
    clear HW HA hat hlow hx;go_wp2;go_roundw
    case rel=>exact ⟨k+1,by go_num,by omega,HA2,trivial⟩
    case measure=>simp [intOf];omega
  ·
   obtain rfl:k=ts.length:=by omega
   obtain ⟨v1,Y1,v2,Y2,v3,Y3,g',c',Y4,hr1,hr2,hr3,hr4,hv4,hbY4⟩:=HW.out (zkJ s ts _ HA.out hk (Or.inl rfl)) (by simp);have HV4:Hid (Y4.ownsRow B 9 1 (.slice (some ⟨g',0,none⟩) (put8 ts s).length c') (put8 ts s).length (strV (put8 ts s))):=hv4;clear HW HA hv4;by_cases hcl:cap=ts.length
   ·
    subst hcl;rw [if_pos rfl] at hr1;simp only [Nat.sub_self] at hr1;clear h
    go_wp2_with (at_builtin;first | (refine za0 rfl (.tmp 34) (.tmp 37) 67 rfl _ _ _ rfl rfl hr1 ?_;clear hr1) | (refine za0 rfl (.tmp 39) (.tmp 42) 67 rfl _ _ _ rfl rfl hr2 ?_;clear hr2) | (refine za0 rfl (.tmp 43) (.tmp 45) 67 rfl _ _ _ rfl rfl hr3 ?_;clear hr3) | (refine za0 rfl (.tmp 46) (.tmp 47) 67 rfl _ _ _ rfl rfl hr4 ?_;clear hr4))
    go_ret;exact ⟨g',c',rfl,HV4.out,hbY4⟩
   ·
    rw [if_neg hcl,Nat.sub_self] at hr1;clear h;have hcl2:¬(cap:Int)=(ts.length:Int):=by omega
    go_wp2_with (at_builtin;first | (refine za0 rfl (.tmp 34) (.tmp 37) 67 rfl _ _ _ rfl rfl hr1 ?_;clear hr1) | (refine za0 rfl (.tmp 39) (.tmp 42) 67 rfl _ _ _ rfl rfl hr2 ?_;clear hr2) | (refine za0 rfl (.tmp 43) (.tmp 45) 67 rfl _ _ _ rfl rfl hr3 ?_;clear hr3) | (refine za0 rfl (.tmp 46) (.tmp 47) 67 rfl _ _ _ rfl rfl hr4 ?_;clear hr4))
    go_ret;exact ⟨g',c',rfl,HV4.out,hbY4⟩
theorem zmt (ps qs:List Pk) (o:List (List UInt8)) (k:Nat) (hk:k<qs.length):zd9 ps (qs.take (k+1)) o=zdF ps (zd9 ps (qs.take k) o) (qs.getD k pk0):=by
 have e:qs.getD k pk0=qs[k]:=by simp [List.getD,hk]
 unfold zd9;rw [List.take_succ_eq_append_getElem hk,List.foldl_append,e]
 rfl
theorem zkN (ps:List Pk) (o ms:List (List UInt8)) (k:Nat) (hk:k<ms.length):zdg ps o (ms.take (k+1))=in8 ps (zdg ps o (ms.take k)) (ms.getD k []):=by
 have e:ms.getD k []=ms[k]:=by simp [List.getD,hk]
 unfold zdg;rw [List.take_succ_eq_append_getElem hk,List.foldl_append,e]
 rfl
theorem in8_at (ps:List Pk) (o:List (List UInt8)) (m:List UInt8):in8 ps o m=if at8 ps m<0 then o else put8 o m:=by
 unfold in8;have h:=zdB ps m;by_cases hm:m∈za4 ps
 ·rw [if_pos hm,if_neg (by have:=h.2 hm;omega)]
 ·
  rw [if_neg hm,if_pos (by
   rcases Int.lt_or_le (at8 ps m) 0 with g | g
   ·exact g
   ·exact absurd (h.1 g) hm)]
theorem Re8.prefix {ps:List Pk} {s:List UInt8} {o:List (List UInt8)} (h:Re8 ps s o) (k:Nat):Re8 ps s (zd9 ps (ps.take k) o):=Re8.step _ _ (fun _ hq=>List.mem_of_mem_take hq) h
theorem Re8.part {ps:List Pk} {s:List UInt8} {o:List (List UInt8)} (h:Re8 ps s o) {p:Pk} (hp:p∈ps) (hpo:p.1∈o) (i:Nat):Re8 ps s (zdg ps o (p.2.1.take i)):=Re8.inner hp _ _ h hpo (fun _ hm=>List.mem_of_mem_take hm)
structure Ro8 (w X:World) (ps:List Pk) (g c:Nat) (o:List (List UInt8)):Prop where
 own:X.ownsRow w.heap.size 9 1 (.slice (some ⟨g,0,none⟩) o.length c) o.length (strV o)
 h:Below w.heap.size w X
theorem Ro8.texts {w X:World} {ps:List Pk} {g c:Nat} {o:List (List UInt8)} (r:Ro8 w X ps g c o):za7 X (some ⟨g,0,none⟩) o.length o:=by
 obtain ⟨_,a',c',e,h⟩:=zaP r.own;injection e with e1 _ _;subst e1;exact h
theorem zmD (a:Option Addr) (len cap:Nat) (ps:List Pk) (s:List UInt8) (w:World) (hin:zav w a len ps) (hp:zaK ps=true) (hs:s∈za4 ps) :
 Calls Tryz.prog 126 #[.slice a len cap,.string ⟨s.toArray⟩] w fun e w'=>∃ g c,e=.returned (.slice (some ⟨g,0,none⟩) (zcw ps s).length c)∧w'.ownsRow w.heap.size 9 1 (.slice (some ⟨g,0,none⟩) (zcw ps s).length c) (zcw ps s).length (strV (zcw ps s))∧Below w.heap.size w w':=by
 obtain rfl:ps.length=len:=hin.1;obtain ⟨_,hlen8,hpk⟩:=zaf hp;have HPK:Hid (∀ p∈ps,pkgB p=true):=hpk;have hl8:(ps.length:Int)≤8:=by omega
 have HI:Hid (zav w a ps.length ps):=hin;have hown0:=(World.ownsRow_lit (base:=w.heap.size) (e:=9) (size:=1) w #[.string ⟨s.toArray⟩] 1 (Nat.le_refl _) (by decide) rfl);have hbA:Below w.heap.size w (w.alloc (.cells #[.string ⟨s.toArray⟩] 9)):=(Below.refl _ _).alloc (Nat.le_refl _) _;have HO0:Hid (Ro8 w (w.alloc (.cells #[.string ⟨s.toArray⟩] 9)) ps w.heap.size 1 [s]):=⟨hown0,hbA⟩;have HR0:Hid (zcw ps s=zcr ps (ps.length+1) [s]):=rfl;have HE:Hid (Re8 ps s [s]):=znZ hs;generalize zcw ps s=R at HR0 ⊢;clear hin hp hpk hown0 hbA hs
 go_enter Tryz.func126,Tryz.ntmps126
 go_wp2
 go_loopw [5] (fun v wr=>∃ (g c:Nat) (out:List (List UInt8)) (n:Nat),v=.slice (some ⟨g,0,none⟩) out.length c∧ps.length<n+out.length∧Hid (Ro8 w wr ps g c out)∧Hid (Re8 ps s out)∧Hid (R=zcr ps n out)) (fun v _=>ps.length+1-lenOf v)
 case atStart=>exact ⟨w.heap.size,1,[s],ps.length+1,rfl,by simp only [List.length_singleton];omega,HO0,HE,HR0⟩
 case round =>
  obtain ⟨g,c,out,n,rfl,hn,HO,HRe,HRn⟩:=hrel;clear HO0 HE HR0;have hol:=HRe.out.len;obtain ⟨n',rfl⟩:∃ n',n=n'+1:=⟨n-1,by omega⟩
  go_wp2
  go_loopw [5,7] (fun v iv wx=>∃ (g2 c2 k:Nat) (o:List (List UInt8)),v=.slice (some ⟨g2,0,none⟩) o.length c2∧iv=.int .i64 (k:Int)∧k≤ps.length∧Hid (o=zd9 ps (ps.take k) out)∧Hid (Ro8 w wx ps g2 c2 o)) (fun _ iv _=>ps.length-(intOf iv).toNat)
  case atStart=>exact ⟨g,c,0,out,rfl,rfl,by omega,(rfl:out=zd9 ps (ps.take 0) out),HO⟩
  case round =>
   obtain ⟨g2,c2,k,o,rfl,rfl,hk,HS,HO2⟩:=hrel;have HRo:Hid (Re8 ps s o):=by exact (by rw [HS.out];exact HRe.out.prefix k:Re8 ps s o)
   have hol2:=HRo.out.len;by_cases hlt:(k:Int)<(ps.length:Int)
   ·
    have hk2:k<ps.length:=by omega
    have hst:=zmt ps ps out k hk2;rw [←HS.out] at hst;have hpm:ps.getD k pk0∈ps:=by simp [List.getD,hk2]
    have hpi:pkgB (ps.getD k pk0)=true:=HPK.out _ hpm;obtain ⟨b,off,ea,_,_⟩:=HI.out.2 k hk2;subst ea;obtain ⟨p,hp⟩:∃ p,ps.getD k pk0=p:=⟨_,rfl⟩
    have HPI:Hid (ps.getD k pk0=p):=hp;rw [hp] at hst hpm hpi;clear hp;obtain ⟨x,ims,fs⟩:=p;have hi6:=(zdc hpi).2.2.1;simp only at hi6;have HST:Hid (zd9 ps (ps.take (k+1)) out=zdF ps o (x,ims,fs)):=hst;have HPM:Hid ((x,ims,fs)∈ps):=hpm;clear hst hpm hpi;go_wp2
    go_loopw [5,8] (fun v iv wy=>∃ (g3 c3 i:Nat) (q:List (List UInt8)),v=.slice (some ⟨g3,0,none⟩) q.length c3∧iv=.int .i64 (i:Int)∧i≤ims.length∧Hid ((i=0∧q=o)∨(x∈o∧q=zdg ps o (ims.take i)))∧Hid (Ro8 w wy ps g3 c3 q)) (fun _ iv _=>ims.length-(intOf iv).toNat)
    case atStart=>exact ⟨g2,c2,0,o,rfl,rfl,by omega,(Or.inl ⟨rfl,rfl⟩:(0=0∧o=o)∨_),HO2⟩
    case round =>
     obtain ⟨g3,c3,i,q,rfl,rfl,hi,HQ,HO3⟩:=hrel;obtain ⟨W3,rfl⟩:∃ W3,W3=wr:=⟨_,rfl⟩
     have hin3:=HI.out.below HO3.out.h;obtain ⟨b',off',ea,hbl,c0,ia,il,ic,fa,fl,fc,c1,c2',hii,_⟩:=hin3.2 k hk2;simp only [Option.some.injEq,Addr.mk.injEq,and_true] at ea;obtain ⟨rfl,rfl⟩:=ea;rw [HPI.out] at c0 hii;simp only at c0 hii;obtain rfl:ims.length=il:=hii.1;have HII:Hid (za7 W3 ia ims.length ims):=hii;have HP3:Hid (zav W3 (some ⟨b,off,none⟩) ps.length ps):=hin3
     have hql:q.length≤ps.length:=by
      rcases HQ.out with ⟨_,e⟩ | ⟨hx,e⟩
      ·rw [e];exact hol2
      ·rw [e];exact (HRo.out.part HPM.out hx i).len
     have HT3:Hid (za7 W3 (some ⟨g3,0,none⟩) q.length q):=HO3.out.texts;clear hii hin3 c2';by_cases hil:(i:Int)<(ims.length:Int)
     ·
      have hi2:i<ims.length:=by omega
      have HH:Hid (_):=zdH (some ⟨g3,0,none⟩) q.length c3 q x W3 HT3.out (by omega);by_cases hxq:x∈q
      ·
       have hxo:x∈o:=by
        rcases HQ.out with ⟨_,e⟩ | ⟨hx,_⟩
        ·rw [←e];exact hxq
        ·exact hx
       have hqe:q=zdg ps o (ims.take i):=by
        rcases HQ.out with ⟨e0,e⟩ | ⟨_,e⟩
        ·rw [e0,e];rfl
        ·exact e
       obtain ⟨b4,off4,rfl,_,d0⟩:=HII.out.2 i hi2;have hst:=zkN ps o ims i hi2;rw [←hqe] at hst;obtain ⟨m,hm⟩:∃ m,ims.getD i []=m:=⟨_,rfl⟩
       rw [hm] at d0 hst;rw [in8_at] at hst;rw [decide_eq_true hxq] at HH;have HA:Hid (_):=zfk (some ⟨b,off,none⟩) ps.length cap ps m W3 HP3.out (by omega);have HXO:Hid (x∈o):=hxo;obtain ⟨z,hz⟩:∃ z,at8 ps m=z:=⟨_,rfl⟩
       rw [hz] at HA hst;clear hz hm hqe hxo hxq;by_cases hz0:z<0
       ·
        have HQ2:Hid ((i+1=0∧q=o)∨(x∈o∧q=zdg ps o (ims.take (i+1)))):=Or.inr ⟨HXO.out,by rw [hst,if_pos hz0]⟩;have hz1:¬0≤z:=by omega
        clear hst HQ
        go_wp2_with (first | (go_at_call 83;refine Calls.mono HH.out ?_;rintro e w1 ⟨rfl,hw1⟩;obtain rfl:=hw1.symm) | (go_at_call 82;refine Calls.mono HA.out ?_;rintro e w1 ⟨rfl,hw1⟩;obtain rfl:=hw1.symm))
        go_roundw
        case rel=>exact ⟨g3,c3,i+1,q,rfl,by go_num,by omega,HQ2,HO3⟩
        case measure=>simp [intOf];omega
       ·
        have HQ2:Hid ((i+1=0∧put8 q m=o)∨(x∈o∧put8 q m=zdg ps o (ims.take (i+1)))):=Or.inr ⟨HXO.out,by rw [hst,if_neg hz0]⟩;have HPu:Hid (_):=znN w.heap.size g3 c3 q m W3 HO3.out.own HO3.out.h.size (by omega);have hz1:0≤z:=by omega
        clear hst HQ
        go_wp2_with (first | (go_at_call 83;refine Calls.mono HH.out ?_;rintro e w1 ⟨rfl,hw1⟩;obtain rfl:=hw1.symm) | (go_at_call 82;refine Calls.mono HA.out ?_;rintro e w1 ⟨rfl,hw1⟩;obtain rfl:=hw1.symm) | (go_at_call 90;refine Calls.mono HPu.out ?_;rintro e w4 ⟨g4,c4,rfl,ho4,hb4⟩))
        have HO4:Hid (Ro8 w w4 ps g4 c4 (put8 q m)):=⟨ho4,HO3.out.h.trans (hb4.mono HO3.out.h.size)⟩;go_roundw
        case rel=>exact ⟨g4,c4,i+1,put8 q m,rfl,by go_num,by omega,HQ2,HO4⟩
        case measure=>simp [intOf];omega
      ·
       have hqo:q=o∧¬x∈o:=by
        rcases HQ.out with ⟨_,e⟩ | ⟨hx,e⟩
        ·exact ⟨e,by rw [←e];exact hxq⟩
        ·exact absurd (by rw [e];exact ze4 _ _ hx) hxq
       rw [decide_eq_false hxq] at HH;have HS2:Hid (q=zd9 ps (ps.take (k+1)) out):=by exact (by rw [HST.out,hqo.1];unfold zdF;rw [if_neg hqo.2]:q=zd9 ps (ps.take (k+1)) out)
       clear hqo hxq HQ
       go_wp2_with (go_at_call 83;refine Calls.mono HH.out ?_;rintro e w1 ⟨rfl,hw1⟩;obtain rfl:=hw1.symm)
       go_roundw
       case rel=>exact ⟨g3,c3,k+1,q,rfl,by go_num,by omega,HS2,HO3⟩
       case measure=>simp [intOf];omega
     ·
      obtain rfl:i=ims.length:=by omega
      have hqe:q=zdF ps o (x,ims,fs):=by
       unfold zdF;rcases HQ.out with ⟨e0,e⟩ | ⟨hx,e⟩
       ·
        have hn0:ims=[]:=List.eq_nil_of_length_eq_zero e0;rw [e,hn0]
        split<;>rfl
       ·rw [if_pos hx,e,List.take_of_length_le (Nat.le_refl _)]
      have HS2:Hid (q=zd9 ps (ps.take (k+1)) out):=by exact (by rw [HST.out];exact hqe:q=zd9 ps (ps.take (k+1)) out)
      clear hqe HQ;go_wp2;go_roundw
      case rel=>exact ⟨g3,c3,k+1,q,rfl,by go_num,by omega,HS2,HO3⟩
      case measure=>simp [intOf];omega
   ·
    obtain rfl:k=ps.length:=by omega
    have hS:=HS.out;rw [List.take_of_length_le (Nat.le_refl _)] at hS;have hle:=HRe.out.rise.nodup.length_le_of_subset (fun y hy=>by rw [hS];exact zdG (ps:=ps) ps out hy:∀ y∈out,y∈o);have hR:=HRn.out;rw [zcr,←hS] at hR;by_cases heq:o.length=out.length
    ·
     have HRR:Hid (R=o):=by exact (by rw [hR,if_pos heq]:R=o)
     have hei:((o.length:Int)==(out.length:Int))=true:=by rw [beq_iff_eq];omega
     clear hR hS hle heq;go_wp2;go_ret;exact ⟨g2,c2,by rw [HRR.out];rfl,by rw [HRR.out];exact HO2.out.own,HO2.out.h⟩
    ·
     have HRR:Hid (R=zcr ps n' o):=by exact (by rw [hR,if_neg heq]:R=zcr ps n' o)
     have hei:((o.length:Int)==(out.length:Int))=false:=by rw [beq_eq_false_iff_ne];omega
     clear hR hS;go_wp2;go_roundw
     case rel=>exact ⟨g2,c2,o,n',rfl,by omega,HO2,HRo,HRR⟩
     case measure=>simp only [lenOf];omega
def zeg (r:List (List UInt8)) (s x:List UInt8):Bool:=decide (x≠s∧x∈r)
theorem zn0 (o r:List (List UInt8)) (s:List UInt8) (k:Nat) (hk:k<o.length):(o.take (k+1)).filter (zeg r s)=(o.take k).filter (zeg r s)++(if zeg r s (o.getD k [])=true then [o.getD k []] else []):=by
 have e:o.getD k []=o[k]:=by simp [List.getD,hk]
 rw [List.take_succ_eq_append_getElem hk,List.filter_append,e];congr 1
 by_cases h:zeg r s o[k]=true
 ·rw [if_pos h];simp [h]
 ·rw [if_neg h];simp [h]
theorem zmZ (ps:List Pk) (s:List UInt8):zd4 ps s=(zaz ps).filter (zeg (zcw ps s) s):=rfl
theorem znO (a:Option Addr) (len cap:Nat) (ps:List Pk) (s:List UInt8) (w:World) (hin:zav w a len ps) (hp:zaK ps=true) (hs:s∈za4 ps) :
 Calls Tryz.prog 105 #[.slice a len cap,.string ⟨s.toArray⟩] w fun e w'=>∃ v,e=.returned v∧w'.ownsRow w.heap.size 9 1 v (zd4 ps s).length (strV (zd4 ps s))∧Below w.heap.size w w':=by
 have HC1:Hid (_):=zmD a len cap ps s w hin hp hs;have HC2:Hid (_):=fun (V:World) (h:zav V a len ps)=>zhv a len cap ps V h hp
 have hrl:=(ze0 hs).1.len;have hol:=(zbJ hp).1.len;have hl8:=(zaf hp).2.1;have HI:Hid (zav w a len ps):=hin;rw [zmZ];generalize zcw ps s=r at HC1 hrl ⊢;generalize zaz ps=o at HC2 hol ⊢;clear hin hp hs
 go_enter Tryz.func105,Tryz.ntmps105
 go_wp2_with fail
 refine Calls.mono HC1.out ?_;rintro e w1 ⟨gr,cr,rfl,hr1,hb1⟩;go_wp2_with fail
 refine Calls.mono (HC2.out _ (HI.out.below hb1)) ?_;rintro e w2 ⟨vo,rfl,ho2,hb2⟩;have hr2:=za5 hr1 hb2;have hB2:=hb1.trans (hb2.mono hb1.size);obtain ⟨_,ao,co,rfl,hot⟩:=zaP ho2
 have hrt:za7 w2 (some ⟨gr,0,none⟩) r.length r:=by obtain ⟨_,a',c',e,h⟩:=zaP hr2;injection e with e1 _ _;subst e1;exact h
 have hown0:=(World.ownsRow_lit (base:=w2.heap.size) (e:=9) (size:=1) w2 #[] 0 (Nat.le_refl _) (by decide) rfl);have hbA:Below w2.heap.size w2 (w2.alloc (.cells #[] 9)):=(Below.refl _ _).alloc (Nat.le_refl _) _;have HO0:Hid ((w2.alloc (.cells #[] 9)).ownsRow w2.heap.size 9 1 (.slice (some ⟨w2.heap.size,0,none⟩) 0 0) ((o.take 0).filter (zeg r s)).length (strV ((o.take 0).filter (zeg r s)))):=hown0;have HB0:Hid (Below w2.heap.size w2 (w2.alloc (.cells #[] 9))):=hbA;have HOT:Hid (za7 w2 ao o.length o):=hot;have HRT:Hid (za7 w2 (some ⟨gr,0,none⟩) r.length r):=hrt;have HB2:Hid (Below w.heap.size w w2):=hB2;clear hr1 hb1 ho2 hb2 hr2 hB2 hot hrt hown0 hbA HC1 HC2 HI;go_wp2
 go_loopw [7,8] (fun v iv wr=>∃ k:Nat,iv=.int .i64 (k:Int)∧k≤o.length∧Hid (wr.ownsRow w2.heap.size 9 1 v ((o.take k).filter (zeg r s)).length (strV ((o.take k).filter (zeg r s))))∧Hid (Below w2.heap.size w2 wr)) (fun _ iv _=>o.length-(intOf iv).toNat)
 case atStart=>exact ⟨0,rfl,by omega,HO0,HB0⟩
 case round =>
  obtain ⟨k,rfl,hk,HV,HB⟩:=hrel;clear HO0 HB0;obtain ⟨W3,rfl⟩:∃ W3,W3=wr:=⟨_,rfl⟩
  by_cases hlt:(k:Int)<(o.length:Int)
  ·
   have hk2:k<o.length:=by omega
   obtain ⟨b,off,rfl,hbl,c0⟩:=(HOT.out.below HB.out).2 k hk2;have hst:=zn0 o r s k hk2;have hfl:((o.take k).filter (zeg r s)).length≤k:=Nat.le_trans (List.length_filter_le _ _) (by rw [List.length_take];omega);obtain ⟨x,hx⟩:∃ x,o.getD k []=x:=⟨_,rfl⟩
   rw [hx] at c0 hst;have hkx:zeg r s x=decide (x≠s∧x∈r):=rfl;have HH:Hid (_):=zdH (some ⟨gr,0,none⟩) r.length cr r x W3 (HRT.out.below HB.out) (by omega);obtain ⟨F,hF⟩:∃ F,(o.take k).filter (zeg r s)=F:=⟨_,rfl⟩
   rw [hF] at hst hfl HV;obtain ⟨F2,hF2⟩:∃ F2,(o.take (k+1)).filter (zeg r s)=F2:=⟨_,rfl⟩
   rw [hF2] at hst;have HF2:Hid ((o.take (k+1)).filter (zeg r s)=F2):=hF2;clear hx hF hF2;by_cases hxs:x=s
   ·
    have HV2:Hid (W3.ownsRow w2.heap.size 9 1 u7 F2.length (strV F2)):=by exact (by rw [hst,if_neg (by rw [hkx,decide_eq_false (fun h=>h.1 hxs)];simp),List.append_nil];exact HV.out:W3.ownsRow w2.heap.size 9 1 u7 F2.length (strV F2))
    subst hxs;have hne:(x !=x)=false:=by simp
    clear hst hkx HV HH;go_wp2;go_roundw
    case rel=>exact ⟨k+1,by go_num,by omega,by rw [HF2.out];exact HV2,HB⟩
    case measure=>simp [intOf];omega
   ·
    have hne:(x !=s)=true:=by rw [bne_iff_ne];exact hxs
    have hne2:(x==s)=false:=by rw [beq_eq_false_iff_ne];exact hxs
    by_cases hxr:x∈r
    ·
     rw [hkx,decide_eq_true ⟨hxs,hxr⟩,if_pos rfl] at hst;rw [decide_eq_true hxr] at HH;obtain ⟨v',Y,hrun,hv',hg⟩:=zci x HV.out HB.out.size (by omega)
     have HV2:Hid (Y.ownsRow w2.heap.size 9 1 v' F2.length (strV F2)):=by exact (by rw [hst,List.length_append,List.length_singleton];exact hv':Y.ownsRow w2.heap.size 9 1 v' F2.length (strV F2))
     have HBY:Hid (Below w2.heap.size w2 Y):=HB.out.grown hg HB.out.size (fun q e=>(HV.out.lt q e).1);clear hst hkx hv' hg HV hxs hxr
     go_wp2_with (first | (go_at_call 83;refine Calls.mono HH.out ?_;rintro e w1 ⟨rfl,hw1⟩;obtain rfl:=hw1.symm) | (at_builtin;refine za0 rfl (.tmp 35) (.tmp 40) 67 rfl _ _ _ rfl rfl hrun ?_;clear hrun))
     go_roundw
     case rel=>exact ⟨k+1,by go_num,by omega,by rw [HF2.out];exact HV2,HBY⟩
     case measure=>simp [intOf];omega
    ·
     have HV2:Hid (W3.ownsRow w2.heap.size 9 1 u7 F2.length (strV F2)):=by exact (by rw [hst,if_neg (by rw [hkx,decide_eq_false (fun h=>hxr h.2)];simp),List.append_nil];exact HV.out:W3.ownsRow w2.heap.size 9 1 u7 F2.length (strV F2))
     rw [decide_eq_false hxr] at HH;clear hst hkx HV hxs hxr
     go_wp2_with (go_at_call 83;refine Calls.mono HH.out ?_;rintro e w1 ⟨rfl,hw1⟩;obtain rfl:=hw1.symm)
     go_roundw
     case rel=>exact ⟨k+1,by go_num,by omega,by rw [HF2.out];exact HV2,HB⟩
     case measure=>simp [intOf];omega
  ·
   obtain rfl:k=o.length:=by omega
   have hV:=HV.out;rw [List.take_of_length_le (Nat.le_refl _)] at hV;have HVE:Hid (W3.ownsRow w2.heap.size 9 1 u7 (o.filter (zeg r s)).length (strV (o.filter (zeg r s)))):=hV;have hsz:=HB2.out.size;have hBE:=HB2.out.trans (HB.out.mono hsz);clear hV HV;go_wp2;go_ret;exact ⟨_,rfl,zaD HVE.out hsz,hBE⟩
theorem zfe (b off j:Nat):(⟨b,off,none⟩:Addr).add j=⟨b,off+j,none⟩:=by unfold Addr.add;split<;>simp_all




def zah:List Nd→List Value
 | []=>[]
 | n :: r=>.int .i64 n.1 :: .int .i64 n.2.1 :: .string ⟨n.2.2.1.toArray⟩ :: .string ⟨n.2.2.2.toArray⟩ :: zah r
theorem zbX (ns:List Nd):(zah ns).length=ns.length*4:=by
 induction ns with
 | nil=>rfl
 | cons n r ih=>simp only [zah,List.length_cons,ih];omega
theorem zc3 (x y:List Nd):zah (x++y)=zah x++zah y:=by
 induction x with
 | nil=>rfl
 | cons n r ih=>simp only [List.cons_append,zah,ih]
theorem zcE (ns:List Nd):∀ u∈zah ns,u.oneCell'=true:=by
 induction ns with
 | nil=>intro u hu;cases hu
 | cons n r ih =>
  intro u hu;simp only [zah,List.mem_cons] at hu;rcases hu with rfl | rfl | rfl | rfl | h
  ·rfl
  ·rfl
  ·rfl
  ·rfl
  ·exact ih u h
theorem zeS (ns:List Nd) (j:Nat) (hj:j<ns.length):(zah ns)[j*4]?=some (.int .i64 (ns.getD j nd0).1)∧(zah ns)[j*4+1]?=some (.int .i64 (ns.getD j nd0).2.1)∧(zah ns)[j*4+2]?=some (.string ⟨(ns.getD j nd0).2.2.1.toArray⟩)∧(zah ns)[j*4+3]?=some (.string ⟨(ns.getD j nd0).2.2.2.toArray⟩):=by
 induction ns generalizing j with
 | nil=>simp at hj
 | cons n r ih =>
  cases j with
  | zero=>simp [zah]
  | succ j =>
   have h:=ih j (by simpa using hj);rw [show (j+1)*4=j*4+1+1+1+1 by omega]
   simpa [zah] using h
theorem zcj {w:World} {base n:Nat} {v:Value} {ns:List Nd} (h:w.ownsRow base 104 4 v n (zah ns)):ns.length=n∧∃ a cap,v=.slice a n cap∧zay w a n ns:=by
 have hlen:ns.length=n:=by have:=h.1;rw [zbX] at this;omega
 refine ⟨hlen,?_⟩;rcases zaR h with ⟨rfl,rfl,_⟩ | ⟨g,cp,rfl⟩
 ·exact ⟨none,0,rfl,hlen,fun j hj=>by omega⟩
 ·
  refine ⟨some ⟨g,0,none⟩,cp,rfl,hlen,fun j hj=>?_⟩;obtain ⟨v0,v1,v2,v3⟩:=zeS ns j (by omega);have c0:=h.cellAt (j*4) (by omega);have c1:=h.cellAt (j*4+1) (by omega);have c2:=h.cellAt (j*4+2) (by omega);have c3:=h.cellAt (j*4+3) (by omega);rw [v0] at c0;rw [v1] at c1;rw [v2] at c2;rw [v3] at c3;refine ⟨g,0,rfl,(h.lt g rfl).2,?_,?_,?_,?_⟩
  ·rw [Nat.zero_add];exact c0
  ·rw [Nat.zero_add];exact c1
  ·rw [Nat.zero_add];exact c2
  ·rw [Nat.zero_add];exact c3
theorem ze5:(Tryz.prog.info? 104).map (fun i=>(i.zero,i.size,i.bytes))=some (some (.agg #[.int .i64 0,.int .i64 0,.string ⟨#[]⟩,.string ⟨#[]⟩]),4,48):=by kernel_rfl
theorem zin (w:World) (n:Nd):∀ j u,(zah [n])[j]?=some u→(w.alloc (.cells #[.int .i64 n.1,.int .i64 n.2.1,.string ⟨n.2.2.1.toArray⟩,.string ⟨n.2.2.2.toArray⟩] 104)).cell? ((⟨w.heap.size,0,none⟩:Addr).add j)=some u:=by
 intro j u hu;have e:(⟨w.heap.size,0,none⟩:Addr).add j=⟨w.heap.size,j,none⟩:=by unfold Addr.add;split<;>simp_all
 rw [e]
 match j,hu with
 | 0,hu=>simp [zah] at hu;subst hu;simp
 | 1,hu=>simp [zah] at hu;subst hu;simp
 | 2,hu=>simp [zah] at hu;subst hu;simp
 | 3,hu=>simp [zah] at hu;subst hu;simp
 | j+4,hu=>simp [zah] at hu
theorem za7.src {w:World} {a:Option Addr} {len cap:Nat} {ts:List (List UInt8)} (h:za7 w a len ts) (hc:a=none→cap=0):Src w (.slice a len cap) len 1 (strV ts):=by
 have hl:(strV ts).length=len:=by simp [strV,h.1]
 refine ⟨by rw [hl];omega,fun u hu=>?_,?_⟩
 ·
  simp only [strV,List.mem_map] at hu;obtain ⟨x,_,rfl⟩:=hu
  rfl
 rcases a with _ | ad
 ·
  have h0:len=0:=by
   rcases Nat.eq_zero_or_pos len with h' | h'
   ·exact h'
   ·obtain ⟨b,off,e,_⟩:=h.2 0 h';cases e
  exact Or.inl ⟨by rw [h0,hc rfl],h0⟩
 ·
  refine Or.inr ⟨ad,cap,rfl,fun j u hu=>?_⟩
  have hj:j<(strV ts).length:=by
   rcases Nat.lt_or_ge j (strV ts).length with h' | h'
   ·exact h'
   ·rw [List.getElem?_eq_none h'] at hu;cases hu
  rw [hl] at hj;obtain ⟨b,off,e,_,c0⟩:=h.2 j hj;injection e with e;subst e;rw [zfe,c0];rw [znH ts j (by rw [h.1];exact hj)] at hu;rw [←hu,List.getD_eq_getElem?_getD,List.getElem?_eq_getElem (by rw [h.1];exact hj)]
  rfl
theorem zay.src {w:World} {a:Option Addr} {len cap:Nat} {ns:List Nd} (h:zay w a len ns) (hc:a=none→cap=0):Src w (.slice a len cap) len 4 (zah ns):=by
 refine ⟨by rw [zbX,h.1],zcE ns,?_⟩;rcases a with _ | ad
 ·
  have h0:len=0:=by
   rcases Nat.eq_zero_or_pos len with h' | h'
   ·exact h'
   ·obtain ⟨b,off,e,_⟩:=h.2 0 h';cases e
  exact Or.inl ⟨by rw [h0,hc rfl],h0⟩
 ·
  refine Or.inr ⟨ad,cap,rfl,fun j u hu=>?_⟩
  have hj:j<(zah ns).length:=by
   rcases Nat.lt_or_ge j (zah ns).length with h' | h'
   ·exact h'
   ·rw [List.getElem?_eq_none h'] at hu;cases hu
  rw [zbX,h.1] at hj;obtain ⟨b,off,e,_,c0,c1,c2,c3⟩:=h.2 (j / 4) (by omega);injection e with e;subst e;obtain ⟨v0,v1,v2,v3⟩:=zeS ns (j / 4) (by rw [h.1];omega);rw [zfe];rcases (show j % 4=0∨j % 4=1∨j % 4=2∨j % 4=3 by omega) with h' | h' | h' | h'
  ·rw [show j / 4*4=j by omega] at v0 c0;rw [hu] at v0;rw [c0,v0]
  ·rw [show j / 4*4+1=j by omega] at v1;rw [hu] at v1;rw [show off+j=off+j / 4*4+1 by omega,c1,v1]
  ·rw [show j / 4*4+2=j by omega] at v2;rw [hu] at v2;rw [show off+j=off+j / 4*4+2 by omega,c2,v2]
  ·rw [show j / 4*4+3=j by omega] at v3;rw [hu] at v3;rw [show off+j=off+j / 4*4+3 by omega,c3,v3]
theorem znL (a:Option Addr) (len cap:Nat) (ts:List (List UInt8)) (w:World) (hin:za7 w a len ts) (hc:a=none→cap=0) (hlen:len≤1048576) :
 Calls Tryz.prog 92 #[.slice a len cap] w fun e w'=>∃ v,e=.returned v∧w'.ownsRow w.heap.size 9 1 v ts.length (strV ts)∧Below w.heap.size w w':=by
 obtain rfl:ts.length=len:=hin.1;obtain ⟨i0,hi,hz0,hz1,hz2⟩:=info_parts zn1;have hbA:Below w.heap.size w (w.alloc (.cells #[] 9)):=(Below.refl _ _).alloc (Nat.le_refl _) _;have hown0:=(World.ownsRow_lit (base:=w.heap.size) (e:=9) (size:=1) w #[] 0 (Nat.le_refl _) (by decide) rfl);obtain ⟨v',w',hrun,hown',hg,_⟩:=zar (P:=Tryz.prog) (w.alloc (.cells #[] 9)) w.heap.size 67 67 9 i0 _ 1 16 Tryz.underlying67 hi hz0 hz1 hz2 rfl (by decide) _ _ _ hown0 (.slice a ts.length cap) ts.length (strV ts) ((hin.below hbA).src hc) (by unfold maxLen;omega) (by omega) (by simp);have hb:Below w.heap.size w w':=hbA.grown hg hbA.size (fun q e=>by simp [Value.ownBlock] at e;omega)
 have HO:Hid (w'.ownsRow w.heap.size 9 1 v' ts.length (strV ts)):=by simp only [Nat.zero_add] at hown';exact (by simpa using hown':w'.ownsRow w.heap.size 9 1 v' ts.length (strV ts))
 clear hown' hg hown0 hbA hin
 go_enter Tryz.func92,Tryz.ntmps92
 go_wp2_with (at_builtin;refine za0 rfl (.tmp 3) (.tmp 4) 67 rfl _ _ _ rfl rfl hrun ?_;clear hrun)
 go_ret;exact ⟨v',rfl,HO.out,hb⟩
def IntN (n:Nd):Prop:=(-9223372036854775808≤n.1∧n.1≤9223372036854775807)∧(-9223372036854775808≤n.2.1∧n.2.1≤9223372036854775807)
def IntT (ns:List Nd):Prop:=∀ j,IntN (ns.getD j nd0)
theorem zm2:IntN nd0:=by unfold IntN nd0;decide
theorem IntT.nil:IntT []:=fun j=>by rw [show ([]:List Nd).getD j nd0=nd0 by simp];exact zm2
theorem zmT (ns:List Nd) (j:Nat) (k a:Int) (p f:List UInt8):((((zah ns).set (j*4) (.int .i64 k)).set (j*4+1) (.int .i64 a)).set (j*4+2) (.string ⟨p.toArray⟩)).set (j*4+3) (.string ⟨f.toArray⟩)=zah (ns.set j (k,a,p,f)):=by
 induction ns generalizing j with
 | nil=>simp [zah]
 | cons b r ih =>
  cases j with
  | zero=>simp [zah]
  | succ j=>rw [show (j+1)*4=j*4+1+1+1+1 by omega];simp [zah,ih]

theorem set3 {X:World} {R:Nat} {a0 a1 a2:Value} (u0 u1 u2:Value) (r0:X.cell? ⟨R,0,none⟩=some a0) (r1:X.cell? ⟨R,1,none⟩=some a1) (r2:X.cell? ⟨R,2,none⟩=some a2) :
 ∃ Y,((X.setCell ⟨R,0,none⟩ u0).setCell ⟨R,1,none⟩ u1).setCell ⟨R,2,none⟩ u2=Y∧Y.cell? ⟨R,0,none⟩=some u0∧Y.cell? ⟨R,1,none⟩=some u1∧Y.cell? ⟨R,2,none⟩=some u2∧X.grownBy Y (some R):=by
 refine ⟨_,rfl,?_,?_,?_,?_⟩
 ·exact (World.cell?_setCell_other _ _ _ _ (by simp)).trans ((World.cell?_setCell_other _ _ _ _ (by simp)).trans (World.cell?_setCell_same _ _ _ r0))
 ·exact (World.cell?_setCell_other _ _ _ _ (by simp)).trans (World.cell?_setCell_same _ _ _ ((World.cell?_setCell_other _ _ _ _ (by simp)).trans r1))
 ·exact World.cell?_setCell_same _ _ _ ((World.cell?_setCell_other _ _ _ _ (by simp)).trans ((World.cell?_setCell_other _ _ _ _ (by simp)).trans r2))
 ·exact ((zau _ _ _ _).trans (zau _ _ _ _)).trans (zau _ _ _ _)
end Go.Proofs.YtponeoijfaepnaaGreatDoor
