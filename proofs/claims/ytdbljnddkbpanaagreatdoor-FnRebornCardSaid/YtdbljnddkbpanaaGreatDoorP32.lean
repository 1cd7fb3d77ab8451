/-
  Parts of one proof, one behind the other: Math18F, Math18H, WordI, Jumps, Clone.
-/
import Derived.Test.YtdbljnddkbpanaaGreatDoorP31
import Derived.Test.YtdbljnddkbpanaaGreatDoorP19
import Derived.Test.YtdbljnddkbpanaaGreatDoorP20
import Derived.Test.YtdbljnddkbpanaaGreatDoorP2
import Derived.Scope
import Derived.WalkMore
import Derived.Lib.Strings
import Derived.Lib.Walk
import Derived.Lib.BufferWrite
import Derived.Lib.UnsafeStr
import Derived.Lib.Hide
import Derived.Laws.MakeOwn
import Derived.Test.YtdbljnddkbpanaaGreatDoorRows
import Derived.WalkKit
import Derived.WalkLawsBesides
import Derived.OpenShut
namespace Go.Proofs.YtdbljnddkbpanaaGreatDoor
open Go.RowKit
section
theorem zgb {ts0:List Ta} (h8:ts0.length≤8):∀ (fs:List (List UInt8)) (ts:List Ta) (last:Int) (u:Nat),zbQ ts0 ts→zbQ ts0 (zag fs ts last u).1
 | [],ts,last,u,h=>h
 | f :: r,ts,last,u,h=>by
  rcases hs:zb1 ts last f with _ | ⟨ts',l'⟩
  ·
   rw [zag,hs];exact h
  ·
   have e:zag (f :: r) ts last u=zag r ts' l' (u+(16+f.length)):=by rw [zag,hs]
   rw [e]
   refine zgb h8 r ts' l' _ ?_
   rcases zdS hs with ⟨_,rfl,_⟩ | ⟨k,key,hd,rfl,_⟩
   ·
    exact h
   ·
    have hi:=hd.2.1
    have hl:=h.len
    exact h.set (by omega) key
theorem zom (ps:List Pk) (jr:List UInt8):zav (rebV ps jr).1.1:=by
 unfold rebV
 split
 ·
  exact (zgb (zcN ps) (za2 jr) (newV ps).1.1 0 0 (zbQ.refl (zdm ps))).short (zdE ps)
 ·
  intro j
  simp [dk0,ta0]
theorem reb_len (ps:List Pk) (jr:List UInt8):(rebV ps jr).1.1.length≤9:=by
 unfold rebV
 split
 ·
  have h:=(zdL (za2 jr) (newV ps).1.1 0 0).1
  have h2:=zcN ps
  show (rebD ps jr).1.length≤9
  unfold rebD
  simp only
  omega
 ·
  simp [dk0]
end
section
theorem zpK (ts:List (List UInt8)):(ts.map zaj).flatten=catF ts:=by
 induction ts with
 | nil=>rfl
 | cons t r ih=>rw [List.map_cons,List.flatten_cons,ih,catF]
theorem zm1 (a b:List (List UInt8)):catF (a++b)=catF a++catF b:=by
 induction a with
 | nil=>rfl
 | cons t r ih=>simp only [List.cons_append,catF,ih,List.append_assoc]
theorem catF_pre (js:List (List UInt8)) (m:Nat):(catF js).take (za1 (js.take m))=catF (js.take m):=by
 conv=>lhs;arg 2;rw [←List.take_append_drop m js]
 rw [zm1]
 exact List.take_left' (zfk _)
theorem zfX:∀ (js:List (List UInt8)) (k c:Nat),zhU js→js.length≤k→∃ m,m≤js.length∧zad k ((catF js).take c)=js.take m∧za1 (js.take m)≤c
 | [],k,c,_,_=>⟨0,Nat.le_refl _,by
  simp only [catF,List.take_nil]
  rcases k with _ | k
  ·
   rfl
  ·
   exact zbX _ [] (by decide +kernel),Nat.zero_le _⟩
 | t :: r,k,c,hs,hk=>by
  obtain ⟨j,rfl⟩:∃ j,k=j+1:=⟨k-1,by simp only [List.length_cons] at hk;omega⟩
  have ht:=hs t List.mem_cons_self
  have hl:=zaW t
  rcases Nat.lt_or_ge c (16+t.length) with h | h
  ·
   refine ⟨0,Nat.zero_le _,?_,Nat.zero_le _⟩
   rw [catF,List.take_append_of_le_length (by omega),zbX _ _ (zpo t ht c h)]
   rfl
  ·
   obtain ⟨m,h1,h2,h3⟩:=zfX r j (c-(16+t.length)) (fun x hx=>hs x (List.mem_cons_of_mem _ hx)) (by simp only [List.length_cons] at hk;omega)
   refine ⟨m+1,by simp only [List.length_cons];omega,?_,by simp only [List.take_succ_cons,za1];omega⟩
   rw [catF,List.take_append,hl,List.take_of_length_le (by omega)]
   have hf:=zfY t ht ((catF r).take (c-(16+t.length)))
   rw [zc2 j _ hf.1,hf.2.1,List.drop_left' hl,h2]
   rfl
noncomputable def zdf:List (List UInt8)→List Ta→Int→Option (List Ta × Int)
 | [],ts,last=>some (ts,last)
 | f :: r,ts,last =>
  match zb1 ts last f with
  | some p=>zdf r p.1 p.2
  | none=>none
theorem zhz:∀ (fs:List (List UInt8)) (ts:List Ta) (last:Int) (u:Nat),∃ i,i≤fs.length∧(zag fs ts last u).2.2=u+za1 (fs.take i)∧zdf (fs.take i) ts last=some ((zag fs ts last u).1,(zag fs ts last u).2.1)
 | [],ts,last,u=>⟨0,Nat.le_refl _,rfl,rfl⟩
 | f :: r,ts,last,u=>by
  rcases hs:zb1 ts last f with _ | ⟨ts',l'⟩
  ·
   refine ⟨0,Nat.zero_le _,?_,?_⟩
   ·
    rw [zag,hs];rfl
   ·
    rw [zag,hs];rfl
  ·
   have e:zag (f :: r) ts last u=zag r ts' l' (u+(16+f.length)):=by rw [zag,hs]
   obtain ⟨i,h1,h2,h3⟩:=zhz r ts' l' (u+(16+f.length))
   refine ⟨i+1,by simp only [List.length_cons];omega,?_,?_⟩
   ·
    rw [e,h2,List.take_succ_cons,za1];omega
   ·
    rw [e,List.take_succ_cons,zdf,hs];exact h3
theorem zkQ:∀ {fs:List (List UInt8)} {ts:List Ta} {last:Int} {q:List Ta × Int} (u:Nat),zdf fs ts last=some q→zag fs ts last u=(q.1,q.2,u+za1 fs)
 | [],ts,last,q,u,h=>by
  injection h with h
  subst h
  rfl
 | f :: r,ts,last,q,u,h=>by
  rcases hs:zb1 ts last f with _ | ⟨ts',l'⟩
  ·
   rw [zdf,hs] at h;cases h
  ·
   rw [zdf,hs] at h
   have e:zag (f :: r) ts last u=zag r ts' l' (u+(16+f.length)):=by rw [zag,hs]
   rw [e,zkQ _ h,za1]
   simp only [Nat.add_assoc]
theorem zkP:∀ (a:List (List UInt8)) {b:List (List UInt8)} {ts:List Ta} {last:Int} {q:List Ta × Int},zdf (a++b) ts last=some q→∃ p,zdf a ts last=some p∧zdf b p.1 p.2=some q
 | [],b,ts,last,q,h=>⟨(ts,last),rfl,h⟩
 | f :: r,b,ts,last,q,h=>by
  rw [List.cons_append,zdf] at h
  rcases hs:zb1 ts last f with _ | p
  ·
   rw [hs] at h;cases h
  ·
   rw [hs] at h
   obtain ⟨p2,h1,h2⟩:=zkP r h
   exact ⟨p2,by rw [zdf,hs];exact h1,h2⟩
theorem zmP:∀ (a:List (List UInt8)) {b:List (List UInt8)} {ts:List Ta} {last:Int} {p q:List Ta × Int},zdf a ts last=some p→zdf b p.1 p.2=some q→zdf (a++b) ts last=some q
 | [],b,ts,last,p,q,h,h2=>by
  injection h with h
  subst h
  exact h2
 | f :: r,b,ts,last,p,q,h,h2=>by
  rw [zdf] at h
  rw [List.cons_append,zdf]
  rcases hs:zb1 ts last f with _ | p1
  ·
   rw [hs] at h;cases h
  ·
   rw [hs] at h
   exact zmP r h h2
def zbV (f:List UInt8):Bool:=decide (4<f.length∧f.take 4=zde)
def zbD (t:Ta):Bool:=decide (t.2.2.1=2)
theorem ziW (n:Int):zbV (zaX n)=false:=by
 refine decide_eq_false (fun h=>?_)
 have h2:=h.2
 unfold zaX zde at h2
 simp at h2
theorem zkb (k key:Int):zbV (zcA k key)=true:=by
 rw [zbZ]
 refine decide_eq_true ⟨?_,rfl⟩
 unfold zde
 simp only [List.length_append,List.length_cons,List.length_nil]
 omega
theorem zkp {ts:List Ta} {i:Nat} (h:i<ts.length):ts.getD i ta0=ts[i]:=by simp [List.getD,h]
structure zdO (ts0 ts:List Ta) (last:Int) (fs:List (List UInt8)):Prop where
 ag:zbQ ts0 ts
 ok:∀ j,zcn (ts.getD j ta0)=true∧(ts.getD j ta0).2.2.1≠1
 cnt:ts.countP zbD=fs.countP zbV
 l0:0≤last
 l1:last≤fs.length
theorem zdO.go {ts0:List Ta} (h8:ts0.length≤8):∀ (fs:List (List UInt8)) {es:List (List UInt8)} {ts:List Ta} {last:Int} {q:List Ta × Int},zdO ts0 ts last es→zdf fs ts last=some q→zdO ts0 q.1 q.2 (es++fs)∧last≤q.2∧∀ j,(ts.getD j ta0).2.2.1=2→q.1.getD j ta0=ts.getD j ta0
 | [],es,ts,last,q,h,hq=>by
  injection hq with hq
  subst hq
  rw [List.append_nil]
  exact ⟨h,Int.le_refl _,fun _ _=>rfl⟩
 | f :: r,es,ts,last,q,h,hq=>by
  rw [zdf] at hq
  rcases hs:zb1 ts last f with _ | ⟨ts',l'⟩
  ·
   rw [hs] at hq;cases hq
  ·
   rw [hs] at hq
   have hln:=h.ag.len
   have key:zdO ts0 ts' l' (es++[f])∧last≤l'∧∀ j,(ts.getD j ta0).2.2.1=2→ts'.getD j ta0=ts.getD j ta0:=by
    have g0:=h.l0
    have g1:=h.l1
    rcases zdS hs with ⟨hf,rfl,rfl⟩ | ⟨k,key,hd,rfl,rfl⟩
    ·
     refine ⟨⟨h.ag,h.ok,?_,by omega,by rw [List.length_append,List.length_singleton];omega⟩,by omega,fun _ _=>rfl⟩
     rw [List.countP_append,List.countP_singleton,hf,ziW,h.cnt]
     rfl
    ·
     have hi:k.toNat<ts.length:=by have:=hd.2.1;omega
     have hne:=hd.2.2.2.1
     refine ⟨⟨h.ag.set hi key,fun j=>?_,?_,g0,by rw [List.length_append,List.length_singleton];omega⟩,Int.le_refl _,fun j hj=>?_⟩
     ·
      rw [zci _ _ _ _ hi]
      split
      ·
       refine ⟨?_,by show (2:Int)≠1;decide⟩
       unfold zbR zcn
       simp [hd.2.2.1]
      ·
       exact h.ok j
     ·
      have e1:zbD (zbR (ts.getD k.toNat ta0) key)=true:=rfl
      have e2:zbD (ts[k.toNat])=false:=by rw [←zkp hi];exact decide_eq_false hne
      rw [List.countP_set hi,List.countP_append,List.countP_singleton,hd.1,zkb,e1,e2,h.cnt]
      rfl
     ·
      rw [zci _ _ _ _ hi,if_neg]
      rintro rfl
      exact hne hj
   obtain ⟨k1,k2,k3⟩:=key
   obtain ⟨r1,r2,r3⟩:=zdO.go h8 r k1 hq
   refine ⟨by rw [List.append_assoc] at r1;exact r1,by omega,fun j hj=>?_⟩
   rw [r3 j (by rw [k3 j hj];exact hj),k3 j hj]
theorem zi3 (ps:List Pk):∀ j,((newV ps).1.1.getD j ta0).2.2.1=0∧((newV ps).1.1.getD j ta0).2.2.2.2.2=0:=by
 intro j
 rw [zeE]
 by_cases hj:j<(prtV ps).length
 ·
  have e:((List.range (prtV ps).length).map (zcf ps)).getD j ta0=zcf ps j:=by simp [List.getD,hj]
  rw [e]
  exact ⟨rfl,rfl⟩
 ·
  rw [List.getD_eq_getElem?_getD,List.getElem?_eq_none (by simp;omega)]
  exact ⟨rfl,rfl⟩
theorem zfw (ps:List Pk):zdO (newV ps).1.1 (newV ps).1.1 0 []:=by
 refine ⟨zbQ.refl (zdm ps),fun j=>?_,?_,Int.le_refl _,Int.le_refl _⟩
 ·
  obtain ⟨h1,h2⟩:=zi3 ps j
  obtain ⟨h3,h4⟩:=zdm ps j
  refine ⟨?_,by rw [h1];decide⟩
  unfold zcn
  rw [if_pos h1]
  exact decide_eq_true ⟨h3,h4,h2⟩
 ·
  rw [List.countP_nil,List.countP_eq_zero]
  intro t ht
  obtain ⟨j,hj,rfl⟩:=List.getElem_of_mem ht
  rw [←zkp hj]
  unfold zbD
  rw [(zi3 ps j).1]
  decide
theorem zdO.desk {ps:List Pk} {ts:List Ta} {last:Int} {fs:List (List UInt8)} (h:zdO (newV ps).1.1 ts last fs) (hn:(newV ps).2=true) {e:Int} {j:List UInt8} (he:1≤e∧e≤1000) (hj:j.length≤60000):zay (ts,e,0,j)=true:=by
 have hd:=zef ps
 rw [hn] at hd
 have hp:=zau.1 hd
 have hln:=h.ag.len
 refine zau.2 ⟨by show 1≤ts.length∧ts.length≤8;rw [hln];exact hp.n,he,by show (0:Int)≤0∧(0:Int)≤1000000;omega,hj,fun i hi=>?_⟩
 have hi':i<(newV ps).1.1.length:=by rw [←hln];exact hi
 obtain ⟨h1,h2,h3⟩:=hp.one i hi'
 simp only at h1 h2 h3 ⊢
 refine ⟨by rw [(h.ag.same i).1];exact h1,?_,fun k hk=>by rw [(h.ag.same i).1,(h.ag.same k).1];exact h3 k hk⟩
 unfold zcd at h2 ⊢
 rw [Bool.and_eq_true] at h2 ⊢
 rw [(h.ag.same i).2]
 exact ⟨h2.1,(h.ok i).1⟩
structure Cut18 (ps:List Pk) (d x:Dk) (fs:List (List UInt8)):Prop where
 ok:zay x=true
 now:x.2.2.1=0
 len:x.1.length=d.1.length
 cnt:x.1.countP zbD=fs.countP zbV
 keep:∀ i,(x.1.getD i ta0).2.2.1=2→(d.1.getD i ta0).2.2.1=2∧(x.1.getD i ta0).2.2.2.2.2=(d.1.getD i ta0).2.2.2.2.2
 free:∀ i,(x.1.getD i ta0).2.2.1≠1
theorem reb_law {ps:List Pk} {jr:List UInt8} (hj:jr.length≤6000) (hy:(rebV ps jr).2=true) (c:Nat) :
 (rebV ps jr).1.2.1≤900→(∃ x,rebV ps ((rebV ps jr).1.2.2.2.take c)=(x,true)∧rebV ps ((rebV ps jr).1.2.2.2.take (za1 (za2 ((rebV ps jr).1.2.2.2.take c))))=(x,true)∧Cut18 ps (rebV ps jr).1 x (za2 ((rebV ps jr).1.2.2.2.take c)))∧(∃ z,rebV ps (rebV ps jr).1.2.2.2=(z,true)∧z.2.1=(rebV ps jr).1.2.1+1∧zbO z=zbO (rebV ps jr).1):=by
 have hnew:(newV ps).2=true∧zay (rebD ps jr)=true:=by
  unfold rebV at hy
  split at hy
  ·
   rename_i h;exact h
  ·
   cases hy
 have hv:rebV ps jr=(rebD ps jr,true):=by unfold rebV;rw [if_pos hnew]
 rw [hv]
 intro h9
 have h8:=zcN ps
 obtain ⟨i,hi,hu,ha⟩:=zhz (za2 jr) (newV ps).1.1 0 0
 rw [Nat.zero_add] at hu
 have hD:rebD ps jr=((zag (za2 jr) (newV ps).1.1 0 0).1,(zag (za2 jr) (newV ps).1.1 0 0).2.1+1,0,jr.take (zag (za2 jr) (newV ps).1.1 0 0).2.2++zaB ((zag (za2 jr) (newV ps).1.1 0 0).2.1+1)):=rfl
 generalize zag (za2 jr) (newV ps).1.1 0 0=r at hu ha hD
 obtain ⟨ts,last,u⟩:=r
 simp only at hu ha hD
 subst hu
 obtain ⟨hk,hl0,_⟩:=zdO.go h8 _ (zfw ps) ha
 simp only [List.nil_append] at hk hl0
 obtain ⟨hsh,_,hfu⟩:=zh4 jr
 have h16:=znK (za2 jr)
 generalize hgs:(za2 jr).take i=gs at ha hk hD
 have hgl:gs.length≤399:=by rw [←hgs,List.length_take];omega
 have hgu:za1 gs≤jr.length:=by rw [←hgs];exact Nat.le_trans (ze3 _ _) hfu
 have hgsh:zhU gs:=fun x hx=>hsh x (by rw [←hgs] at hx;exact List.mem_of_mem_take hx)
 have hjt:jr.take (za1 gs)=catF gs:=by rw [←hgs,zif,zpK]
 have hl1:=hk.l1
 have hstl:=zcL (n:=last+1) (by omega) (by omega)
 have hJ:(rebD ps jr).2.2.2=catF (gs++[zaX (last+1)]):=by
  rw [hD]
  show jr.take (za1 gs)++zaB (last+1)=_
  rw [hjt,zcE (by omega) (by omega),zpJ]
 rw [hJ]
 have hE:(rebD ps jr).2.1=last+1:=by rw [hD]
 have hT:(rebD ps jr).1=ts:=by rw [hD]
 rw [hE] at h9
 have hall:zdf (gs++[zaX (last+1)]) (newV ps).1.1 0=some (ts,last+1):=zmP gs ha (by rw [zdf,zd3 rfl];rfl)
 generalize hjs:gs++[zaX (last+1)]=js at hall
 have hjl:js.length≤400:=by rw [←hjs,List.length_append,List.length_singleton];omega
 have hju:za1 js≤jr.length+43:=by rw [←hjs,zbF];omega
 have hjsh:zhU js:=by
  rw [←hjs]
  intro x hx
  rcases List.mem_append.1 hx with h | h
  ·
   exact hgsh x h
  ·
   rw [List.mem_singleton.1 h];omega
 have hwhole:∀ (m:Nat),za2 (catF (js.take m))=js.take m:=fun m=>by
  have h:=zkr (js.take m) (fun x hx=>hjsh x (List.mem_of_mem_take hx)) 400 (by rw [List.length_take];omega) []
  rw [List.append_nil,zbX _ [] (by decide +kernel),List.append_nil] at h
  exact h
 -- what is reborn of a journal whose frames are right
 have hreb:∀ (l:List UInt8) (m:Nat) (tx:List Ta) (lx:Int),za2 l=js.take m→zdf (js.take m) (newV ps).1.1 0=some (tx,lx)→l.take (za1 (js.take m))=catF (js.take m)→lx≤last+1→rebV ps l=((tx,lx+1,0,catF (js.take m)++zaB (lx+1)),true)∧zay (tx,lx+1,0,catF (js.take m)++zaB (lx+1))=true:=by
  intro l m tx lx h1 h2 h3 h4
  have hr:rebD ps l=(tx,lx+1,0,catF (js.take m)++zaB (lx+1)):=by
   unfold rebD
   rw [h1,zkQ 0 h2]
   simp only [Nat.zero_add]
   rw [h3]
  obtain ⟨hkx,hlx,_⟩:=zdO.go h8 _ (zfw ps) h2
  have hs:=zfo (n:=lx+1) (by omega) (by omega)
  have hc:=zfk (js.take m)
  have hfm:=ze3 js m
  have hb:zay (tx,lx+1,0,catF (js.take m)++zaB (lx+1))=true:=hkx.desk hnew.1 (by omega) (by rw [List.length_append];omega)
  exact ⟨zla hr hb,hb⟩
 refine ⟨?_,?_⟩
 ·
  obtain ⟨m,hm,hf,hfc⟩:=zfX js 400 c hjsh hjl
  have hf:za2 ((catF js).take c)=js.take m:=hf
  rw [hf]
  obtain ⟨⟨tx,lx⟩,hx1,hx2⟩:=zkP (js.take m) (b:=js.drop m) (by rw [List.take_append_drop];exact hall)
  obtain ⟨hkx,hlx0,_⟩:=zdO.go h8 _ (zfw ps) hx1
  obtain ⟨_,hlx,hkeep⟩:=zdO.go h8 _ hkx hx2
  simp only [List.nil_append] at hkx hlx hkeep hlx0
  have hp:=catF_pre js m
  obtain ⟨r1,r2⟩:=hreb ((catF js).take c) m tx lx hf hx1 (by rw [List.take_take,Nat.min_eq_left hfc];exact hp) hlx
  obtain ⟨r3,_⟩:=hreb ((catF js).take (za1 (js.take m))) m tx lx (by rw [hp];exact hwhole m) hx1 (by rw [List.take_take,Nat.min_self];exact hp) hlx
  refine ⟨_,r1,r3,r2,rfl,?_,hkx.cnt,fun i hi=>?_,fun i=>(hkx.ok i).2⟩
  ·
   rw [hT];exact hkx.ag.len.trans hk.ag.len.symm
  ·
   rw [hT,hkeep i hi];exact ⟨hi,rfl⟩
 ·
  obtain ⟨r1,r2⟩:=hreb (catF js) js.length ts (last+1) (by have:=hwhole js.length;rw [List.take_length] at this ⊢;exact this) (by rw [List.take_length];exact hall) (by rw [List.take_length,←zfk,List.take_length]) (Int.le_refl _)
  refine ⟨_,r1,by rw [hE],?_⟩
  unfold zbO zkB
  rw [r2,hnew.2,hT]
structure RebP (ps:List Pk) (jr:List UInt8) (R:Dk × Bool):Prop where
 sh:zav R.1.1
 n9:R.1.1.length≤9
 j:R.1.2.2.2.length≤jr.length+116
 yes:R.2=true→zay R.1=true
 no:R.2=false→R.1=dk0
theorem reb_p (ps:List Pk) (jr:List UInt8):RebP ps jr (rebV ps jr):=by
 refine ⟨zom ps jr,reb_len ps jr,reb_j,zjQ,fun h=>?_⟩
 unfold rebV at h ⊢
 split
 ·
  rename_i hc
  rw [if_pos hc] at h
  cases h
 ·
  rfl
structure RebL (ps:List Pk) (d x y z:Dk × Bool) (fs:List (List UInt8)):Prop where
 x1:x.2=true
 y1:y=x
 cut:Cut18 ps d.1 x.1 fs
 z1:z.2=true
 ze:z.1.2.1=d.1.2.1+1
 za:zbO z.1=zbO d.1
theorem reb_l {ps:List Pk} {jr:List UInt8} (hj:jr.length≤6000) (hy:(rebV ps jr).2=true) (c:Nat) (h9:(rebV ps jr).1.2.1≤900) :
 RebL ps (rebV ps jr) (rebV ps ((rebV ps jr).1.2.2.2.take c)) (rebV ps ((rebV ps jr).1.2.2.2.take (za1 (za2 ((rebV ps jr).1.2.2.2.take c))))) (rebV ps (rebV ps jr).1.2.2.2) (za2 ((rebV ps jr).1.2.2.2.take c)):=by
 obtain ⟨⟨x,h1,h2,h3⟩,z,h4,h5,h6⟩:=reb_law hj hy c h9
 rw [h1,h2,h4]
 exact ⟨rfl,rfl,h3,rfl,h5,h6⟩
end
set_option maxHeartbeats 400000 in
set_option maxRecDepth 100000 in
theorem zlr (n:Int) (w:World):Calls Tryz.prog 191 #[.int .i64 n] w fun e w'=>e=.returned (.bool (inB n (-2147483648) 2147483647))∧w'=w:=by
 by_cases h1:-2147483648≤n
 ·
  by_cases h2:n≤2147483647
  ·
   have hB:Hid (inB n (-2147483648) 2147483647=true):=zdG _ _ _ h1 h2
   go_enter Tryz.func191,Tryz.ntmps191
   go_wp2
   go_ret
   exact ⟨by rw [hB.out];rfl,rfl⟩
  ·
   have hB:Hid (inB n (-2147483648) 2147483647=false):=zcv _ _ _ (Or.inr (by omega))
   go_enter Tryz.func191,Tryz.ntmps191
   go_wp2
   go_ret
   exact ⟨by rw [hB.out];rfl,rfl⟩
 ·
  have hB:Hid (inB n (-2147483648) 2147483647=false):=zcv _ _ _ (Or.inl (by omega))
  go_enter Tryz.func191,Tryz.ntmps191
  go_wp2
  go_ret
  exact ⟨by rw [hB.out];rfl,rfl⟩
def Hops (J:Nat→Act→World→Prop) (Q:Exit→Act→World→Prop):Exit→Act→World→Prop
 | .goto l,a,w=>J l a w
 | e,a,w=>Q e a w
theorem zj8 {J:Nat→Act→World→Prop} {Q:Exit→Act→World→Prop} {a:Act} {w:World} (h:Q .ret a w):Hops J Q .ret a w:=h
theorem zkk {J J':Nat→Act→World→Prop} {Q:Exit→Act→World→Prop} (h:∀ l a w,J l a w→J' l a w):∀ e a w,Hops J Q e a w→Hops J' Q e a w:=by
 intro e a w hq
 cases e with
 | goto l=>exact h l a w hq
 | _=>exact hq
theorem zeS {P:Program} {a:Act} {w:World} {Q:Exit→Act→World→Prop} {c:Go.Code} (J:Nat→Act→World→Prop) (μ:Nat→Act→World→Nat)
 (pass:∀ l a w,J l a w→(∀ l' a' w',J l' a' w'→μ l' a' w'<μ l a w→∀ R,findLabel c l'=some (.seq .skip R)→R.wp P (Hops (fun l₂ a₂ w₂=>J l₂ a₂ w₂∧μ l₂ a₂ w₂<μ l a w) Q) a' w') →
  ∃ R,findLabel c l=some (.seq .skip R)∧R.wp P (Hops (fun l' a' w'=>J l' a' w'∧μ l' a' w'<μ l a w) Q) a w)
 (first:(∀ l a w,J l a w→∀ R,findLabel c l=some (.seq .skip R)→R.wp P (Hops J Q) a w)→c.wp P (Hops J Q) a w):(Code.scope c).wp P Q a w:=by
 have all:∀ n l a w,μ l a w=n→J l a w→∃ R,findLabel c l=some (.seq .skip R)∧R.wp P (Hops (fun l' a' w'=>J l' a' w'∧μ l' a' w'<μ l a w) Q) a w:=by
  intro n
  induction n using Nat.strongRecOn with
  | _ n ih =>
   intro l a w hn hJ
   refine pass l a w hJ fun l' a' w' hJ' hlt R hf=>?_
   obtain ⟨R',hf',hw⟩:=ih _ (by omega) l' a' w' rfl hJ'
   rw [hf] at hf'
   cases hf'
   exact wp_mono hw (zkk fun l₂ a₂ w₂ h=>⟨h.1,Nat.lt_trans h.2 hlt⟩)
 intro b k cs
 have key:∀ n l a w,μ l a w=n→J l a w→∃ rest,findLabel c l=some rest∧∃ e a' w',Q e a' w'∧Arrives P (lone (b.at a (.code rest :: .inScope c :: k)) cs w) b k cs e a' w':=by
  intro n
  induction n using Nat.strongRecOn with
  | _ n ih =>
   intro l a w hn hJ
   obtain ⟨R,hf,hR⟩:=all _ l a w rfl hJ
   have hp:(Code.seq .skip R).wp P (Hops (fun l' a' w'=>J l' a' w'∧μ l' a' w'<μ l a w) Q) a w:=wp_seq (wp_skip hR)
   refine ⟨_,hf,?_⟩
   obtain ⟨e,a₁,w₁,hq,harr⟩:=hp b (.inScope c :: k) cs
   cases e with
   | normal=>exact ⟨.normal,a₁,w₁,hq,Steps.trans harr (.one step_inScope)⟩
   | exit id=>exact ⟨.exit id,a₁,w₁,hq,fun k' hk=>harr k' (by simp [exitTo,hk])⟩
   | goto l' =>
    obtain ⟨hJ',hlt⟩:=hq
    obtain ⟨rest',hf',e₂,a₂,w₂,hq₂,harr₂⟩:=ih _ (by omega) l' a₁ w₁ rfl hJ'
    exact ⟨e₂,a₂,w₂,hq₂,.of_steps (harr _ (by simp [gotoIn,hf'])) harr₂⟩
   | ret=>exact ⟨_,a₁,w₁,hq,harr⟩
   | panic ch=>exact ⟨_,a₁,w₁,hq,harr⟩
   | outgrown=>exact ⟨_,a₁,w₁,hq,harr⟩
 have first':=first fun l a w hJ R hf=>by
  obtain ⟨R',hf',hw⟩:=all _ l a w rfl hJ
  rw [hf] at hf'
  cases hf'
  exact wp_mono hw (zkk fun l₂ a₂ w₂ h=>h.1)
 obtain ⟨e,a₁,w₁,hq,harr⟩:=first' b (.inScope c :: k) cs
 cases e with
 | normal=>exact ⟨.normal,a₁,w₁,hq,.head step_scope (Steps.trans harr (.one step_inScope))⟩
 | exit id=>exact ⟨.exit id,a₁,w₁,hq,fun k' hk=>.head step_scope (harr k' (by simp [exitTo,hk]))⟩
 | goto l' =>
  obtain ⟨rest',hf',e₂,a₂,w₂,hq₂,harr₂⟩:=key _ l' a₁ w₁ rfl hq
  exact ⟨e₂,a₂,w₂,hq₂,.of_steps (.head step_scope (harr _ (by simp [gotoIn,hf']))) harr₂⟩
 | ret=>exact ⟨_,a₁,w₁,hq,.of_steps (.one step_scope) harr⟩
 | panic ch=>exact ⟨_,a₁,w₁,hq,.of_steps (.one step_scope) harr⟩
 | outgrown=>exact ⟨_,a₁,w₁,hq,.of_steps (.one step_scope) harr⟩
theorem infoByte:(Tryz.prog.info? 5).map (fun i=>(i.zero,i.size,i.bytes))=some (some (.int .u8 0),1,1):=by kernel_rfl
set_option maxHeartbeats 4000000 in
set_option maxRecDepth 100000 in
theorem zoV (s:ByteArray) (w:World) (hlim:s.size≤281474976710656) :
 Calls Tryz.prog 81 #[.string s] w fun e w'=>e=.returned (.string s)∧Below w.heap.size w w':=by
 by_cases h0:s.size=0
 ·
  have hs:s=⟨#[]⟩:=by
   apply ByteArray.ext
   exact Array.eq_empty_of_size_eq_zero h0
  subst hs
  go_enter Tryz.func81,Tryz.ntmps81
  go_wp2
  go_ret
  exact ⟨rfl,Below.refl _ _⟩
 ·
  obtain ⟨i0,hi,hz0,hz1,hz2⟩:=info_parts infoByte
  have hinfo:(Tryz.prog.info? 5).map (·.size)=some 1:=by rw [hi];simp [hz1]
  have hco:Tryz.prog.cellsOf 5=1:=by simp [Program.cellsOf,hi,hz1]
  obtain ⟨M,hM⟩:∃ M,M=madeCells (Value.int .u8 0).cells (((s.size:Nat):Int).toNat*i0.size):=⟨_,rfl⟩
  have hMs:M.size=s.size:=by rw [hM,size_madeCells,hz1];simp
  have hmk:∀ W:World,(Instr.makeSlice 22 (.int .i64 (s.size:Int)) (.int .i64 (s.size:Int))).run Tryz.prog W=.ok (.slice (some ⟨W.heap.size,0,none⟩) s.size s.size) (W.alloc (.cells M 5)):=fun W=>by
   have h:=run_make (P:=Tryz.prog) W 22 5 i0 (.int .u8 0) Tryz.underlying22 hi hz0 .i64 .i64 (s.size:Int) (s.size:Int) (by omega) (by omega) (by rw [hz2];omega) (by omega)
   rw [←hM] at h
   simpa using h
  clear hM
  have hcp:=Lib.run_copy_row_string (P:=Tryz.prog) (w.alloc (.cells M 5)) 22 9 3 5 w.heap.size 0 s.size s.size s M 5 Tryz.underlying22 hinfo (heap_alloc_new w _) (Nat.le_refl _) (by omega)
  obtain ⟨Y,hY⟩:∃ Y,Y=(M.toList.take 0++Lib.byteCells s.data.toList++M.toList.drop (0+s.size)).toArray:=⟨_,rfl⟩
  rw [←hY] at hcp
  have hYl:Y.toList=Lib.byteCells s.data.toList:=by
   rw [hY,List.toList_toArray,List.take_zero,List.nil_append,List.drop_of_length_le (by rw [Array.length_toList];omega),List.append_nil]
  have hYs:Y.size=s.size:=by rw [←Array.length_toList,hYl,Lib.byteCells_length,←Lib.size_eq]
  have hgY:((w.alloc (.cells M 5)).setRow w.heap.size Y).heap[w.heap.size]?=some (.cells Y 5 (0,0)):=setRow_heap _ _ M _ 5 (0,0) (heap_alloc_new w _)
  have hne:s.data.toList≠[]:=fun e=>h0 (by rw [Lib.size_eq,e];rfl)
  have hUS:=Lib.run_unsafeString_row (P:=Tryz.prog) ((w.alloc (.cells M 5)).setRow w.heap.size Y) 140 3 9 5 Tryz.underlying140 hco w.heap.size Y.size (by unfold World.shape?;rw [hgY]) s.data.toList hne (by rw [←Lib.size_eq];omega) (by rw [←Lib.size_eq];omega)
   (fun j x hx=>Lib.cells_of_row hgY Y.size j _ (by rw [List.take_of_length_le (by rw [Array.length_toList];exact Nat.le_refl _),hYl];simp [Lib.byteCells,hx]))
  rw [←Lib.size_eq] at hUS
  clear hY
  go_enter Tryz.func81,Tryz.ntmps81
  go_wp2
  go_ret
  have hb1:Below w.heap.size w (w.alloc (.cells M 5)):=(Below.refl _ w).alloc (Nat.le_refl _) _
  have hb2:Below w.heap.size (w.alloc (.cells M 5)) ((w.alloc (.cells M 5)).setRow w.heap.size Y):=⟨rfl,rfl,rfl,by simp,fun k hk=>setRow_other _ _ _ _ (by omega)⟩
  exact ⟨rfl,Lib.below_freeze (hb1.trans hb2) (p:=⟨w.heap.size,0,none⟩) (Nat.le_refl _) _⟩
set_option maxHeartbeats 400000 in
set_option maxRecDepth 100000 in
theorem zbb (l:List UInt8) (w:World) (hl:l.length≤1048576) :
 Calls Tryz.prog 48 #[.string ⟨l.toArray⟩] w fun e w'=>e=.returned (.string ⟨l.toArray⟩)∧Below w.heap.size w w':=by
 go_enter Tryz.func48,Tryz.ntmps48
 go_wp2_with fail
 refine (zoV ⟨l.toArray⟩ _ (by have:(⟨l.toArray⟩:ByteArray).size=l.length:=List.size_toArray;omega)).mono ?_
 rintro e w1 ⟨rfl,hb⟩
 go_wp2
 go_ret
 exact ⟨rfl,hb⟩
end Go.Proofs.YtdbljnddkbpanaaGreatDoor
