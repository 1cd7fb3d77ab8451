/-
  Parts of one proof, one behind the other: Math9L, Math8L, Math18N, Math2G, Math18B, Math18R, HasS.
-/
import Derived.Test.YtdbljnddkbpanaaGreatDoorP7
import Derived.Test.YtdbljnddkbpanaaGreatDoorP5
import Derived.Test.YtdbljnddkbpanaaGreatDoorP6
import Derived.Test.YtdbljnddkbpanaaGreatDoorP1
import Derived.Test.YtdbljnddkbpanaaGreatDoorP2
import Derived.Test.YtdbljnddkbpanaaGreatDoorP4
namespace Go.Proofs.YtdbljnddkbpanaaGreatDoor
open Go.RowKit
theorem zox {ps:List Pk} (hn:(za4 ps).Nodup) {i:Nat} (hi:i<ps.length):pkOf ps (nmAt ps i)=ps.getD i pk0:=by
 unfold pkOf
 rcases zdt ps (nmAt ps i) with ⟨_,e⟩ | ⟨j,hj,e,hnm,_⟩
 ·
  exact absurd (zd6 hi) e
 ·
  rw [e]
  have:=zdD hn hj hi hnm
  subst this
  rfl
theorem pkOf_mem {ps:List Pk} {x:List UInt8} (hx:x∈za4 ps):pkOf ps x∈ps∧(pkOf ps x).1=x:=by
 rcases zdt ps x with ⟨_,e⟩ | ⟨j,hj,e,hnm,_⟩
 ·
  exact absurd hx e
 ·
  unfold pkOf
  rw [e]
  exact ⟨zcW hj,hnm⟩
theorem zow {ps:List Pk} (hn:(za4 ps).Nodup) {p:Pk} (hp:p∈ps):pkOf ps p.1=p:=by
 obtain ⟨i,hi,rfl⟩:=List.mem_iff_getElem.1 hp
 have e:ps.getD i pk0=ps[i]:=by simp [List.getD,hi]
 have:=zox hn hi
 unfold nmAt at this
 rw [e] at this
 exact this
theorem ziM {ps:List Pk} (h:zaL ps=true) {x:List UInt8}:x∈ord9 ps↔x∈za4 ps:=by
 unfold ord9
 rw [List.mem_append,List.mem_filter,decide_eq_true_eq]
 constructor
 ·
  rintro (e | e)
  ·
   exact (zbJ h).1.sub x e
  ·
   exact e.1
 ·
  intro e
  rcases Decidable.em (x∈zax ps) with h1 | h1
  ·
   exact Or.inl h1
  ·
   exact Or.inr ⟨e,h1⟩
structure Flt9 (ps:List Pk) (f:Flt):Prop where
 lo:1≤f.1
 hi:f.1≤4
 fn:f.2.2≠[]↔3≤f.1
theorem name_ne {x:List UInt8} (h:zaF x=true):x≠[]:=fun e=>by
 have:=(zcr h).1.1
 rw [e] at this
 simp at this
theorem zku {ps:List Pk} {p:Pk}:∀ (fs:List Fn) (k:Nat),(∀ f∈fs,f.1≠[])→∀ f,zd1 ps p fs k=some f→Flt9 ps f
 | [],_,_,f,h=>by simp [zd1] at h
 | g :: r,k,hf,f,h=>by
  rw [zd1] at h
  split at h
  ·
   rename_i h0
   injection h with h
   subst h
   have:=zpj ps p k
   exact ⟨by simp only;omega,by simp only;omega,⟨fun _=>by simp only;omega,fun _=>hf g List.mem_cons_self⟩⟩
  ·
   exact zku r (k+1) (fun q hq=>hf q (List.mem_cons_of_mem _ hq)) f h
theorem zii {ps:List Pk} {p:Pk}:∀ (fs:List Fn) (k:Nat),zd1 ps p fs k=none→∀ i,i<fs.length→func9 ps p (k+i)=0
 | [],_,_,i,hi=>by simp at hi
 | g :: r,k,h,i,hi=>by
  rw [zd1] at h
  split at h
  ·
   simp at h
  ·
   rename_i h0
   cases i with
   | zero=>simpa using h0
   | succ i =>
    have:=zii r (k+1) h i (by simpa using hi)
    rw [show k+(i+1)=k+1+i by omega]
    exact this
theorem pk9_val {ps:List Pk} {done i:Nat} {p:Pk} (hp:∀ f∈p.2.2,f.1≠[]) {f:Flt} (h:pk9 ps done i p=some f):Flt9 ps f:=by
 unfold pk9 at h
 split at h
 ·
  injection h with h;subst h;exact ⟨by simp,by simp,by simp⟩
 ·
  split at h
  ·
   injection h with h;subst h;exact ⟨by simp,by simp,by simp⟩
  ·
   exact zku _ _ hp f h
theorem zkw {ps:List Pk} {done:Nat} (hp:∀ p∈ps,∀ f∈p.2.2,f.1≠[]):∀ (l:List (List UInt8)) (i:Nat),(∀ x∈l,x∈za4 ps)→∀ f,zc7 ps done l i=some f→Flt9 ps f
 | [],_,_,f,h=>by simp [zc7] at h
 | x :: r,i,hl,f,h=>by
  rw [zc7] at h
  rcases hk:pk9 ps done i (pkOf ps x) with _ | g
  ·
   rw [hk] at h
   exact zkw hp r (i+1) (fun y hy=>hl y (List.mem_cons_of_mem _ hy)) f h
  ·
   rw [hk] at h
   injection h with h
   subst h
   exact pk9_val (hp _ (pkOf_mem (hl x List.mem_cons_self)).1) hk
theorem zik {ps:List Pk} {done:Nat}:∀ (l:List (List UInt8)) (i:Nat),zc7 ps done l i=none→∀ k,k<l.length→pk9 ps done (i+k) (pkOf ps (l.getD k []))=none
 | [],_,_,k,hk=>by simp at hk
 | x :: r,i,h,k,hk=>by
  rw [zc7] at h
  rcases hp:pk9 ps done i (pkOf ps x) with _ | g
  ·
   rw [hp] at h
   cases k with
   | zero=>simpa using hp
   | succ k =>
    have:=zik r (i+1) h k (by simpa using hk)
    rw [show i+(k+1)=i+1+k by omega]
    simpa using this
  ·
   rw [hp] at h;simp at h
theorem names_ne {ps:List Pk} (h:zaL ps=true):∀ p∈ps,∀ f∈p.2.2,f.1≠[]:=fun p hp f hf=>by
 have h1:=(zdj ((zac h).2.2 p hp)).2.2.2.2 f hf
 unfold zeL at h1
 rw [Bool.and_eq_true] at h1
 exact name_ne h1.1
theorem zeM {ps:List Pk} (h0:(zaY ps).1=0):zaY ps=(0,[],[])∧zaL ps=true∧(zax ps).length=ps.length∧(∀ p∈ps,∀ m∈p.2.1,m∈za4 ps)∧(∀ p∈ps,∀ k,k<p.2.2.length→func9 ps p k=0) ∧
 (0≤at8 ps za7∧0≤atV (pkOf ps za7).2.2 za7∧((pkOf ps za7).2.2.getD (atV (pkOf ps za7).2.2 za7).toNat fn0).2.1=1):=by
 unfold zaY at h0 ⊢
 rcases hp:zaL ps with _ | _
 ·
  rw [hp,if_neg (by simp)] at h0;simp at h0
 ·
  rw [hp,if_pos rfl] at h0
  rw [if_pos rfl]
  unfold zaZ at h0 ⊢
  rcases hf:zc7 ps (zax ps).length (ord9 ps) 0 with _ | f
  ·
   rw [hf] at h0
   simp only at h0 ⊢
   have hm:0≤at8 ps za7∧0≤atV (pkOf ps za7).2.2 za7∧((pkOf ps za7).2.2.getD (atV (pkOf ps za7).2.2 za7).toNat fn0).2.1=1:=by
    unfold zcs at h0
    exact Decidable.byContradiction fun e=>by rw [if_neg e] at h0;simp at h0
   have hnone:=zik _ _ hf
   have hnd:=(zac hp).1.nodup
   have hlen:(ord9 ps).length≤(zax ps).length:=by
    rcases Nat.lt_or_ge (zax ps).length (ord9 ps).length with hl | hl
    ·
     have:=hnone (zax ps).length hl
     unfold pk9 at this
     split at this
     ·
      simp at this
     ·
      rw [if_pos (by omega)] at this;simp at this
    ·
     exact hl
   have hall:∀ x∈za4 ps,x∈zax ps:=fun x hx=>by
    have he:(za4 ps).filter (fun x=>decide (¬x∈zax ps))=[]:=by
     apply List.eq_nil_of_length_eq_zero
     unfold ord9 at hlen
     rw [List.length_append] at hlen
     omega
    rw [List.filter_eq_nil_iff] at he
    have:=he x hx
    rw [decide_eq_true_eq] at this
    exact Decidable.byContradiction this
   have hpk:∀ p∈ps,¬zhD ps p∧zd1 ps p p.2.2 0=none:=fun p hpm=>by
    have hx:p.1∈za4 ps:=List.mem_map.2 ⟨p,hpm,rfl⟩
    obtain ⟨k,hk,e⟩:=List.mem_iff_getElem.1 ((ziM hp).2 hx)
    have h1:=hnone k hk
    rw [show (ord9 ps).getD k []=p.1 by simp [List.getD,hk,e],zow hnd hpm] at h1
    unfold pk9 at h1
    split at h1
    ·
     simp at h1
    ·
     rename_i hm
     split at h1
     ·
      simp at h1
     ·
      exact ⟨hm,h1⟩
   refine ⟨by unfold zcs;rw [if_pos hm],trivial,?_,fun p hpm m hmm=>?_,fun p hpm k hk=>?_,hm⟩
   ·
    have h1:=(zbJ hp).1.len
    have h2:=hnd.length_le_of_subset (fun x hx=>hall x hx)
    have h3:(za4 ps).length=ps.length:=by simp [za4]
    omega
   ·
    refine (zdK ps m).1 ?_
    have h1:=(hpk p hpm).1
    unfold zhD at h1
    rcases Int.lt_or_le (at8 ps m) 0 with h2 | h2
    ·
     exact absurd ⟨m,hmm,h2⟩ h1
    ·
     exact h2
   ·
    have:=zii _ _ (hpk p hpm).2 k hk
    simpa using this
  ·
   rw [hf] at h0
   have:=(zkw (names_ne hp) _ _ (fun x hx=>(ziM hp).1 hx) f hf).lo
   simp only at h0
   omega
theorem zjq (s:List UInt8):∀ (fs:List Fn) (k:Nat),atGo s fs k=-1∨∃ i,i<fs.length∧atGo s fs k=((k+i:Nat):Int)∧(fs.getD i fn0).1=s
 | [],k=>Or.inl rfl
 | p :: r,k=>by
  rw [atGo]
  by_cases h:p.1=s
  ·
   rw [if_pos h];exact Or.inr ⟨0,by simp,by simp,by simpa using h⟩
  ·
   rw [if_neg h]
   rcases zjq s r (k+1) with e | ⟨i,hi,e,hn⟩
   ·
    exact Or.inl e
   ·
    exact Or.inr ⟨i+1,by simpa using hi,by rw [e];congr 1;omega,by simpa using hn⟩
theorem zir (fs:List Fn) (s:List UInt8):atV fs s=-1∨∃ i,i<fs.length∧atV fs s=(i:Int)∧(fs.getD i fn0).1=s:=by
 rcases zjq s fs 0 with e | ⟨i,hi,e,hn⟩
 ·
  exact Or.inl e
 ·
  exact Or.inr ⟨i,hi,by unfold atV;rw [e];congr 1;omega,hn⟩
def hit9 (ps:List Pk) (s:List UInt8) (at_:Int) (n:Nd) (j m:Nat):Prop:=nmAt ps j=n.2.2.1∧((ps.getD j pk0).2.2.getD m fn0).1=n.2.2.2∧((ps.getD j pk0).2.2.getD m fn0).2.1=n.2.1∧(n.2.2.1≠s∨(m:Int)<at_)
def ok9 (ps:List Pk) (s:List UInt8) (n:Nd) (i:Nat):Prop:=n.2.2.1=s∨n.2.2.1∈zbc ps i
def found9 (ps:List Pk) (s:List UInt8) (at_:Int) (n:Nd):Prop:=∃ i,i<ps.length∧nmAt ps i=s∧ok9 ps s n i∧∃ j,j<ps.length∧∃ m,m<(ps.getD j pk0).2.2.length∧hit9 ps s at_ n j m
theorem znj {ps:List Pk} (h:zaL ps=true) {p:Pk} (hp:p∈ps):p.1∈zax ps↔∀ m∈p.2.1,m∈za4 ps→m∈(zax ps).takeWhile (fun x=>decide (x≠p.1)):=by
 obtain ⟨ho,hn⟩:=zbJ h
 refine ⟨fun h1=>ho.need p hp h1,fun h1=>?_⟩
 rcases Decidable.em (p.1∈zax ps) with h2 | h2
 ·
  exact h2
 ·
  rw [zma h2] at h1
  exact absurd ⟨h2,h1⟩ (zns hn p hp)
def Seed8 (ps:List Pk) (o:List (List UInt8)) (s x:List UInt8):Prop:=x=s∨∃ p∈ps,p.1∈o∧x∈p.2.1∧x∈za4 ps
def zjY (ps:List Pk) (x:List UInt8):Nat:=(zax ps).idxOf x
theorem zo4 {out:List (List UInt8)} {m x:List UInt8}:m∈out.takeWhile (fun y=>decide (y≠x))→out.idxOf m<out.idxOf x:=by
 induction out with
 | nil=>intro h;simp at h
 | cons a r ih =>
  intro h
  rw [List.takeWhile_cons] at h
  by_cases ha:a=x
  ·
   rw [if_neg (by simpa using ha)] at h;simp at h
  ·
   rw [if_pos (by simpa using ha)] at h
   rw [List.idxOf_cons,List.idxOf_cons]
   have hax:(a==x)=false:=beq_eq_false_iff_ne.2 ha
   rw [hax]
   rcases List.mem_cons.1 h with e | h
   ·
    subst e;simp
   ·
    by_cases hm:a=m
    ·
     subst hm;simp
    ·
     have hmm:(a==m)=false:=beq_eq_false_iff_ne.2 hm
     rw [hmm]
     have:=ih h
     simp only [cond_false]
     omega
theorem idx_pair {out:List (List UInt8)} (h:out.Nodup):out.Pairwise (fun a b=>out.idxOf a<out.idxOf b):=by
 rw [List.pairwise_iff_getElem]
 intro i j hi hj hij
 rw [List.Nodup.idxOf_getElem h i hi,List.Nodup.idxOf_getElem h j hj]
 exact hij
structure zcC (ps:List Pk):Prop where
 p:zaL ps=true
 len:(zax ps).length=ps.length
 here:∀ p∈ps,∀ m∈p.2.1,m∈za4 ps
 main:za7∈za4 ps
theorem zds {ps:List Pk} (h0:(zaY ps).1=0):zcC ps:=by
 obtain ⟨_,hp,hl,hh,_,hm,_⟩:=zeM h0
 exact ⟨hp,hl,hh,(zdK ps za7).1 hm⟩
section
variable {ps:List Pk} (C:zcC ps)
include C
theorem zcC.all (x:List UInt8) (hx:x∈za4 ps):x∈zax ps:=by
 have ho:=(zbJ C.p).1
 have hn:=(zac C.p).1.nodup
 exact zmh ho.nd (fun y hy=>ho.sub y hy) (by rw [C.len];simp [za4]) x hx
theorem zcC.ahead {p:Pk} (hp:p∈ps) {m:List UInt8} (hm:m∈p.2.1):zjY ps m<zjY ps p.1:=by
 have h1:=C.all p.1 (List.mem_map_of_mem hp)
 exact zo4 ((znj C.p hp).1 h1 m hm (C.here p hp m hm))
theorem zcC.last:∀ (n:Nat) (x:List UInt8),x∈zco ps za7→(zax ps).length-zjY ps x<n→x=za7∨zjY ps x<zjY ps za7
 | 0,_,_,h=>absurd h (Nat.not_lt_zero _)
 | n+1,x,hx,h=>by
  have hr:=(zed C.main).1
  rcases hr.why x hx with e | ⟨p,hp,hpo,hxp⟩
  ·
   exact Or.inl e
  ·
   have ha:=C.ahead hp hxp
   have hb:zjY ps p.1<(zax ps).length:=List.idxOf_lt_length_of_mem (C.all p.1 (List.mem_map_of_mem hp))
   rcases zcC.last n p.1 hpo (by omega) with e | e
   ·
    rw [e] at ha;exact Or.inr ha
   ·
    exact Or.inr (by omega)
end
def zae (ps:List Pk):List (List UInt8):=zdc ps za7++[za7]
theorem zdW {ps:List Pk} (C:zcC ps):(zae ps).Pairwise (fun a b=>zjY ps a<zjY ps b):=by
 have ho:=(zbJ C.p).1
 unfold zae
 rw [List.pairwise_append]
 refine ⟨(idx_pair ho.nd).sublist List.filter_sublist,List.pairwise_singleton _ _,fun a ha b hb=>?_⟩
 rw [List.mem_singleton] at hb
 subst hb
 unfold zdc at ha
 rw [List.mem_filter,decide_eq_true_eq] at ha
 rcases C.last _ a ha.2.2 (Nat.lt_succ_self _) with e | e
 ·
  exact absurd e ha.2.1
 ·
  exact e
theorem zdy {ps:List Pk} (C:zcC ps):∀ x∈zae ps,x∈za4 ps:=fun x hx=>by
 unfold zae at hx
 rcases List.mem_append.1 hx with h | h
 ·
  unfold zdc at h
  exact (zbJ C.p).1.sub x (List.mem_filter.1 h).1
 ·
  rw [List.mem_singleton] at h;rw [h];exact C.main
theorem ziK {ps:List Pk} (C:zcC ps):(zae ps).Nodup:=(zdW C).imp (fun {a b} h e=>by subst e;omega)
theorem zdz {ps:List Pk} (C:zcC ps):1≤(zae ps).length∧(zae ps).length≤8:=by
 have h1:=(ziK C).length_le_of_subset (fun x hx=>zdy C x hx)
 have h2:=(zac C.p).2.1
 simp only [za4,List.length_map] at h1
 refine ⟨by unfold zae;simp,by omega⟩
theorem zjV {ps:List Pk} {s:List UInt8} (hs:s∈za4 ps):pkOf ps s∈ps∧(pkOf ps s).1=s:=by
 have h:=(zdK ps s).2 hs
 unfold pkOf at8 at *
 have key:∀ (l:List Pk) (k:Nat),0≤zca s l k→(k:Int)≤zca s l k∧zca s l k<k+l.length∧(l.getD ((zca s l k).toNat-k) pk0).1=s:=by
  intro l
  induction l with
  | nil=>intro k h;simp [zca] at h
  | cons a r ih =>
   intro k h
   unfold zca at h ⊢
   split
   ·
    rename_i e
    exact ⟨by omega,by simp;omega,by simp [e]⟩
   ·
    rename_i e
    rw [if_neg e] at h
    obtain ⟨h1,h2,h3⟩:=ih (k+1) h
    refine ⟨by omega,by simp;omega,?_⟩
    have e2:(zca s r (k+1)).toNat-k=((zca s r (k+1)).toNat-(k+1))+1:=by omega
    rw [e2,List.getD_cons_succ]
    exact h3
 obtain ⟨h1,h2,h3⟩:=key ps 0 h
 rw [Nat.sub_zero] at h3
 refine ⟨?_,h3⟩
 rw [List.getD_eq_getElem?_getD,List.getElem?_eq_getElem (by omega)]
 exact List.getElem_mem (by omega)
def zaR (os ims:List (List UInt8)) (n:Nat):List Int:=((List.range n).filter (fun k:Nat=>decide (os.getD k []∈ims))).map (fun k:Nat=>((k:Nat):Int))
theorem znn {ps:List Pk} (C:zcC ps) {i:Nat} (hi:i<(zae ps).length):zaR (zae ps) (pkOf ps ((zae ps).getD i [])).2.1 (zae ps).length=zaR (zae ps) (pkOf ps ((zae ps).getD i [])).2.1 i:=by
 obtain ⟨d,hd⟩:∃ d,(zae ps).length=i+d:=⟨_,(Nat.add_sub_cancel' (Nat.le_of_lt hi)).symm⟩
 unfold zaR
 rw [hd,List.range_add,List.filter_append,List.map_append]
 have hn:((List.range d).map (fun x=>i+x)).filter (fun k=>decide ((zae ps).getD k []∈(pkOf ps ((zae ps).getD i [])).2.1))=[]:=by
  rw [List.filter_eq_nil_iff]
  intro k hk
  obtain ⟨j,hj,rfl⟩:=List.mem_map.1 hk
  rw [List.mem_range] at hj
  rw [decide_eq_true_eq]
  intro hm
  have hgi:(zae ps).getD i []=(zae ps)[i]:=by simp [List.getD,hi]
  have hgk:(zae ps).getD (i+j) []=(zae ps)[i+j]'(by omega):=by simp [List.getD,show i+j<(zae ps).length by omega]
  obtain ⟨hp,hpn⟩:=zjV (zdy C _ (List.getElem_mem hi))
  rw [hgi] at hm
  have ha:=C.ahead hp hm
  rw [hpn,hgk] at ha
  rcases Nat.eq_zero_or_pos j with e | e
  ·
   subst e;simp at ha
  ·
   have:=List.pairwise_iff_getElem.1 (zdW C) i (i+j) hi (by omega) (by omega)
   omega
 rw [hn]
 simp
theorem zoG (os ims:List (List UInt8)) (i:Nat):zcT (i:Int) (zaR os ims i)=true:=by
 refine zfx (fun j hj=>?_)
 have hp:(zaR os ims i).Pairwise (fun a b=>a<b):=by
  unfold zaR
  rw [List.pairwise_map]
  exact (List.pairwise_lt_range.sublist List.filter_sublist).imp (fun h=>by omega)
 have hm:∀ x∈zaR os ims i,0≤x∧x<(i:Int):=fun x hx=>by
  obtain ⟨k,hk,rfl⟩:=List.mem_map.1 hx
  have:=List.mem_range.1 (List.mem_filter.1 hk).1
  omega
 have hg:∀ k (hk:k<(zaR os ims i).length),(zaR os ims i).getD k 0=(zaR os ims i)[k]:=fun k hk=>by simp [List.getD,hk]
 unfold zbm
 rw [hg j hj]
 obtain ⟨h0,h1⟩:=hm _ (List.getElem_mem hj)
 refine ⟨h0,h1,fun h=>?_⟩
 rw [hg (j-1) (by omega)]
 exact List.pairwise_iff_getElem.1 hp (j-1) j (by omega) hj (by omega)
def zaB (n:Int):List UInt8:=zdJ ([115,116,97,114,116,32]++intL n)
def zcf (ps:List Pk) (i:Nat):Ta:=((zae ps).getD i [],zaR (zae ps) (pkOf ps ((zae ps).getD i [])).2.1 i,0,0,0,0)
def zaP (ps:List Pk):List Ta:=(List.range (zae ps).length).map (zcf ps)
def newV (ps:List Pk):Dk × Bool:=if (zaY ps).1=0 then ((zaP ps,1,0,zaB 1),true) else (dk0,false)
theorem zfm {ps:List Pk} {i:Nat} (hi:i<(zae ps).length):(zaP ps).getD i ta0=zcf ps i:=by
 unfold zaP;simp [List.getD,hi]
theorem zea {n:Int} (h0:-9223372036854775808≤n) (h1:n≤9223372036854775807):(zaB n).length≤1000:=by
 have h:=zer 19 n.natAbs (by omega)
 have hi:(intL n).length≤21:=by
  unfold intL
  split
  ·
   simp only [List.length_cons];omega
  ·
   omega
 unfold zaB
 rw [zbY _ (by simp only [List.length_append,List.length_cons,List.length_nil];omega)]
 have h8:∀ n,(hexL n).length=8:=fun _=>rfl
 unfold zaj
 simp only [List.length_append,List.length_cons,List.length_nil,h8]
 omega
theorem zms {ps:List Pk} (h0:(zaY ps).1=0):zay (zaP ps,1,0,zaB 1)=true:=by
 have C:=zds h0
 have hl:(zaP ps).length=(zae ps).length:=by unfold zaP;simp
 have h8:=zdz C
 have hj:=zea (n:=1) (by omega) (by omega)
 refine zau.2 ⟨by show 1≤(zaP ps).length∧(zaP ps).length≤8;omega,by show (1:Int)≤1∧(1:Int)≤1000;omega,by show (0:Int)≤0∧(0:Int)≤1000000;omega,by show (zaB 1).length≤60000;omega,fun i hi=>?_⟩
 have hi:i<(zae ps).length:=by rw [←hl];exact hi
 have hgi:∀ k (hk:k<(zae ps).length),(zae ps).getD k []=(zae ps)[k]:=fun k hk=>by simp [List.getD,hk]
 unfold zcG
 show zaF ((zaP ps).getD i ta0).1=true∧zcd (i:Int) ((zaP ps).getD i ta0)=true∧∀ k,k<i→((zaP ps).getD k ta0).1≠((zaP ps).getD i ta0).1
 rw [zfm hi]
 refine ⟨?_,?_,fun k hk=>?_⟩
 ·
  show zaF ((zae ps).getD i [])=true
  rw [hgi i hi]
  obtain ⟨hp,hn⟩:=zjV (zdy C _ (List.getElem_mem hi))
  have:=(zac C.p).2.2 _ hp
  rw [←hn]
  exact (zdj this).1
 ·
  unfold zcd
  rw [Bool.and_eq_true]
  exact ⟨zoG _ _ i,rfl⟩
 ·
  rw [zfm (by omega)]
  show (zae ps).getD k []≠(zae ps).getD i []
  rw [hgi k (by omega),hgi i hi]
  intro e
  have:=List.pairwise_iff_getElem.1 (zdW C) k i (by omega) hi hk
  rw [e] at this
  omega
section
def zad:Nat→List UInt8→List (List UInt8)
 | 0,_=>[]
 | k+1,l=>if zaU l=true then zap l :: zad k (l.drop (16+(zap l).length)) else []
def za1:List (List UInt8)→Nat
 | []=>0
 | t :: r=>16+t.length+za1 r
def za2 (l:List UInt8):List (List UInt8):=zad 400 l
theorem zbX (k:Nat) (l:List UInt8) (h:zaU l=false):zad k l=[]:=by
 cases k with
 | zero=>rfl
 | succ k=>unfold zad;rw [h];rfl
theorem zc2 (k:Nat) (l:List UInt8) (h:zaU l=true):zad (k+1) l=zap l :: zad k (l.drop (16+(zap l).length)):=by
 conv=>lhs;unfold zad
 rw [if_pos h]
theorem zbF (o:List (List UInt8)) (t:List UInt8):za1 (o++[t])=za1 o+(16+t.length):=by
 induction o with
 | nil=>simp [za1]
 | cons a r ih=>simp only [List.cons_append,za1,ih];omega
theorem zfG (t:List UInt8) (h:zaU t=true):16+(zap t).length≤t.length:=by
 have hf:=zen t h
 have e:=congrArg List.length hf.2.2
 rw [List.length_append,zaW] at e
 omega
theorem zlT (l:List UInt8) (o:List (List UInt8)) (u:Nat) (ho:o.length<400) (hu:u=za1 o) (hle:u≤l.length) (h:o++zad (400-o.length) (l.drop u)=za2 l) (hb:zaU (l.drop u)=true) :
 (o++[zap (l.drop u)])++zad (400-(o++[zap (l.drop u)]).length) (l.drop (u+(16+(zap (l.drop u)).length)))=za2 l∧u+(16+(zap (l.drop u)).length)=za1 (o++[zap (l.drop u)])∧u+(16+(zap (l.drop u)).length)≤l.length:=by
 have hfit:=zfG _ hb
 rw [List.length_drop] at hfit
 refine ⟨?_,by rw [zbF,←hu],by omega⟩
 rw [←h,List.append_assoc,List.length_append,List.length_singleton]
 obtain ⟨k,hk⟩:∃ k,400-o.length=k+1:=⟨400-o.length-1,by omega⟩
 rw [hk,zc2 k _ hb,List.drop_drop,show 400-(o.length+1)=k by omega]
 rfl
theorem zkq (k:Nat) (l:List UInt8):(zad k l).length≤k:=by
 induction k generalizing l with
 | zero=>exact Nat.le_refl _
 | succ k ih =>
  unfold zad
  split
  ·
   rw [List.length_cons];have:=ih (l.drop (16+(zap l).length));omega
  ·
   exact Nat.zero_le _
theorem zdH (l:List UInt8):(za2 l).length≤400:=zkq 400 l
end
section
theorem zfW:∀ (n:Nat) (l:List UInt8) (j:Nat),l.take (za1 ((zad n l).take j))=(((zad n l).take j).map zaj).flatten
 | 0,l,j=>by simp [zad,za1]
 | n+1,l,0=>by simp [za1]
 | n+1,l,j+1=>by
  rcases hb:zaU l with _ | _
  ·
   rw [zbX _ _ hb];simp [za1]
  ·
   rw [zc2 _ _ hb,List.take_succ_cons,List.map_cons,List.flatten_cons,za1]
   have hf:=zen l hb
   have ih:=zfW n (l.drop (16+(zap l).length)) j
   have hl:=zaW (zap l)
   rw [←ih]
   generalize za1 ((zad n (l.drop (16+(zap l).length))).take j)=u
   have he:=hf.2.2
   clear hf ih hb
   generalize zap l=t at he hl ⊢
   generalize hr:l.drop (16+t.length)=r at he ⊢
   rw [he,List.take_append,hl,List.take_of_length_le (by rw [hl];omega),show 16+t.length+u-(16+t.length)=u by omega]
theorem zif (l:List UInt8) (j:Nat):l.take (za1 ((za2 l).take j))=(((za2 l).take j).map zaj).flatten:=zfW 400 l j
theorem ze0 {a:Int} (h0:-2147483648≤a) (h1:a≤2147483647):∀ c∈intL a,c≠32:=by
 have h:=(zgE.1 (zdx a h0 h1).1).2.1
 intro c hc e
 subst e
 unfold zaG at h
 split at h
 ·
  rename_i hn
  unfold negB at hn
  rcases hi:intL a with _ | ⟨d,r⟩
  ·
   rw [hi] at hc;cases hc
  ·
   rw [hi] at hc hn h
   rcases List.mem_cons.1 hc with e | e
   ·
    subst e
    simp at hn
   ·
    have:=h 32 e
    unfold zbe at this
    revert this;decide
 ·
  have:=h 32 hc
  unfold zbe at this
  revert this;decide
def zcR:List UInt8:=[115,116,97,114,116]
def zde:List UInt8:=[100,111,110,101]
def isStart (f:List UInt8) (n:Int):Prop:=∃ w,za3 32 f=[zcR,w]∧zaH w=true∧zah w=n
theorem zgV {f:List UInt8} {n:Int} (h0:-2147483648≤n) (h1:n≤2147483647):isStart f n↔f=zcR++32 :: intL n:=by
 constructor
 ·
  rintro ⟨w,hs,hb,hv⟩
  have hj:=zfQ 32 f []
  rw [show zan 32 [] f=[zcR,w] from hs] at hj
  have hi:intL n=w:=by
   rw [←hv]
   have hr:=zml w hb
   unfold intL
   split
   ·
    rename_i h;exact hr.2 h
   ·
    rename_i h;exact hr.1 (by omega)
  rw [zbB _ _ _ (by simp)] at hj
  rw [hi]
  simpa [zd7] using hj.symm
 ·
  intro e
  obtain ⟨hb,hv⟩:=zdx n h0 h1
  refine ⟨intL n,?_,hb,hv⟩
  rw [e,show zcR++32 :: intL n=zd7 32 [zcR,intL n] by rw [zbB _ _ _ (by simp)];simp [zd7]]
  refine zhO 32 _ (by simp) (fun x hx=>?_)
  simp only [List.mem_cons,List.not_mem_nil,or_false] at hx
  rcases hx with rfl | rfl
  ·
   decide
  ·
   exact ze0 h0 h1
def isDone (f:List UInt8) (k key:Int):Prop:=∃ w u,za3 32 f=[zde,w,u]∧(zaH w=true∧zah w=k)∧(zaH u=true∧zah u=key)
theorem zeg {f:List UInt8} {k key:Int} (h0:-2147483648≤k) (h1:k≤2147483647) (h2:-2147483648≤key) (h3:key≤2147483647):isDone f k key↔f=zde++32 :: (intL k++32 :: intL key):=by
 have hread:∀ (w:List UInt8) (n:Int),zaH w=true→zah w=n→intL n=w:=by
  intro w n hb hv
  rw [←hv]
  have hr:=zml w hb
  unfold intL
  split
  ·
   rename_i h;exact hr.2 h
  ·
   rename_i h;exact hr.1 (by omega)
 constructor
 ·
  rintro ⟨w,u,hs,⟨hb,hv⟩,⟨hc,hu⟩⟩
  have hj:=zfQ 32 f []
  rw [show zan 32 [] f=[zde,w,u] from hs] at hj
  rw [zbB _ _ _ (by simp),zbB _ _ _ (by simp)] at hj
  rw [hread w k hb hv,hread u key hc hu]
  simpa [zd7] using hj.symm
 ·
  intro e
  obtain ⟨hb,hv⟩:=zdx k h0 h1
  obtain ⟨hc,hu⟩:=zdx key h2 h3
  refine ⟨intL k,intL key,?_,⟨hb,hv⟩,⟨hc,hu⟩⟩
  rw [e,show zde++32 :: (intL k++32 :: intL key)=zd7 32 [zde,intL k,intL key] by rw [zbB _ _ _ (by simp),zbB _ _ _ (by simp)];simp [zd7]]
  refine zhO 32 _ (by simp) (fun x hx=>?_)
  simp only [List.mem_cons,List.not_mem_nil,or_false] at hx
  rcases hx with rfl | rfl | rfl
  ·
   decide
  ·
   exact ze0 h0 h1
  ·
   exact ze0 h2 h3
end
def zcA (k key:Int):List UInt8:=(([100,111,110,101,32]++intL k)++[32])++intL key
def zce (k key:Int):List UInt8:=zdJ (zcA k key)
theorem zcO {n:Int} (h0:-9223372036854775808≤n) (h1:n≤9223372036854775807):(intL n).length≤21:=by
 have h:=zer 19 n.natAbs (by omega)
 unfold intL
 split
 ·
  simp only [List.length_cons];omega
 ·
  omega
theorem zcY {k key:Int} (h0:-9223372036854775808≤k) (h1:k≤9223372036854775807) (h2:-9223372036854775808≤key) (h3:key≤9223372036854775807):(zcA k key).length≤100:=by
 have a:=zcO h0 h1
 have b:=zcO h2 h3
 unfold zcA
 simp only [List.length_append,List.length_cons,List.length_nil]
 omega
theorem zk6 {k key:Int} (h0:-9223372036854775808≤k) (h1:k≤9223372036854775807) (h2:-9223372036854775808≤key) (h3:key≤9223372036854775807):(zce k key).length≤1000:=by
 have a:=zcY h0 h1 h2 h3
 unfold zce
 rw [zbY _ (by omega)]
 have h8:∀ n,(hexL n).length=8:=fun _=>rfl
 unfold zaj
 simp only [List.length_append,h8]
 omega
def zbo (d:Dk) (k e key:Int):Int :=
 if (k<0∨(d.1.length:Int)≤k)∨zbA key=false then 3
 else if 60000<d.2.2.2.length+(zce k key).length then 3
 else if e≠d.2.1 then 1
 else if (d.1.getD k.toNat ta0).2.2.1=2 then 2
 else if zbj d.1 (d.1.getD k.toNat ta0)=false then 4 else 0
def zbR (t:Ta) (key:Int):Ta:=(t.1,t.2.1,2,0,0,key)
def zch (d:Dk) (k e key:Int):Dk × Int :=
 if zbo d k e key=0 then ((d.1.set k.toNat (zbR (d.1.getD k.toNat ta0) key),d.2.1,d.2.2.1,d.2.2.2++zce k key),0) else (d,zbo d k e key)
def returnedV (d:Dk) (k e key:Int):Dk × Int:=if zay d=true then zch d k e key else (dk0,3)
theorem ret_bad {d:Dk} {k e key:Int} (h:(k<0∨(d.1.length:Int)≤k)∨zbA key=false):zbo d k e key=3:=by unfold zbo;rw [if_pos h]
theorem ret_room {d:Dk} {k e key:Int} (h:¬((k<0∨(d.1.length:Int)≤k)∨zbA key=false)) (h2:60000<d.2.2.2.length+(zce k key).length):zbo d k e key=3:=by unfold zbo;rw [if_neg h,if_pos h2]
theorem ret_old {d:Dk} {k e key:Int} (h:¬((k<0∨(d.1.length:Int)≤k)∨zbA key=false)) (h2:¬60000<d.2.2.2.length+(zce k key).length) (h3:e≠d.2.1):zbo d k e key=1:=by unfold zbo;rw [if_neg h,if_neg h2,if_pos h3]
theorem zok {d:Dk} {k e key:Int} (h:¬((k<0∨(d.1.length:Int)≤k)∨zbA key=false)) (h2:¬60000<d.2.2.2.length+(zce k key).length) (h3:e=d.2.1) (h4:(d.1.getD k.toNat ta0).2.2.1=2):zbo d k e key=2:=by unfold zbo;rw [if_neg h,if_neg h2,if_neg (fun x=>x h3),if_pos h4]
theorem ret_open {d:Dk} {k e key:Int} (h:¬((k<0∨(d.1.length:Int)≤k)∨zbA key=false)) (h2:¬60000<d.2.2.2.length+(zce k key).length) (h3:e=d.2.1) (h4:(d.1.getD k.toNat ta0).2.2.1≠2) (h5:zbj d.1 (d.1.getD k.toNat ta0)=false):zbo d k e key=4:=by unfold zbo;rw [if_neg h,if_neg h2,if_neg (fun x=>x h3),if_neg h4,if_pos h5]
theorem ret_ok {d:Dk} {k e key:Int} (h:¬((k<0∨(d.1.length:Int)≤k)∨zbA key=false)) (h2:¬60000<d.2.2.2.length+(zce k key).length) (h3:e=d.2.1) (h4:(d.1.getD k.toNat ta0).2.2.1≠2) (h5:zbj d.1 (d.1.getD k.toNat ta0)=true):zbo d k e key=0:=by unfold zbo;rw [if_neg h,if_neg h2,if_neg (fun x=>x h3),if_neg h4,if_neg (by rw [h5];simp)]
theorem zdw {d:Dk} {k e key c:Int} (h:zbo d k e key=c) (hc:c≠0):zch d k e key=(d,c):=by unfold zch;rw [h,if_neg hc]
theorem ziH {d:Dk} {k e key:Int} (h:zbo d k e key=0):zch d k e key=((d.1.set k.toNat (zbR (d.1.getD k.toNat ta0) key),d.2.1,d.2.2.1,d.2.2.2++zce k key),0):=by unfold zch;rw [if_pos h]
theorem zhW {d:Dk} {k e key:Int}:(zch d k e key).1.2.1=d.2.1∧(zch d k e key).1.2.2.1=d.2.2.1∧(zch d k e key).1.1.length=d.1.length:=by
 unfold zch
 split
 ·
  exact ⟨rfl,rfl,by simp⟩
 ·
  exact ⟨rfl,rfl,rfl⟩
theorem ziT {ts:List (List UInt8)} {s:List UInt8} {k:Nat} (h:∀ i,i<k→ts.getD i []≠s) (hk:ts.length≤k):¬s∈ts:=fun hm=>by
 obtain ⟨i,hi,rfl⟩:=List.mem_iff_getElem.1 hm
 exact h i (by omega) (by simp [List.getD,hi])
theorem zko {ts:List (List UInt8)} {k:Nat} (hk:k<ts.length):ts.getD k []∈ts:=by
 rw [List.getD_eq_getElem?_getD,List.getElem?_eq_getElem hk];exact List.getElem_mem hk
set_option maxHeartbeats 1000000 in
set_option maxRecDepth 100000 in
theorem zdU (a:Option Addr) (len cap:Nat) (ts:List (List UInt8)) (s:List UInt8) (w:World) (hin:za5 w a len ts) (hlen:len≤4194304) :
 Calls Tryz.prog 93 #[.slice a len cap,.string ⟨s.toArray⟩] w fun e w'=>e=.returned (.bool (decide (s∈ts)))∧w'=w:=by
 obtain rfl:ts.length=len:=hin.1
 have HI:Hid (za5 w a ts.length ts):=hin
 clear hin
 go_enter Tryz.func93,Tryz.ntmps93
 go_wp2
 go_loopw [5] (fun iv wr=>∃ k:Nat,iv=.int .i64 (k:Int)∧k≤ts.length∧Hid (∀ i,i<k→ts.getD i []≠s)∧wr=w) (fun iv _=>ts.length-(intOf iv).toNat)
 case atStart=>exact ⟨0,rfl,by omega,(fun i hi=>by omega),rfl⟩
 case round =>
  obtain ⟨k,rfl,hk,HA,rfl⟩:=hrel
  by_cases hlt:(k:Int)<(ts.length:Int)
  ·
   have hk2:k<ts.length:=by omega
   obtain ⟨b,off,rfl,hbl,c0⟩:=HI.out.2 k hk2
   have hmem:=zko hk2
   obtain ⟨x,hx⟩:∃ x,ts.getD k []=x:=⟨_,rfl⟩
   rw [hx] at c0 hmem
   by_cases hxs:x=s
   ·
    subst hxs
    have HR:Hid (decide (x∈ts)=true):=decide_eq_true hmem
    have hself:(x==x)=true:=by simp
    clear HA hx hmem
    go_wp2
    go_ret
    exact ⟨by rw [HR.out];rfl,rfl⟩
   ·
    have HA2:Hid (∀ i,i<k+1→ts.getD i []≠s):=fun i hi=>by
     rcases Nat.lt_or_ge i k with h | h
     ·
      exact HA.out i h
     ·
      obtain rfl:i=k:=by omega
      rw [hx];exact hxs
    have hne:(x==s)=false:=by rw [beq_eq_false_iff_ne];exact hxs
    clear HA hx hmem
    go_wp2
    go_roundw
    case rel=>exact ⟨k+1,by go_num,by omega,HA2,trivial⟩
    case measure=>simp [intOf];omega
  ·
   have HR:Hid (decide (s∈ts)=false):=decide_eq_false (ziT HA.out (by omega))
   go_wp2
   go_ret
   exact ⟨by rw [HR.out];rfl,rfl⟩
end Go.Proofs.YtdbljnddkbpanaaGreatDoor
