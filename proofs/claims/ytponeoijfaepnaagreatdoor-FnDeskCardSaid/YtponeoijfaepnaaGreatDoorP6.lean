/-
  Parts of one proof, one behind the other: Math9L, Math8L, Math18N, Math2G, Math18B, Math18R, HasS, PackS, PackS2.
-/
import Derived.Test.YtponeoijfaepnaaGreatDoorP5
namespace Go.Proofs.YtponeoijfaepnaaGreatDoor
open Go.RowKit
set_option maxHeartbeats 2000000
set_option maxRecDepth 100000
theorem zo8 {ps:List Pk} (hn:(za4 ps).Nodup) {i:Nat} (hi:i<ps.length):pkOf ps (nmAt ps i)=ps.getD i pk0:=by
 unfold pkOf;rcases zdm ps (nmAt ps i) with ⟨_,e⟩ | ⟨j,hj,e,hnm,_⟩
 ·exact absurd (zcY hi) e
 ·
  rw [e];have:=zdv hn hj hi hnm;subst this
  rfl
theorem pkOf_mem {ps:List Pk} {x:List UInt8} (hx:x∈za4 ps):pkOf ps x∈ps∧(pkOf ps x).1=x:=by
 rcases zdm ps x with ⟨_,e⟩ | ⟨j,hj,e,hnm,_⟩
 ·exact absurd hx e
 ·unfold pkOf;rw [e];exact ⟨zcP hj,hnm⟩
theorem zo7 {ps:List Pk} (hn:(za4 ps).Nodup) {p:Pk} (hp:p∈ps):pkOf ps p.1=p:=by
 obtain ⟨i,hi,rfl⟩:=List.mem_iff_getElem.1 hp;have e:ps.getD i pk0=ps[i]:=by simp [List.getD,hi]
 have:=zo8 hn hi;unfold nmAt at this;rw [e] at this;exact this
theorem zii {ps:List Pk} (h:zaK ps=true) {x:List UInt8}:x∈ord9 ps↔x∈za4 ps:=by
 unfold ord9;rw [List.mem_append,List.mem_filter,decide_eq_true_eq];constructor
 ·
  rintro (e | e)
  ·exact (zbJ h).1.sub x e
  ·exact e.1
 ·
  intro e;rcases Decidable.em (x∈zaz ps) with h1 | h1
  ·exact Or.inl h1
  ·exact Or.inr ⟨e,h1⟩
structure Flt9 (ps:List Pk) (f:Flt):Prop where
 lo:1≤f.1
 hi:f.1≤4
 fn:f.2.2≠[]↔3≤f.1
theorem name_ne {x:List UInt8} (h:zaE x=true):x≠[]:=fun e=>by
 have:=(zcl h).1.1;rw [e] at this;simp at this
theorem zjT {ps:List Pk} {p:Pk}:∀ (fs:List Fn) (k:Nat),(∀ f∈fs,f.1≠[])→∀ f,zcV ps p fs k=some f→Flt9 ps f
 | [],_,_,f,h=>by simp [zcV] at h
 | g :: r,k,hf,f,h=>by
  rw [zcV] at h
  split at h
  ·rename_i h0;injection h with h;subst h;have:=zoR ps p k;exact ⟨by simp only;omega,by simp only;omega,⟨fun _=>by simp only;omega,fun _=>hf g List.mem_cons_self⟩⟩
  ·exact zjT r (k+1) (fun q hq=>hf q (List.mem_cons_of_mem _ hq)) f h
theorem zhO {ps:List Pk} {p:Pk}:∀ (fs:List Fn) (k:Nat),zcV ps p fs k=none→∀ i,i<fs.length→func9 ps p (k+i)=0
 | [],_,_,i,hi=>by simp at hi
 | g :: r,k,h,i,hi=>by
  rw [zcV] at h
  split at h
  ·simp at h
  ·
   rename_i h0;cases i with
   | zero=>simpa using h0
   | succ i =>
    have:=zhO r (k+1) h i (by simpa using hi);rw [show k+(i+1)=k+1+i by omega];exact this
theorem pk9_val {ps:List Pk} {done i:Nat} {p:Pk} (hp:∀ f∈p.2.2,f.1≠[]) {f:Flt} (h:pk9 ps done i p=some f):Flt9 ps f:=by
 unfold pk9 at h
 split at h
 ·injection h with h;subst h;exact ⟨by simp,by simp,by simp⟩
 ·
  split at h
  ·injection h with h;subst h;exact ⟨by simp,by simp,by simp⟩
  ·exact zjT _ _ hp f h
theorem zjV {ps:List Pk} {done:Nat} (hp:∀ p∈ps,∀ f∈p.2.2,f.1≠[]):∀ (l:List (List UInt8)) (i:Nat),(∀ x∈l,x∈za4 ps)→∀ f,zc5 ps done l i=some f→Flt9 ps f
 | [],_,_,f,h=>by simp [zc5] at h
 | x :: r,i,hl,f,h=>by
  rw [zc5] at h;rcases hk:pk9 ps done i (pkOf ps x) with _ | g
  ·rw [hk] at h;exact zjV hp r (i+1) (fun y hy=>hl y (List.mem_cons_of_mem _ hy)) f h
  ·rw [hk] at h;injection h with h;subst h;exact pk9_val (hp _ (pkOf_mem (hl x List.mem_cons_self)).1) hk
theorem zhQ {ps:List Pk} {done:Nat}:∀ (l:List (List UInt8)) (i:Nat),zc5 ps done l i=none→∀ k,k<l.length→pk9 ps done (i+k) (pkOf ps (l.getD k []))=none
 | [],_,_,k,hk=>by simp at hk
 | x :: r,i,h,k,hk=>by
  rw [zc5] at h;rcases hp:pk9 ps done i (pkOf ps x) with _ | g
  ·
   rw [hp] at h;cases k with
   | zero=>simpa using hp
   | succ k =>
    have:=zhQ r (i+1) h k (by simpa using hk);rw [show i+(k+1)=i+1+k by omega]
    simpa using this
  ·rw [hp] at h;simp at h
theorem names_ne {ps:List Pk} (h:zaK ps=true):∀ p∈ps,∀ f∈p.2.2,f.1≠[]:=fun p hp f hf=>by
 have h1:=(zdc ((zaf h).2.2 p hp)).2.2.2.2 f hf;unfold zev at h1;rw [Bool.and_eq_true] at h1;exact name_ne h1.1
theorem zew {ps:List Pk} (h0:(zaS ps).1=0):zaS ps=(0,[],[])∧zaK ps=true∧(zaz ps).length=ps.length∧(∀ p∈ps,∀ m∈p.2.1,m∈za4 ps)∧(∀ p∈ps,∀ k,k<p.2.2.length→func9 ps p k=0) ∧
 (0≤at8 ps za6∧0≤atV (pkOf ps za6).2.2 za6∧((pkOf ps za6).2.2.getD (atV (pkOf ps za6).2.2 za6).toNat fn0).2.1=1):=by
 unfold zaS at h0 ⊢;rcases hp:zaK ps with _ | _
 ·rw [hp,if_neg (by simp)] at h0;simp at h0
 ·
  rw [hp,if_pos rfl] at h0;rw [if_pos rfl];unfold zaT at h0 ⊢;rcases hf:zc5 ps (zaz ps).length (ord9 ps) 0 with _ | f
  ·
   rw [hf] at h0;simp only at h0 ⊢
   have hm:0≤at8 ps za6∧0≤atV (pkOf ps za6).2.2 za6∧((pkOf ps za6).2.2.getD (atV (pkOf ps za6).2.2 za6).toNat fn0).2.1=1:=by unfold zcm at h0;exact Decidable.byContradiction fun e=>by rw [if_neg e] at h0;simp at h0
   have hnone:=zhQ _ _ hf;have hnd:=(zaf hp).1.nodup
   have hlen:(ord9 ps).length≤(zaz ps).length:=by
    rcases Nat.lt_or_ge (zaz ps).length (ord9 ps).length with hl | hl
    ·
     have:=hnone (zaz ps).length hl;unfold pk9 at this
     split at this
     ·simp at this
     ·rw [if_pos (by omega)] at this;simp at this
    ·exact hl
   have hall:∀ x∈za4 ps,x∈zaz ps:=fun x hx=>by
    have he:(za4 ps).filter (fun x=>decide (¬x∈zaz ps))=[]:=by apply List.eq_nil_of_length_eq_zero;unfold ord9 at hlen;rw [List.length_append] at hlen;omega
    rw [List.filter_eq_nil_iff] at he;have:=he x hx;rw [decide_eq_true_eq] at this;exact Decidable.byContradiction this
   have hpk:∀ p∈ps,¬zhi ps p∧zcV ps p p.2.2 0=none:=fun p hpm=>by
    have hx:p.1∈za4 ps:=List.mem_map.2 ⟨p,hpm,rfl⟩;obtain ⟨k,hk,e⟩:=List.mem_iff_getElem.1 ((zii hp).2 hx);have h1:=hnone k hk;rw [show (ord9 ps).getD k []=p.1 by simp [List.getD,hk,e],zo7 hnd hpm] at h1;unfold pk9 at h1
    split at h1
    ·simp at h1
    ·
     rename_i hm
     split at h1
     ·simp at h1
     ·exact ⟨hm,h1⟩
   refine ⟨by unfold zcm;rw [if_pos hm],trivial,?_,fun p hpm m hmm=>?_,fun p hpm k hk=>?_,hm⟩
   ·
    have h1:=(zbJ hp).1.len;have h2:=hnd.length_le_of_subset (fun x hx=>hall x hx);have h3:(za4 ps).length=ps.length:=by simp [za4]
    omega
   ·
    refine (zdB ps m).1 ?_;have h1:=(hpk p hpm).1;unfold zhi at h1;rcases Int.lt_or_le (at8 ps m) 0 with h2 | h2
    ·exact absurd ⟨m,hmm,h2⟩ h1
    ·exact h2
   ·
    have:=zhO _ _ (hpk p hpm).2 k hk
    simpa using this
  ·rw [hf] at h0;have:=(zjV (names_ne hp) _ _ (fun x hx=>(zii hp).1 hx) f hf).lo;simp only at h0;omega
theorem ziS (s:List UInt8):∀ (fs:List Fn) (k:Nat),atGo s fs k=-1∨∃ i,i<fs.length∧atGo s fs k=((k+i:Nat):Int)∧(fs.getD i fn0).1=s
 | [],k=>Or.inl rfl
 | p :: r,k=>by
  rw [atGo];by_cases h:p.1=s
  ·rw [if_pos h];exact Or.inr ⟨0,by simp,by simp,by simpa using h⟩
  ·
   rw [if_neg h];rcases ziS s r (k+1) with e | ⟨i,hi,e,hn⟩
   ·exact Or.inl e
   ·exact Or.inr ⟨i+1,by simpa using hi,by rw [e];congr 1;omega,by simpa using hn⟩
theorem zhY (fs:List Fn) (s:List UInt8):atV fs s=-1∨∃ i,i<fs.length∧atV fs s=(i:Int)∧(fs.getD i fn0).1=s:=by
 rcases ziS s fs 0 with e | ⟨i,hi,e,hn⟩
 ·exact Or.inl e
 ·exact Or.inr ⟨i,hi,by unfold atV;rw [e];congr 1;omega,hn⟩
theorem zmO {ps:List Pk} (h:zaK ps=true) {p:Pk} (hp:p∈ps):p.1∈zaz ps↔∀ m∈p.2.1,m∈za4 ps→m∈(zaz ps).takeWhile (fun x=>decide (x≠p.1)):=by
 obtain ⟨ho,hn⟩:=zbJ h;refine ⟨fun h1=>ho.need p hp h1,fun h1=>?_⟩;rcases Decidable.em (p.1∈zaz ps) with h2 | h2
 ·exact h2
 ·rw [zlA h2] at h1;exact absurd ⟨h2,h1⟩ (zmX hn p hp)
def zjo (ps:List Pk) (x:List UInt8):Nat:=(zaz ps).idxOf x
theorem znE {out:List (List UInt8)} {m x:List UInt8}:m∈out.takeWhile (fun y=>decide (y≠x))→out.idxOf m<out.idxOf x:=by
 induction out with
 | nil=>intro h;simp at h
 | cons a r ih =>
  intro h;rw [List.takeWhile_cons] at h;by_cases ha:a=x
  ·rw [if_neg (by simpa using ha)] at h;simp at h
  ·
   rw [if_pos (by simpa using ha)] at h;rw [List.idxOf_cons,List.idxOf_cons];have hax:(a==x)=false:=beq_eq_false_iff_ne.2 ha;rw [hax];rcases List.mem_cons.1 h with e | h
   ·subst e;simp
   ·
    by_cases hm:a=m
    ·subst hm;simp
    ·have hmm:(a==m)=false:=beq_eq_false_iff_ne.2 hm;rw [hmm];have:=ih h;simp only [cond_false];omega
theorem idx_pair {out:List (List UInt8)} (h:out.Nodup):out.Pairwise (fun a b=>out.idxOf a<out.idxOf b):=by
 rw [List.pairwise_iff_getElem];intro i j hi hj hij;rw [List.Nodup.idxOf_getElem h i hi,List.Nodup.idxOf_getElem h j hj];exact hij
structure zcu (ps:List Pk):Prop where
 p:zaK ps=true
 len:(zaz ps).length=ps.length
 here:∀ p∈ps,∀ m∈p.2.1,m∈za4 ps
 main:za6∈za4 ps
theorem zdl {ps:List Pk} (h0:(zaS ps).1=0):zcu ps:=by
 obtain ⟨_,hp,hl,hh,_,hm,_⟩:=zew h0;exact ⟨hp,hl,hh,(zdB ps za6).1 hm⟩
section
variable {ps:List Pk} (C:zcu ps)
include C
theorem zcu.all (x:List UInt8) (hx:x∈za4 ps):x∈zaz ps:=by
 have ho:=(zbJ C.p).1;have hn:=(zaf C.p).1.nodup;exact zlJ ho.nd (fun y hy=>ho.sub y hy) (by rw [C.len];simp [za4]) x hx
theorem zcu.ahead {p:Pk} (hp:p∈ps) {m:List UInt8} (hm:m∈p.2.1):zjo ps m<zjo ps p.1:=by
 have h1:=C.all p.1 (List.mem_map_of_mem hp);exact znE ((zmO C.p hp).1 h1 m hm (C.here p hp m hm))
theorem zcu.last:∀ (n:Nat) (x:List UInt8),x∈zcw ps za6→(zaz ps).length-zjo ps x<n→x=za6∨zjo ps x<zjo ps za6
 | 0,_,_,h=>absurd h (Nat.not_lt_zero _)
 | n+1,x,hx,h=>by
  have hr:=(ze0 C.main).1;rcases hr.why x hx with e | ⟨p,hp,hpo,hxp⟩
  ·exact Or.inl e
  ·
   have ha:=C.ahead hp hxp;have hb:zjo ps p.1<(zaz ps).length:=List.idxOf_lt_length_of_mem (C.all p.1 (List.mem_map_of_mem hp));rcases zcu.last n p.1 hpo (by omega) with e | e
   ·rw [e] at ha;exact Or.inr ha
   ·exact Or.inr (by omega)
end
def zaj (ps:List Pk):List (List UInt8):=zd4 ps za6++[za6]
theorem zdJ {ps:List Pk} (C:zcu ps):(zaj ps).Pairwise (fun a b=>zjo ps a<zjo ps b):=by
 have ho:=(zbJ C.p).1;unfold zaj;rw [List.pairwise_append];refine ⟨(idx_pair ho.nd).sublist List.filter_sublist,List.pairwise_singleton _ _,fun a ha b hb=>?_⟩;rw [List.mem_singleton] at hb;subst hb;unfold zd4 at ha;rw [List.mem_filter,decide_eq_true_eq] at ha;rcases C.last _ a ha.2.2 (Nat.lt_succ_self _) with e | e
 ·exact absurd e ha.2.1
 ·exact e
theorem zdr {ps:List Pk} (C:zcu ps):∀ x∈zaj ps,x∈za4 ps:=fun x hx=>by
 unfold zaj at hx;rcases List.mem_append.1 hx with h | h
 ·unfold zd4 at h;exact (zbJ C.p).1.sub x (List.mem_filter.1 h).1
 ·rw [List.mem_singleton] at h;rw [h];exact C.main
theorem zig {ps:List Pk} (C:zcu ps):(zaj ps).Nodup:=(zdJ C).imp (fun {a b} h e=>by subst e;omega)
theorem zds {ps:List Pk} (C:zcu ps):1≤(zaj ps).length∧(zaj ps).length≤8:=by
 have h1:=(zig C).length_le_of_subset (fun x hx=>zdr C x hx);have h2:=(zaf C.p).2.1;simp only [za4,List.length_map] at h1;refine ⟨by unfold zaj;simp,by omega⟩
theorem zjj {ps:List Pk} {s:List UInt8} (hs:s∈za4 ps):pkOf ps s∈ps∧(pkOf ps s).1=s:=by
 have h:=(zdB ps s).2 hs;unfold pkOf at8 at *
 have key:∀ (l:List Pk) (k:Nat),0≤zc8 s l k→(k:Int)≤zc8 s l k∧zc8 s l k<k+l.length∧(l.getD ((zc8 s l k).toNat-k) pk0).1=s:=by
  intro l
  induction l with
  | nil=>intro k h;simp [zc8] at h
  | cons a r ih =>
   intro k h;unfold zc8 at h ⊢
   split
   ·rename_i e;exact ⟨by omega,by simp;omega,by simp [e]⟩
   ·
    rename_i e;rw [if_neg e] at h;obtain ⟨h1,h2,h3⟩:=ih (k+1) h;refine ⟨by omega,by simp;omega,?_⟩;have e2:(zc8 s r (k+1)).toNat-k=((zc8 s r (k+1)).toNat-(k+1))+1:=by omega
    rw [e2,List.getD_cons_succ];exact h3
 obtain ⟨h1,h2,h3⟩:=key ps 0 h;rw [Nat.sub_zero] at h3;refine ⟨?_,h3⟩;rw [List.getD_eq_getElem?_getD,List.getElem?_eq_getElem (by omega)];exact List.getElem_mem (by omega)
def zaQ (os ims:List (List UInt8)) (n:Nat):List Int:=((List.range n).filter (fun k:Nat=>decide (os.getD k []∈ims))).map (fun k:Nat=>((k:Nat):Int))
theorem zmS {ps:List Pk} (C:zcu ps) {i:Nat} (hi:i<(zaj ps).length):zaQ (zaj ps) (pkOf ps ((zaj ps).getD i [])).2.1 (zaj ps).length=zaQ (zaj ps) (pkOf ps ((zaj ps).getD i [])).2.1 i:=by
 obtain ⟨d,hd⟩:∃ d,(zaj ps).length=i+d:=⟨_,(Nat.add_sub_cancel' (Nat.le_of_lt hi)).symm⟩
 unfold zaQ;rw [hd,List.range_add,List.filter_append,List.map_append]
 have hn:((List.range d).map (fun x=>i+x)).filter (fun k=>decide ((zaj ps).getD k []∈(pkOf ps ((zaj ps).getD i [])).2.1))=[]:=by
  rw [List.filter_eq_nil_iff];intro k hk;obtain ⟨j,hj,rfl⟩:=List.mem_map.1 hk;rw [List.mem_range] at hj;rw [decide_eq_true_eq];intro hm;have hgi:(zaj ps).getD i []=(zaj ps)[i]:=by simp [List.getD,hi]
  have hgk:(zaj ps).getD (i+j) []=(zaj ps)[i+j]'(by omega):=by simp [List.getD,show i+j<(zaj ps).length by omega]
  obtain ⟨hp,hpn⟩:=zjj (zdr C _ (List.getElem_mem hi));rw [hgi] at hm;have ha:=C.ahead hp hm;rw [hpn,hgk] at ha;rcases Nat.eq_zero_or_pos j with e | e
  ·subst e;simp at ha
  ·have:=List.pairwise_iff_getElem.1 (zdJ C) i (i+j) hi (by omega) (by omega);omega
 rw [hn];simp
theorem zoh (os ims:List (List UInt8)) (i:Nat):zcL (i:Int) (zaQ os ims i)=true:=by
 refine zfr (fun j hj=>?_)
 have hp:(zaQ os ims i).Pairwise (fun a b=>a<b):=by unfold zaQ;rw [List.pairwise_map];exact (List.pairwise_lt_range.sublist List.filter_sublist).imp (fun h=>by omega)
 have hm:∀ x∈zaQ os ims i,0≤x∧x<(i:Int):=fun x hx=>by
  obtain ⟨k,hk,rfl⟩:=List.mem_map.1 hx;have:=List.mem_range.1 (List.mem_filter.1 hk).1;omega
 have hg:∀ k (hk:k<(zaQ os ims i).length),(zaQ os ims i).getD k 0=(zaQ os ims i)[k]:=fun k hk=>by simp [List.getD,hk]
 unfold zbl;rw [hg j hj];obtain ⟨h0,h1⟩:=hm _ (List.getElem_mem hj);refine ⟨h0,h1,fun h=>?_⟩;rw [hg (j-1) (by omega)];exact List.pairwise_iff_getElem.1 hp (j-1) j (by omega) hj (by omega)
def zaV (n:Int):List UInt8:=zd7 ([115,116,97,114,116,32]++intL n)
def zcH (ps:List Pk) (i:Nat):Ta:=((zaj ps).getD i [],zaQ (zaj ps) (pkOf ps ((zaj ps).getD i [])).2.1 i,0,0,0,0)
def zaL (ps:List Pk):List Ta:=(List.range (zaj ps).length).map (zcH ps)
def newV (ps:List Pk):Dk × Bool:=if (zaS ps).1=0 then ((zaL ps,1,0,zaV 1),true) else (dk0,false)
theorem zfg {ps:List Pk} {i:Nat} (hi:i<(zaj ps).length):(zaL ps).getD i ta0=zcH ps i:=by
 unfold zaL;simp [List.getD,hi]
theorem zdW {n:Int} (h0:-9223372036854775808≤n) (h1:n≤9223372036854775807):(zaV n).length≤1000:=by
 have h:=zeb 19 n.natAbs (by omega)
 have hi:(intL n).length≤21:=by
  unfold intL
  split
  ·simp only [List.length_cons];omega
  ·omega
 unfold zaV;rw [zcd _ (by simp only [List.length_append,List.length_cons,List.length_nil];omega)];have h8:∀ n,(hexL n).length=8:=fun _=>rfl
 unfold zbH;simp only [List.length_append,List.length_cons,List.length_nil,h8];omega
theorem zlV {ps:List Pk} (h0:(zaS ps).1=0):zac (zaL ps,1,0,zaV 1)=true:=by
 have C:=zdl h0;have hl:(zaL ps).length=(zaj ps).length:=by unfold zaL;simp
 have h8:=zds C;have hj:=zdW (n:=1) (by omega) (by omega);refine zao.2 ⟨by show 1≤(zaL ps).length∧(zaL ps).length≤8;omega,by show (1:Int)≤1∧(1:Int)≤1000;omega,by show (0:Int)≤0∧(0:Int)≤1000000;omega,by show (zaV 1).length≤60000;omega,fun i hi=>?_⟩;have hi:i<(zaj ps).length:=by rw [←hl];exact hi
 have hgi:∀ k (hk:k<(zaj ps).length),(zaj ps).getD k []=(zaj ps)[k]:=fun k hk=>by simp [List.getD,hk]
 unfold zcA
 show zaE ((zaL ps).getD i ta0).1=true∧zc1 (i:Int) ((zaL ps).getD i ta0)=true∧∀ k,k<i→((zaL ps).getD k ta0).1≠((zaL ps).getD i ta0).1
 rw [zfg hi];refine ⟨?_,?_,fun k hk=>?_⟩
 ·
  show zaE ((zaj ps).getD i [])=true
  rw [hgi i hi];obtain ⟨hp,hn⟩:=zjj (zdr C _ (List.getElem_mem hi));have:=(zaf C.p).2.2 _ hp;rw [←hn];exact (zdc this).1
 ·unfold zc1;rw [Bool.and_eq_true];exact ⟨zoh _ _ i,rfl⟩
 ·
  rw [zfg (by omega)]
  show (zaj ps).getD k []≠(zaj ps).getD i []
  rw [hgi k (by omega),hgi i hi];intro e;have:=List.pairwise_iff_getElem.1 (zdJ C) k i (by omega) hi hk;rw [e] at this;omega
section
def zal:Nat→List UInt8→List (List UInt8)
 | 0,_=>[]
 | k+1,l=>if zb1 l=true then zax l :: zal k (l.drop (16+(zax l).length)) else []
def za3:List (List UInt8)→Nat
 | []=>0
 | t :: r=>16+t.length+za3 r
def zaa (l:List UInt8):List (List UInt8):=zal 400 l
theorem zdz (k:Nat) (l:List UInt8) (h:zb1 l=false):zal k l=[]:=by
 cases k with
 | zero=>rfl
 | succ k=>unfold zal;rw [h];rfl
theorem zd0 (k:Nat) (l:List UInt8) (h:zb1 l=true):zal (k+1) l=zax l :: zal k (l.drop (16+(zax l).length)):=by
 conv=>lhs;unfold zal
 rw [if_pos h]
theorem zbY (o:List (List UInt8)) (t:List UInt8):za3 (o++[t])=za3 o+(16+t.length):=by
 induction o with
 | nil=>simp [za3]
 | cons a r ih=>simp only [List.cons_append,za3,ih];omega
theorem zhS (t:List UInt8) (h:zb1 t=true):16+(zax t).length≤t.length:=by
 have hf:=zf9 t h;have e:=congrArg List.length hf.2.2;rw [List.length_append,zcQ] at e;omega
theorem zlk (l:List UInt8) (o:List (List UInt8)) (u:Nat) (ho:o.length<400) (hu:u=za3 o) (hle:u≤l.length) (h:o++zal (400-o.length) (l.drop u)=zaa l) (hb:zb1 (l.drop u)=true) :
 (o++[zax (l.drop u)])++zal (400-(o++[zax (l.drop u)]).length) (l.drop (u+(16+(zax (l.drop u)).length)))=zaa l∧u+(16+(zax (l.drop u)).length)=za3 (o++[zax (l.drop u)])∧u+(16+(zax (l.drop u)).length)≤l.length:=by
 have hfit:=zhS _ hb;rw [List.length_drop] at hfit;refine ⟨?_,by rw [zbY,←hu],by omega⟩;rw [←h,List.append_assoc,List.length_append,List.length_singleton];obtain ⟨k,hk⟩:∃ k,400-o.length=k+1:=⟨400-o.length-1,by omega⟩
 rw [hk,zd0 k _ hb,List.drop_drop,show 400-(o.length+1)=k by omega]
 rfl
theorem zjR (k:Nat) (l:List UInt8):(zal k l).length≤k:=by
 induction k generalizing l with
 | zero=>exact Nat.le_refl _
 | succ k ih =>
  unfold zal
  split
  ·rw [List.length_cons];have:=ih (l.drop (16+(zax l).length));omega
  ·exact Nat.zero_le _
theorem zgN (l:List UInt8):(zaa l).length≤400:=zjR 400 l
end
section
theorem zfS:∀ (n:Nat) (l:List UInt8) (j:Nat),l.take (za3 ((zal n l).take j))=(((zal n l).take j).map zbH).flatten
 | 0,l,j=>by simp [zal,za3]
 | n+1,l,0=>by simp [za3]
 | n+1,l,j+1=>by
  rcases hb:zb1 l with _ | _
  ·rw [zdz _ _ hb];simp [za3]
  ·rw [zd0 _ _ hb,List.take_succ_cons,List.map_cons,List.flatten_cons,za3];have hf:=zf9 l hb;have ih:=zfS n (l.drop (16+(zax l).length)) j;have hl:=zcQ (zax l);rw [←ih];generalize za3 ((zal n (l.drop (16+(zax l).length))).take j)=u;have he:=hf.2.2;clear hf ih hb;generalize zax l=t at he hl ⊢;generalize hr:l.drop (16+t.length)=r at he ⊢;rw [he,List.take_append,hl,List.take_of_length_le (by rw [hl];omega),show 16+t.length+u-(16+t.length)=u by omega]
theorem zng (l:List UInt8) (j:Nat):l.take (za3 ((zaa l).take j))=(((zaa l).take j).map zbH).flatten:=zfS 400 l j
theorem zdN {a:Int} (h0:-2147483648≤a) (h1:a≤2147483647):∀ c∈intL a,c≠32:=by
 have h:=(zgu.1 (zdq a h0 h1).1).2.1;intro c hc e;subst e;unfold zbv at h
 split at h
 ·
  rename_i hn;unfold negB at hn;rcases hi:intL a with _ | ⟨d,r⟩
  ·rw [hi] at hc;cases hc
  ·
   rw [hi] at hc hn h;rcases List.mem_cons.1 hc with e | e
   ·subst e;simp at hn
   ·
    have:=h 32 e;unfold zbK at this
    revert this;decide
 ·
  have:=h 32 hc;unfold zbK at this
  revert this;decide
def zcJ:List UInt8:=[115,116,97,114,116]
def zeh:List UInt8:=[100,111,110,101]
def isStart (f:List UInt8) (n:Int):Prop:=∃ w,zaq 32 f=[zcJ,w]∧zaX w=true∧zaC w=n
theorem zgH {f:List UInt8} {n:Int} (h0:-2147483648≤n) (h1:n≤2147483647):isStart f n↔f=zcJ++32 :: intL n:=by
 constructor
 ·
  rintro ⟨w,hs,hb,hv⟩;have hj:=zfM 32 f [];rw [show zas 32 [] f=[zcJ,w] from hs] at hj
  have hi:intL n=w:=by
   rw [←hv];have hr:=zlO w hb;unfold intL
   split
   ·rename_i h;exact hr.2 h
   ·rename_i h;exact hr.1 (by omega)
  rw [zbE _ _ _ (by simp)] at hj;rw [hi]
  simpa [zdf] using hj.symm
 ·
  intro e;obtain ⟨hb,hv⟩:=zdq n h0 h1;refine ⟨intL n,?_,hb,hv⟩;rw [e,show zcJ++32 :: intL n=zdf 32 [zcJ,intL n] by rw [zbE _ _ _ (by simp)];simp [zdf]];refine zht 32 _ (by simp) (fun x hx=>?_);simp only [List.mem_cons,List.not_mem_nil,or_false] at hx;rcases hx with rfl | rfl
  ·decide
  ·exact zdN h0 h1
def isDone (f:List UInt8) (k key:Int):Prop:=∃ w u,zaq 32 f=[zeh,w,u]∧(zaX w=true∧zaC w=k)∧(zaX u=true∧zaC u=key)
theorem zft {f:List UInt8} {k key:Int} (h0:-2147483648≤k) (h1:k≤2147483647) (h2:-2147483648≤key) (h3:key≤2147483647):isDone f k key↔f=zeh++32 :: (intL k++32 :: intL key):=by
 have hread:∀ (w:List UInt8) (n:Int),zaX w=true→zaC w=n→intL n=w:=by
  intro w n hb hv;rw [←hv];have hr:=zlO w hb;unfold intL
  split
  ·rename_i h;exact hr.2 h
  ·rename_i h;exact hr.1 (by omega)
 constructor
 ·
  rintro ⟨w,u,hs,⟨hb,hv⟩,⟨hc,hu⟩⟩;have hj:=zfM 32 f [];rw [show zas 32 [] f=[zeh,w,u] from hs] at hj;rw [zbE _ _ _ (by simp),zbE _ _ _ (by simp)] at hj;rw [hread w k hb hv,hread u key hc hu]
  simpa [zdf] using hj.symm
 ·
  intro e;obtain ⟨hb,hv⟩:=zdq k h0 h1;obtain ⟨hc,hu⟩:=zdq key h2 h3;refine ⟨intL k,intL key,?_,⟨hb,hv⟩,⟨hc,hu⟩⟩;rw [e,show zeh++32 :: (intL k++32 :: intL key)=zdf 32 [zeh,intL k,intL key] by rw [zbE _ _ _ (by simp),zbE _ _ _ (by simp)];simp [zdf]];refine zht 32 _ (by simp) (fun x hx=>?_);simp only [List.mem_cons,List.not_mem_nil,or_false] at hx;rcases hx with rfl | rfl | rfl
  ·decide
  ·exact zdN h0 h1
  ·exact zdN h2 h3
end
def zd8 (k key:Int):List UInt8:=(([100,111,110,101,32]++intL k)++[32])++intL key
def zbk (k key:Int):List UInt8:=zd7 (zd8 k key)
theorem zcF {n:Int} (h0:-9223372036854775808≤n) (h1:n≤9223372036854775807):(intL n).length≤21:=by
 have h:=zeb 19 n.natAbs (by omega);unfold intL
 split
 ·simp only [List.length_cons];omega
 ·omega
theorem zcR {k key:Int} (h0:-9223372036854775808≤k) (h1:k≤9223372036854775807) (h2:-9223372036854775808≤key) (h3:key≤9223372036854775807):(zd8 k key).length≤100:=by
 have a:=zcF h0 h1;have b:=zcF h2 h3;unfold zd8;simp only [List.length_append,List.length_cons,List.length_nil];omega
theorem zgE {k key:Int} (h0:-9223372036854775808≤k) (h1:k≤9223372036854775807) (h2:-9223372036854775808≤key) (h3:key≤9223372036854775807):(zbk k key).length≤1000:=by
 have a:=zcR h0 h1 h2 h3;unfold zbk;rw [zcd _ (by omega)];have h8:∀ n,(hexL n).length=8:=fun _=>rfl
 unfold zbH;simp only [List.length_append,h8];omega
def zaA (d:Dk) (k e key:Int):Int :=
 if (k<0∨(d.1.length:Int)≤k)∨zbi key=false then 3
 else if 60000<d.2.2.2.length+(zbk k key).length then 3
 else if e≠d.2.1 then 1
 else if (d.1.getD k.toNat ta0).2.2.1=2 then 2
 else if zbn d.1 (d.1.getD k.toNat ta0)=false then 4 else 0
def zbo (t:Ta) (key:Int):Ta:=(t.1,t.2.1,2,0,0,key)
def zbx (d:Dk) (k e key:Int):Dk × Int :=
 if zaA d k e key=0 then ((d.1.set k.toNat (zbo (d.1.getD k.toNat ta0) key),d.2.1,d.2.2.1,d.2.2.2++zbk k key),0) else (d,zaA d k e key)
def zag (d:Dk) (k e key:Int):Dk × Int:=if zac d=true then zbx d k e key else (dk0,3)
theorem zgs {d:Dk} {k e key:Int} (h:(k<0∨(d.1.length:Int)≤k)∨zbi key=false):zaA d k e key=3:=by unfold zaA;rw [if_pos h]
theorem zlN {d:Dk} {k e key:Int} (h:¬((k<0∨(d.1.length:Int)≤k)∨zbi key=false)) (h2:60000<d.2.2.2.length+(zbk k key).length):zaA d k e key=3:=by unfold zaA;rw [if_neg h,if_pos h2]
theorem zkv {d:Dk} {k e key:Int} (h:¬((k<0∨(d.1.length:Int)≤k)∨zbi key=false)) (h2:¬60000<d.2.2.2.length+(zbk k key).length) (h3:e≠d.2.1):zaA d k e key=1:=by unfold zaA;rw [if_neg h,if_neg h2,if_pos h3]
theorem zje {d:Dk} {k e key:Int} (h:¬((k<0∨(d.1.length:Int)≤k)∨zbi key=false)) (h2:¬60000<d.2.2.2.length+(zbk k key).length) (h3:e=d.2.1) (h4:(d.1.getD k.toNat ta0).2.2.1=2):zaA d k e key=2:=by unfold zaA;rw [if_neg h,if_neg h2,if_neg (fun x=>x h3),if_pos h4]
theorem ret_open {d:Dk} {k e key:Int} (h:¬((k<0∨(d.1.length:Int)≤k)∨zbi key=false)) (h2:¬60000<d.2.2.2.length+(zbk k key).length) (h3:e=d.2.1) (h4:(d.1.getD k.toNat ta0).2.2.1≠2) (h5:zbn d.1 (d.1.getD k.toNat ta0)=false):zaA d k e key=4:=by unfold zaA;rw [if_neg h,if_neg h2,if_neg (fun x=>x h3),if_neg h4,if_pos h5]
theorem ret_ok {d:Dk} {k e key:Int} (h:¬((k<0∨(d.1.length:Int)≤k)∨zbi key=false)) (h2:¬60000<d.2.2.2.length+(zbk k key).length) (h3:e=d.2.1) (h4:(d.1.getD k.toNat ta0).2.2.1≠2) (h5:zbn d.1 (d.1.getD k.toNat ta0)=true):zaA d k e key=0:=by unfold zaA;rw [if_neg h,if_neg h2,if_neg (fun x=>x h3),if_neg h4,if_neg (by rw [h5];simp)]
theorem zc2 {d:Dk} {k e key c:Int} (h:zaA d k e key=c) (hc:c≠0):zbx d k e key=(d,c):=by unfold zbx;rw [h,if_neg hc]
theorem zdZ {d:Dk} {k e key:Int} (h:zaA d k e key=0):zbx d k e key=((d.1.set k.toNat (zbo (d.1.getD k.toNat ta0) key),d.2.1,d.2.2.1,d.2.2.2++zbk k key),0):=by unfold zbx;rw [if_pos h]
theorem zfm {d:Dk} {k e key:Int}:(zbx d k e key).1.2.1=d.2.1∧(zbx d k e key).1.2.2.1=d.2.2.1∧(zbx d k e key).1.1.length=d.1.length:=by
 unfold zbx
 split
 ·exact ⟨rfl,rfl,by simp⟩
 ·exact ⟨rfl,rfl,rfl⟩
theorem zio {ts:List (List UInt8)} {s:List UInt8} {k:Nat} (h:∀ i,i<k→ts.getD i []≠s) (hk:ts.length≤k):¬s∈ts:=fun hm=>by
 obtain ⟨i,hi,rfl⟩:=List.mem_iff_getElem.1 hm;exact h i (by omega) (by simp [List.getD,hi])
theorem zjP {ts:List (List UInt8)} {k:Nat} (hk:k<ts.length):ts.getD k []∈ts:=by
 rw [List.getD_eq_getElem?_getD,List.getElem?_eq_getElem hk];exact List.getElem_mem hk
theorem zdH (a:Option Addr) (len cap:Nat) (ts:List (List UInt8)) (s:List UInt8) (w:World) (hin:za7 w a len ts) (hlen:len≤4194304) :
 Calls Tryz.prog 83 #[.slice a len cap,.string ⟨s.toArray⟩] w fun e w'=>e=.returned (.bool (decide (s∈ts)))∧w'=w:=by
 obtain rfl:ts.length=len:=hin.1;have HI:Hid (za7 w a ts.length ts):=hin;clear hin
 go_enter Tryz.func83,Tryz.ntmps83
 go_wp2
 go_loopw [5] (fun iv wr=>∃ k:Nat,iv=.int .i64 (k:Int)∧k≤ts.length∧Hid (∀ i,i<k→ts.getD i []≠s)∧wr=w) (fun iv _=>ts.length-(intOf iv).toNat)
 case atStart=>exact ⟨0,rfl,by omega,(fun i hi=>by omega),rfl⟩
 case round =>
  obtain ⟨k,rfl,hk,HA,rfl⟩:=hrel;by_cases hlt:(k:Int)<(ts.length:Int)
  ·
   have hk2:k<ts.length:=by omega
   obtain ⟨b,off,rfl,hbl,c0⟩:=HI.out.2 k hk2;have hmem:=zjP hk2;obtain ⟨x,hx⟩:∃ x,ts.getD k []=x:=⟨_,rfl⟩
   rw [hx] at c0 hmem;by_cases hxs:x=s
   ·
    subst hxs;have HR:Hid (decide (x∈ts)=true):=decide_eq_true hmem;have hself:(x==x)=true:=by simp
    clear HA hx hmem;go_wp2;go_ret;exact ⟨by rw [HR.out];rfl,rfl⟩
   ·
    have HA2:Hid (∀ i,i<k+1→ts.getD i []≠s):=fun i hi=>by
     rcases Nat.lt_or_ge i k with h | h
     ·exact HA.out i h
     ·
      obtain rfl:i=k:=by omega
      rw [hx];exact hxs
    have hne:(x==s)=false:=by rw [beq_eq_false_iff_ne];exact hxs
    clear HA hx hmem;go_wp2;go_roundw
    case rel=>exact ⟨k+1,by go_num,by omega,HA2,trivial⟩
    case measure=>simp [intOf];omega
  ·have HR:Hid (decide (s∈ts)=false):=decide_eq_false (zio HA.out (by omega));go_wp2;go_ret;exact ⟨by rw [HR.out];rfl,rfl⟩
theorem specRise (a:Option Addr) (len cap:Nat) (ts:List (List UInt8)) (w:World) (hin:za7 w a len ts) (hlen:len≤1048576) :
 Calls Tryz.prog 177 #[.slice a len cap] w fun e w'=>e=.returned (.bool (zfl ts))∧Below w.heap.size w w':=by
 obtain rfl:ts.length=len:=hin.1;have HI:Hid (za7 w a ts.length ts):=hin;clear hin
 go_enter Tryz.func177,Tryz.ntmps177
 go_wp2
 go_loopw [3] (fun iv wr=>∃ j:Nat,iv=.int .i64 ((j:Int)+1)∧j≤ts.length∧Hid (∀ i,i<j→leT (ts.getD (i+1) []) (ts.getD i [])=false)∧Hid (za7 wr a ts.length ts)∧Hid (Below w.heap.size w wr)) (fun iv _=>ts.length+1-(intOf iv).toNat)
 case atStart=>exact ⟨0,rfl,by omega,(fun i hi=>by omega),HI,Below.refl _ _⟩
 case round =>
  obtain ⟨j,rfl,hj,HA,HT,HB⟩:=hrel;clear HI;by_cases hlt:(j:Int)+1<(ts.length:Int)
  ·
   obtain ⟨b,off,rfl,hbl,c0⟩:=HT.out.2 j (by omega);obtain ⟨b',off',he,_,c1⟩:=HT.out.2 (j+1) (by omega);simp only [Option.some.injEq,Addr.mk.injEq,and_true] at he;obtain ⟨rfl,rfl⟩:=he;obtain ⟨x,hx⟩:∃ x,ts.getD j []=x:=⟨_,rfl⟩
   obtain ⟨y,hy⟩:∃ y,ts.getD (j+1) []=y:=⟨_,rfl⟩
   rw [hx] at c0;rw [hy] at c1;rcases hle:leT y x with _ | _
   ·
    have HA2:Hid (∀ i,i<j+1→leT (ts.getD (i+1) []) (ts.getD i [])=false):=fun i hi=>by
     rcases Nat.lt_or_ge i j with h | h
     ·exact HA.out i h
     ·
      obtain rfl:i=j:=by omega
      rw [hx,hy];exact hle
    have HT2:Hid (za7 wr (some ⟨b,off,none⟩) ts.length ts):=HT.out;unfold leT at hle;clear HA HT hx hy;go_wp2_with fail
    go_quiet (fail)
    go_wp2;go_roundw
    case rel=>exact ⟨j+1,by go_num,by omega,HA2,HT2,HB.out.trans ⟨rfl,rfl,rfl,Nat.le_refl _,fun _ _=>rfl⟩⟩
    case measure=>simp [intOf];omega
   ·
    have HR:Hid (zfl ts=false):=zlL (j:=j) (by omega) (by rw [hx,hy];exact hle);unfold leT at hle;clear HA HT hx hy;go_wp2_with fail
    go_quiet (fail)
    go_wp2;go_ret;exact ⟨by rw [HR.out];rfl,HB.out.trans ⟨rfl,rfl,rfl,Nat.le_refl _,fun _ _=>rfl⟩⟩
  ·have HR:Hid (zfl ts=true):=zjd (j:=j) (by omega) HA.out;go_wp2;go_ret;exact ⟨by rw [HR.out];rfl,HB.out⟩
theorem zkq (a:Option Addr) (len cap:Nat) (ts:List (List UInt8)) (w:World) (hin:za7 w a len ts) (hlen:len≤1048576) (hs:∀ i,(ts.getD i []).length≤1048576) :
 Calls Tryz.prog 148 #[.slice a len cap] w fun e w'=>e=.returned (.bool (zaG ts))∧Below w.heap.size w w':=by
 obtain rfl:ts.length=len:=hin.1;have HI:Hid (za7 w a ts.length ts):=hin;have HS:Hid (∀ i,(ts.getD i []).length≤1048576):=hs;clear hin hs
 go_enter Tryz.func148,Tryz.ntmps148
 go_wp2
 go_loopw [3] (fun iv wr=>∃ j:Nat,iv=.int .i64 (j:Int)∧j≤ts.length∧Hid (∀ i,i<j→zaE (ts.getD i [])=true)∧Hid (za7 wr a ts.length ts)∧Hid (Below w.heap.size w wr)) (fun iv _=>ts.length-(intOf iv).toNat)
 case atStart=>exact ⟨0,rfl,by omega,(fun i hi=>by omega),HI,Below.refl _ _⟩
 case round =>
  obtain ⟨j,rfl,hj,HA,HT,HB⟩:=hrel;clear HI;by_cases hlt:(j:Int)<(ts.length:Int)
  ·
   obtain ⟨b,off,rfl,hbl,c0⟩:=HT.out.2 j (by omega);have hxl:=HS.out j;obtain ⟨x,hx⟩:∃ x,ts.getD j []=x:=⟨_,rfl⟩
   rw [hx] at c0 hxl;have hC:Hid (_):=zcb x wr hxl;rcases hnb:zaE x with _ | _
   ·
    have HR:Hid (zaG ts=false):=zkP (j:=j) (by omega) (by rw [hx];exact hnb);rw [hnb] at hC;clear HA HT hx hnb
    go_wp2_with (go_at_call 44;refine Calls.mono hC.out ?_;rintro e w1 ⟨rfl,rfl⟩)
    go_ret;exact ⟨by rw [HR.out];rfl,HB.out⟩
   ·
    have HA2:Hid (∀ i,i<j+1→zaE (ts.getD i [])=true):=fun i hi=>by
     rcases Nat.lt_or_ge i j with h | h
     ·exact HA.out i h
     ·
      obtain rfl:i=j:=by omega
      rw [hx];exact hnb
    rw [hnb] at hC;clear HA hx hnb
    go_wp2_with (go_at_call 44;refine Calls.mono hC.out ?_;rintro e w1 ⟨rfl,rfl⟩)
    go_roundw
    case rel=>exact ⟨j+1,by go_num,by omega,HA2,HT,HB⟩
    case measure=>simp [intOf];omega
  ·
   have hall:=zjG (l:=ts) (fun i hi=>HA.out i (by omega));by_cases h6:(ts.length:Int)≤6
   ·
    have HR:Hid (zaG ts=zfl ts):=by exact (by rw [hall,decide_eq_true (show ts.length≤6 by omega)];rfl:zaG ts=zfl ts)
    have hC:Hid (_):=specRise a ts.length cap ts wr HT.out hlen;clear hall HA HT
    go_wp2_with (go_at_call 177;refine Calls.mono hC.out ?_;rintro e w1 ⟨rfl,hb1⟩)
    go_ret;exact ⟨by rw [HR.out];rfl,HB.out.trans (hb1.mono HB.out.size)⟩
   ·
    have HR:Hid (zaG ts=false):=by exact (by rw [hall,decide_eq_false (show ¬ts.length≤6 by omega)];rfl:zaG ts=false)
    clear hall HA HT;go_wp2;go_ret;exact ⟨by rw [HR.out];rfl,HB.out⟩
theorem zfj (f:Fn) (ta:Option Addr) (tl tc:Nat) (w:World) (hin:zay w ta tl f.2.2) (hsh:zdo f.2.2) (hlen:tl≤1048576) (hn:f.1.length≤1048576) :
 Calls Tryz.prog 149 #[.agg #[.string ⟨f.1.toArray⟩,.int .i64 f.2.1,.slice ta tl tc]] w fun e w'=>e=.returned (.bool (zev f))∧Below w.heap.size w w':=by
 obtain ⟨s,n,t⟩:=f;simp only at hin hsh hn ⊢;obtain ⟨W,hW⟩:∃ W,w.alloc (.cells #[.string ⟨s.toArray⟩,.int .i64 n,.slice ta tl tc] 107)=W:=⟨_,rfl⟩
 have hbW:Below w.heap.size w W:=by rw [←hW];exact (Below.refl _ _).alloc (Nat.le_refl _) _
 have hA:W.heap[w.heap.size]?=some (.cells #[.string ⟨s.toArray⟩,.int .i64 n,.slice ta tl tc] 107):=by rw [←hW];exact heap_alloc_new w _
 have c0:W.cell? ⟨w.heap.size,0,none⟩=some (.string ⟨s.toArray⟩):=by simp [World.cell?,hA]
 have c1:W.cell? ⟨w.heap.size,1,none⟩=some (.int .i64 n):=by simp [World.cell?,hA]
 have c2:W.cell? ⟨w.heap.size,2,none⟩=some (.slice ta tl tc):=by simp [World.cell?,hA]
 have hC1:Hid (_):=zcb s W hn;have hC2:Hid (_):=zca n 0 3 W;have hC3:Hid (_):=zhu ta tl tc t W (hin.below hbW) hsh hlen;have HF:Hid (zev (s,n,t)=(zaE s && (inB n 0 3 && zch t))):=rfl;generalize zaE s=nb at hC1 HF;generalize inB n 0 3=ib at hC2 HF;generalize zch t=tb at hC3 HF;clear hin hsh hA
 go_enter Tryz.func149,Tryz.ntmps149
 rcases nb with _ | _
 ·
  go_wp2_with (go_at_call 44;refine Calls.mono hC1.out ?_;rintro e w1 ⟨rfl,rfl⟩)
  go_ret;exact ⟨by rw [HF.out];rfl,hbW⟩
 ·
  rcases ib with _ | _
  ·
   go_wp2_with (first | (go_at_call 44;refine Calls.mono hC1.out ?_;rintro e w1 ⟨rfl,rfl⟩) | (go_at_call 42;refine Calls.mono hC2.out ?_;rintro e w1 ⟨rfl,rfl⟩))
   go_ret;exact ⟨by rw [HF.out];rfl,hbW⟩
  ·
   go_wp2_with (first | (go_at_call 44;refine Calls.mono hC1.out ?_;rintro e w1 ⟨rfl,rfl⟩) | (go_at_call 42;refine Calls.mono hC2.out ?_;rintro e w1 ⟨rfl,rfl⟩) | (go_at_call 128;refine Calls.mono hC3.out ?_;rintro e w2 ⟨rfl,hb2⟩))
   go_ret;exact ⟨by rw [HF.out];rfl,hbW.trans (hb2.mono hbW.size)⟩
def zaB (w:World) (a:Option Addr) (len:Nat) (fs:List Fn):Prop :=
 fs.length=len∧∀ j,j<len→∃ b off,a=some ⟨b,off,none⟩∧b<w.heap.size∧w.cell? ⟨b,off+j*3,none⟩=some (.string ⟨(fs.getD j fn0).1.toArray⟩)∧w.cell? ⟨b,off+j*3+1,none⟩=some (.int .i64 (fs.getD j fn0).2.1) ∧
  ∃ ta tl tc,w.cell? ⟨b,off+j*3+2,none⟩=some (.slice ta tl tc)∧(ta=none→tc=0)∧zay w ta tl (fs.getD j fn0).2.2
theorem zaB.below {w w':World} {a:Option Addr} {len:Nat} {fs:List Fn} (h:zaB w a len fs) (hb:Below w.heap.size w w'):zaB w' a len fs:=by
 refine ⟨h.1,fun j hj=>?_⟩;obtain ⟨b,off,e,hlt,c0,c1,ta,tl,tc,c2,hnc,hn⟩:=h.2 j hj;exact ⟨b,off,e,Nat.lt_of_lt_of_le hlt hb.size,(hb.cell (p:=⟨b,off+j*3,none⟩) hlt).trans c0,(hb.cell (p:=⟨b,off+j*3+1,none⟩) hlt).trans c1,ta,tl,tc,(hb.cell (p:=⟨b,off+j*3+2,none⟩) hlt).trans c2,hnc,hn.below hb⟩
def zg5 (fs:List Fn):Prop:=∀ j,(fs.getD j fn0).1.length≤1048576∧(fs.getD j fn0).2.2.length≤1048576∧zdo (fs.getD j fn0).2.2
theorem zja (nm s:List UInt8) (ia:Option Addr) (il ic:Nat) (fa:Option Addr) (fl fc:Nat) (fs:List Fn) (w:World) (hin:zaB w fa fl fs) (hlen:fl≤1048576) :
 Calls Tryz.prog 125 #[.agg #[.string ⟨nm.toArray⟩,.slice ia il ic,.slice fa fl fc],.string ⟨s.toArray⟩] w fun e w'=>e=.returned (.int .i64 (atV fs s))∧Below w.heap.size w w':=by
 obtain rfl:fs.length=fl:=hin.1;obtain ⟨W,hW⟩:∃ W,w.alloc (.cells #[.string ⟨nm.toArray⟩,.slice ia il ic,.slice fa fs.length fc] 99)=W:=⟨_,rfl⟩
 have hbW:Below w.heap.size w W:=by rw [←hW];exact (Below.refl _ _).alloc (Nat.le_refl _) _
 have hA:W.heap[w.heap.size]?=some (.cells #[.string ⟨nm.toArray⟩,.slice ia il ic,.slice fa fs.length fc] 99):=by rw [←hW];exact heap_alloc_new w _
 have k2:W.cell? ⟨w.heap.size,2,none⟩=some (.slice fa fs.length fc):=by simp [World.cell?,hA]
 have HI:Hid (zaB W fa fs.length fs):=hin.below hbW;clear hin hA
 go_enter Tryz.func125,Tryz.ntmps125
 go_wp2
 go_loopw [5] (fun iv wr=>∃ j:Nat,iv=.int .i64 (j:Int)∧j≤fs.length∧Hid (atV fs s=atGo s (fs.drop j) j)∧wr=W) (fun iv _=>fs.length-(intOf iv).toNat)
 case atStart=>exact ⟨0,rfl,by omega,(rfl:atV fs s=atGo s (fs.drop 0) 0),rfl⟩
 case round =>
  obtain ⟨j,rfl,hj,HA,rfl⟩:=hrel;by_cases hlt:(j:Int)<(fs.length:Int)
  ·
   obtain ⟨b,off,rfl,hbl,c0,_⟩:=HI.out.2 j (by omega);have hg:=zh0 (fs:=fs) (k:=j) (by omega) s;obtain ⟨x,hx⟩:∃ x,(fs.getD j fn0).1=x:=⟨_,rfl⟩
   rw [hx] at c0 hg;by_cases hxs:x=s
   ·
    subst hxs;have HR:Hid (atV fs x=(j:Int)):=by exact (by rw [HA.out,hg,if_pos rfl]:atV fs x=(j:Int))
    have hself:(x==x)=true:=by simp
    clear HA hg hx;go_wp2;go_ret;exact ⟨by rw [HR.out];rfl,hbW⟩
   ·
    have HR:Hid (atV fs s=atGo s (fs.drop (j+1)) (j+1)):=by exact (by rw [HA.out,hg,if_neg hxs]:atV fs s=atGo s (fs.drop (j+1)) (j+1))
    have hne:(x==s)=false:=by rw [beq_eq_false_iff_ne];exact hxs
    clear HA hg hx;go_wp2;go_roundw
    case rel=>exact ⟨j+1,by go_num,by omega,HR,trivial⟩
    case measure=>simp [intOf];omega
  ·
   have HR:Hid (atV fs s=-1):=by exact (by rw [HA.out,List.drop_of_length_le (by omega)];rfl:atV fs s=-1)
   go_wp2;go_ret;exact ⟨by rw [HR.out];rfl,hbW⟩
end Go.Proofs.YtponeoijfaepnaaGreatDoor
