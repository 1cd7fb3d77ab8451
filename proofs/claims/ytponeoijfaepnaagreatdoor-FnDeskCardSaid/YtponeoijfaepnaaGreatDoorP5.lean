/-
  Parts of one proof, one behind the other: Math8H, Math8P, Math9.
-/
import Derived.Test.YtponeoijfaepnaaGreatDoorP4
namespace Go.Proofs.YtponeoijfaepnaaGreatDoor
open Go.RowKit
def HpN (l:List Nat) (n:Nat):Prop:=∀ k,0<k→k<n→l.getD ((k-1) / 2) 0≤l.getD k 0
def sw (l:List Nat) (i j:Nat):List Nat:=(l.set i (l.getD j 0)).set j (l.getD i 0)
theorem zdD (l:List Nat) (i j:Nat):(sw l i j).length=l.length:=by unfold sw;simp
theorem zeF (l:List Nat) {i j:Nat} (hi:i<l.length) (hj:j<l.length) (k:Nat):(sw l i j).getD k 0=if k=j then l.getD i 0 else if k=i then l.getD j 0 else l.getD k 0:=by
 unfold sw;rw [List.getD_eq_getElem?_getD,List.getElem?_set];by_cases h1:j=k
 ·
  subst h1;rw [if_pos rfl,if_pos (by simpa using hj),if_pos rfl]
  rfl
 ·
  rw [if_neg h1,if_neg (fun e=>h1 e.symm),List.getElem?_set];by_cases h2:i=k
  ·
   subst h2;rw [if_pos rfl,if_pos hi,if_pos rfl]
   rfl
  ·rw [if_neg h2,if_neg (fun e=>h2 e.symm),List.getD_eq_getElem?_getD]
theorem zgk (l:List Nat) {i j:Nat} (hi:i<l.length) (hj:j<l.length):(sw l i j).Perm l:=by
 rw [List.perm_iff_count];intro a;have e1:l.getD j 0=l[j]:=by simp [List.getD,hj]
 have e2:l.getD i 0=l[i]:=by simp [List.getD,hi]
 unfold sw;rw [e1,e2];have hj2:j<(l.set i l[j]).length:=by simpa using hj
 rw [List.count_set hj2,List.count_set hi];have c1:l[i]=a→0<l.count a:=fun e=>List.count_pos_iff.2 (by rw [←e];exact List.getElem_mem hi)
 by_cases hij:i=j
 ·
  subst hij;simp only [List.getElem_set_self];by_cases h1:l[i]=a
  ·have:=c1 h1;simp only [h1,beq_self_eq_true,if_true];omega
  ·simp only [beq_eq_false_iff_ne.2 h1];simp
 ·
  rw [List.getElem_set_ne hij];by_cases h1:l[i]=a
  ·
   have:=c1 h1;by_cases h2:l[j]=a
   ·simp only [h1,h2,beq_self_eq_true,if_true];omega
   ·simp only [h1,beq_eq_false_iff_ne.2 h2,beq_self_eq_true,if_true];simp;omega
  ·
   by_cases h2:l[j]=a
   ·simp only [h2,beq_eq_false_iff_ne.2 h1,beq_self_eq_true,if_true];simp
   ·simp only [beq_eq_false_iff_ne.2 h1,beq_eq_false_iff_ne.2 h2];simp
def HpUp (l:List Nat) (j:Nat):Prop:=(∀ k,0<k→k<l.length→k≠j→l.getD ((k-1) / 2) 0≤l.getD k 0)∧(∀ k,0<k→k<l.length→(k-1) / 2=j→0<j→l.getD ((j-1) / 2) 0≤l.getD k 0)
theorem up_step {l:List Nat} {j:Nat} (h:HpUp l j) (hj:j<l.length) (h0:0<j) (hlt:l.getD j 0<l.getD ((j-1) / 2) 0):HpUp (sw l ((j-1) / 2) j) ((j-1) / 2):=by
 have hi:(j-1) / 2<l.length:=by omega
 refine ⟨fun k hk hkl hne=>?_,fun k hk hkl hp hi0=>?_⟩
 ·
  rw [zdD] at hkl;rw [zeF l hi hj,zeF l hi hj];by_cases e1:k=j
  ·subst e1;rw [if_neg (by omega),if_pos rfl,if_pos rfl];omega
  ·
   rw [if_neg e1 (c:=k=j),if_neg hne];by_cases e2:(k-1) / 2=j
   ·rw [if_pos e2];exact h.2 k hk hkl e2 h0
   ·
    rw [if_neg e2];have:=h.1 k hk hkl e1;by_cases e3:(k-1) / 2=(j-1) / 2
    ·rw [if_pos e3];rw [e3] at this;omega
    ·rw [if_neg e3];exact this
 ·
  rw [zdD] at hkl;rw [zeF l hi hj,zeF l hi hj];have hne:(j-1) / 2≠j:=by omega
  rw [if_neg (by omega),if_neg (by omega)];have h1:=h.1 ((j-1) / 2) hi0 hi hne;by_cases e1:k=j
  ·rw [if_pos e1];exact h1
  ·rw [if_neg e1,if_neg (by omega)];have h2:=h.1 k hk hkl e1;rw [hp] at h2;omega
theorem up_end {l:List Nat} {j:Nat} (h:HpUp l j) (he:j=0∨l.getD ((j-1) / 2) 0≤l.getD j 0):HpN l l.length:=fun k hk hkl=>by
 by_cases e:k=j
 ·
  subst e;rcases he with e | e
  ·omega
  ·exact e
 ·exact h.1 k hk hkl e
theorem up_start {l:List Nat} (h:HpN l l.length) (x:Nat):HpUp (l++[x]) l.length:=by
 have g:∀ k,k<l.length→(l++[x]).getD k 0=l.getD k 0:=fun k hk=>by simp [List.getD,List.getElem?_append_left hk]
 refine ⟨fun k hk hkl hne=>?_,fun k hk hkl hp h0=>?_⟩
 ·rw [List.length_append,List.length_singleton] at hkl;rw [g _ (by omega),g _ (by omega)];exact h k hk (by omega)
 ·rw [List.length_append,List.length_singleton] at hkl;omega
def HpDn (l:List Nat) (i n:Nat):Prop:=(∀ k,0<k→k<n→(k-1) / 2≠i→l.getD ((k-1) / 2) 0≤l.getD k 0)∧(∀ k,0<k→k<n→(k-1) / 2=i→0<i→l.getD ((i-1) / 2) 0≤l.getD k 0)
theorem zlq {l:List Nat} {i j n:Nat} (h:HpDn l i n) (hn:n≤l.length) (hj0:0<j) (hj:j<n) (hp:(j-1) / 2=i) (hmin:∀ k,0<k→k<n→(k-1) / 2=i→l.getD j 0≤l.getD k 0) (hlt:l.getD j 0<l.getD i 0):HpDn (sw l i j) j n:=by
 have hi:i<l.length:=by omega
 have hjl:j<l.length:=by omega
 refine ⟨fun k hk hkn hne=>?_,fun k hk hkn hpk _=>?_⟩
 ·
  rw [zeF l hi hjl,zeF l hi hjl,if_neg hne];by_cases e1:k=j
  ·subst e1;rw [if_pos hp,if_pos rfl];omega
  ·
   rw [if_neg e1];by_cases e2:k=i
   ·subst e2;rw [if_neg (by omega),if_pos rfl];exact h.2 j hj0 hj hp hk
   ·
    rw [if_neg e2];by_cases e3:(k-1) / 2=i
    ·rw [if_pos e3];exact hmin k hk hkn e3
    ·rw [if_neg e3];exact h.1 k hk hkn e3
 ·rw [zeF l hi hjl,zeF l hi hjl,if_neg (by omega),if_pos hp,if_neg (by omega),if_neg (by omega)];have:=h.1 k hk hkn (by omega);rw [hpk] at this;exact this
theorem zma {l:List Nat} {i n:Nat} (h:HpDn l i n) (he:∀ k,0<k→k<n→(k-1) / 2=i→l.getD i 0≤l.getD k 0):HpN l n:=fun k hk hkn=>by
 by_cases e:(k-1) / 2=i
 ·rw [e];exact he k hk hkn e
 ·exact h.1 k hk hkn e
theorem dn_start {l:List Nat} {n:Nat} (h:HpN l l.length) (hn:l.length=n+1):HpDn (sw l 0 n) 0 n:=by
 refine ⟨fun k hk hkn hne=>?_,fun k hk hkn hp h0=>by omega⟩;rw [zeF l (by omega) (by omega),zeF l (by omega) (by omega),if_neg (by omega),if_neg hne,if_neg (by omega),if_neg (by omega)];exact h k hk (by omega)
theorem hp_min {l:List Nat} {n:Nat} (h:HpN l n):∀ k,k<n→l.getD 0 0≤l.getD k 0:=by
 intro k
 induction k using Nat.strongRecOn with
 | ind k ih =>
  intro hk;rcases Nat.eq_zero_or_pos k with e | e
  ·subst e;exact Nat.le_refl _
  ·have h1:=h k e hk;have h2:=ih ((k-1) / 2) (by omega) (by omega);omega
theorem hp_take {l:List Nat} {n:Nat} (h:HpN l n) (hn:n≤l.length):HpN (l.take n) (l.take n).length:=fun k hk hkn=>by
 rw [List.length_take] at hkn;have g:∀ k,k<n→(l.take n).getD k 0=l.getD k 0:=fun k hk=>by simp [List.getD,hk]
 rw [g _ (by omega),g _ (by omega)];exact h k hk (by omega)
theorem hp_pop {l l2:List Nat} {n:Nat} (hn:l.length=n+1) (hh:HpN l l.length) (hp:l2.Perm l) (hlast:l2.getD n 0=l.getD 0 0):((l.getD 0 0) :: l2.take n).Perm l∧∀ x∈l,l.getD 0 0≤x:=by
 have hl2:l2.length=n+1:=by rw [hp.length_eq,hn]
 constructor
 ·
  have e:l2=l2.take n++[l.getD 0 0]:=by
   rw [←hlast];have:l2.getD n 0=l2[n]'(by omega):=by simp [List.getD,show n<l2.length by omega]
   rw [this,←List.take_succ_eq_append_getElem (by omega),List.take_of_length_le (by omega)]
  have h2:(l.getD 0 0 :: l2.take n).Perm (l2.take n++[l.getD 0 0]):=by
   have:=List.perm_append_comm (l₁:=[l.getD 0 0]) (l₂:=l2.take n)
   simpa using this
  exact h2.trans (by rw [←e];exact hp)
 ·
  intro x hx;obtain ⟨k,hk,rfl⟩:=List.mem_iff_getElem.1 hx;have:=hp_min hh k hk;have e:l.getD k 0=l[k]:=by simp [List.getD,hk]
  rw [e] at this;exact this
def nmAt (ps:List Pk) (i:Nat):List UInt8:=(ps.getD i pk0).1
def zbe (ps:List Pk) (i:Nat):List (List UInt8):=(ps.getD i pk0).2.1
def zaJ (ps:List Pk) (o:List Nat):List (List UInt8):=o.map (nmAt ps)
theorem zcP {ps:List Pk} {i:Nat} (hi:i<ps.length):ps.getD i pk0∈ps:=by simp [List.getD,hi]
theorem zcY {ps:List Pk} {i:Nat} (hi:i<ps.length):nmAt ps i∈za4 ps:=List.mem_map.2 ⟨_,zcP hi,rfl⟩
theorem zgC {ps:List Pk} {i:Nat} (hi:i<ps.length):(za4 ps)[i]'(by simpa [za4] using hi)=nmAt ps i:=by simp [za4,nmAt,List.getD,hi]
theorem zdv {ps:List Pk} (hn:(za4 ps).Nodup) {i j:Nat} (hi:i<ps.length) (hj:j<ps.length) (e:nmAt ps i=nmAt ps j):i=j:=by
 rw [←zgC hi,←zgC hj] at e;exact (List.getElem_inj hn).1 e
theorem zip {ps:List Pk} {o:List Nat} {x:List UInt8}:x∈zaJ ps o↔∃ i∈o,nmAt ps i=x:=List.mem_map
theorem nm_in {ps:List Pk} (hn:(za4 ps).Nodup) {o:List Nat} (ho:∀ x∈o,x<ps.length) {i:Nat} (hi:i<ps.length):nmAt ps i∈zaJ ps o↔i∈o:=by
 rw [zip];constructor
 ·rintro ⟨j,hj,e⟩;have:=zdv hn (ho j hj) hi e;subst this;exact hj
 ·exact fun h=>⟨i,h,rfl⟩
theorem zmi (s:List UInt8):∀ (ps:List Pk) (k:Nat),zc8 s ps k=-1∨∃ i,i<ps.length∧zc8 s ps k=((k+i:Nat):Int)∧nmAt ps i=s
 | [],k=>Or.inl rfl
 | p :: r,k=>by
  rw [zc8];by_cases h:p.1=s
  ·rw [if_pos h];exact Or.inr ⟨0,by simp,by simp,by simpa [nmAt] using h⟩
  ·
   rw [if_neg h];rcases zmi s r (k+1) with e | ⟨i,hi,e,hn⟩
   ·exact Or.inl e
   ·exact Or.inr ⟨i+1,by simpa using hi,by rw [e];congr 1;omega,by simpa [nmAt] using hn⟩
theorem zdm (ps:List Pk) (s:List UInt8):(at8 ps s=-1∧¬s∈za4 ps)∨∃ i,i<ps.length∧at8 ps s=(i:Int)∧nmAt ps i=s∧s∈za4 ps:=by
 rcases zmi s ps 0 with e | ⟨i,hi,e,hn⟩
 ·refine Or.inl ⟨e,fun h=>?_⟩;have:=(zdB ps s).2 h;unfold at8 at this;omega
 ·refine Or.inr ⟨i,hi,by unfold at8;rw [e];congr 1;omega,hn,?_⟩;rw [←hn];exact zcY hi
def plc (ps:List Pk) (ms:List (List UInt8)):List Nat:=ms.filterMap (fun m=>if 0≤at8 ps m then some (at8 ps m).toNat else none)
theorem plc_snoc (ps:List Pk) (ms:List (List UInt8)) (m:List UInt8):plc ps (ms++[m])=if 0≤at8 ps m then plc ps ms++[(at8 ps m).toNat] else plc ps ms:=by
 unfold plc;rw [List.filterMap_append];by_cases h:0≤at8 ps m
 ·rw [if_pos h];simp [h]
 ·rw [if_neg h];simp [h]
theorem plc_take (ps:List Pk) (ms:List (List UInt8)) {k:Nat} (hk:k<ms.length):plc ps (ms.take (k+1))=if 0≤at8 ps (ms.getD k []) then plc ps (ms.take k)++[(at8 ps (ms.getD k [])).toNat] else plc ps (ms.take k):=by
 have e:ms.getD k []=ms[k]:=by simp [List.getD,hk]
 rw [List.take_succ_eq_append_getElem hk,plc_snoc,e]
theorem zo4 (ps:List Pk) (ms:List (List UInt8)):(plc ps ms).length≤ms.length:=List.length_filterMap_le _ _
theorem zo3 (ps:List Pk):∀ ms:List (List UInt8),(plc ps ms).length=(ms.filter (fun m=>decide (m∈za4 ps))).length
 | []=>rfl
 | m :: r=>by
  have ih:=zo3 ps r;unfold plc at ih ⊢;rw [List.filterMap_cons,List.filter_cons];by_cases h:m∈za4 ps
  ·simp [(zdB ps m).2 h,h,ih]
  ·
   have:¬0≤at8 ps m:=fun e=>h ((zdB ps m).1 e)
   simp [this,h,ih]
theorem zo2 {ps:List Pk} (hn:(za4 ps).Nodup) {ms:List (List UInt8)} {x:Nat}:x∈plc ps ms↔x<ps.length∧nmAt ps x∈ms:=by
 unfold plc;rw [List.mem_filterMap];constructor
 ·
  rintro ⟨m,hm,he⟩;rcases zdm ps m with ⟨e,_⟩ | ⟨i,hi,e,hnm,_⟩
  ·rw [e] at he;simp at he
  ·rw [e] at he;simp at he;subst he;exact ⟨hi,by rw [hnm];exact hm⟩
 ·
  rintro ⟨hx,hm⟩;refine ⟨nmAt ps x,hm,?_⟩;rcases zdm ps (nmAt ps x) with ⟨_,e⟩ | ⟨i,hi,e,hnm,_⟩
  ·exact absurd (zcY hx) e
  ·rw [e];have:=zdv hn hi hx hnm;subst this;simp
def wt8 (ps:List Pk) (out:List (List UInt8)) (i:Nat):Nat:=((zbe ps i).filter (fun m=>decide (m∈za4 ps∧¬m∈out))).length
theorem wt8_zero {ps:List Pk} {out:List (List UInt8)} {i:Nat}:wt8 ps out i=0↔∀ m∈zbe ps i,m∈za4 ps→m∈out:=by
 unfold wt8;rw [List.length_eq_zero_iff,List.filter_eq_nil_iff];constructor
 ·intro h m hm hn;have:=h m hm;rw [decide_eq_true_eq] at this;exact Decidable.byContradiction fun e=>this ⟨hn,e⟩
 ·intro h m hm;rw [decide_eq_true_eq];rintro ⟨h1,h2⟩;exact h2 (h m hm h1)
theorem wt8_nil (ps:List Pk) (i:Nat):wt8 ps [] i=(plc ps (zbe ps i)).length:=by
 rw [zo3];unfold wt8;congr 2
 funext m
 simp
theorem wt8_le (ps:List Pk) (out:List (List UInt8)) (i:Nat):wt8 ps out i≤(zbe ps i).length:=List.length_filter_le _ _
theorem zcD {ps:List Pk} {out:List (List UInt8)} {i:Nat}:zd6 ps out (ps.getD i pk0)↔¬nmAt ps i∈out∧wt8 ps out i=0:=by
 unfold zd6;rw [wt8_zero]
 rfl
theorem zgR {N out:List (List UInt8)} {x:List UInt8} (hx:x∈N) (ho:¬x∈out):∀ L:List (List UInt8),L.Nodup →
 (L.filter (fun m=>decide (m∈N∧¬m∈out))).length=(L.filter (fun m=>decide (m∈N∧¬m∈out++[x]))).length+if x∈L then 1 else 0
 | [],_=>by simp
 | a :: r,h=>by
  have hr:=List.nodup_cons.1 h;have ih:=zgR hx ho r hr.2;rw [List.filter_cons,List.filter_cons];by_cases hax:a=x
  ·subst hax;rw [if_neg hr.1] at ih;rw [if_pos (by simp [hx,ho]),if_neg (by simp),if_pos (by simp)];simp only [List.length_cons];omega
  ·
   by_cases hc:a∈N∧¬a∈out
   ·
    rw [if_pos (by simpa using hc),if_pos (by simpa [hax] using hc)];simp only [List.length_cons,List.mem_cons];by_cases hxr:x∈r
    ·rw [if_pos hxr] at ih;rw [if_pos (Or.inr hxr)];omega
    ·rw [if_neg hxr] at ih;rw [if_neg (by rintro (e | e);exact hax e.symm;exact hxr e)];omega
   ·
    rw [if_neg (by simpa using hc),if_neg (by intro e;apply hc;simp only [decide_eq_true_eq,List.mem_append,List.mem_singleton,not_or] at e;exact ⟨e.1,e.2.1⟩)];simp only [List.mem_cons];by_cases hxr:x∈r
    ·rw [if_pos hxr] at ih;rw [if_pos (Or.inr hxr)];omega
    ·rw [if_neg hxr] at ih;rw [if_neg (by rintro (e | e);exact hax e.symm;exact hxr e)];omega
theorem zlv {ps:List Pk} {out:List (List UInt8)} {x:List UInt8} (hx:x∈za4 ps) (ho:¬x∈out) {i:Nat} (hnd:(zbe ps i).Nodup):wt8 ps out i=wt8 ps (out++[x]) i+if x∈zbe ps i then 1 else 0:=zgR hx ho _ hnd
theorem zeZ {ps:List Pk} (h:zaK ps=true) {i:Nat} (hi:i<ps.length):(zbe ps i).Nodup∧(zbe ps i).length≤6:=by
 have h1:=(zaf h).2.2 _ (zcP hi);unfold pkgB at h1;rw [Bool.and_eq_true,Bool.and_eq_true,Bool.and_eq_true] at h1;have h2:=h1.1.2.1;unfold zaG at h2;rw [Bool.and_eq_true,Bool.and_eq_true,decide_eq_true_eq] at h2;exact ⟨(rise_of h2.2.2).nodup,of_decide_eq_true h2.2.1⟩
structure Ka8 (ps:List Pk) (out ws hl:List Nat):Prop where
 lt:∀ x∈out,x<ps.length
 or:Or8 ps (zaJ ps out)
 more:∃ n,zaz ps=zbP ps n (zaJ ps out)∧ps.length<n+out.length
 wl:ws.length=ps.length
 w:∀ i,i<ps.length→ws.getD i 0=wt8 ps (zaJ ps out) i
 h:∀ x,x∈hl↔x<ps.length∧zd6 ps (zaJ ps out) (ps.getD x pk0)
 nd:hl.Nodup
theorem zcB {l:List Nat} (h:l.Nodup) {n:Nat} (hl:∀ x∈l,x<n):l.length≤n:=by
 have:=h.length_le_of_subset (l₂:=List.range n) (fun x hx=>List.mem_range.2 (hl x hx))
 simpa using this
theorem Ka8.hlen {ps:List Pk} {out ws hl:List Nat} (k:Ka8 ps out ws hl):hl.length≤ps.length:=zcB k.nd (fun x hx=>((k.h x).1 hx).1)
theorem Ka8.done {ps:List Pk} {out ws:List Nat} (k:Ka8 ps out ws []):zaJ ps out=zaz ps:=by
 obtain ⟨n,h1,_⟩:=k.more;rw [h1,zfK];unfold zd3;rw [List.find?_eq_none];intro p hp;rw [decide_eq_true_eq];intro hf;obtain ⟨i,hi,rfl⟩:=List.mem_iff_getElem.1 hp;have e:ps.getD i pk0=ps[i]:=by simp [List.getD,hi]
 have:=(k.h i).2 ⟨hi,by rw [e];exact hf⟩;simp at this
theorem Ka8.next {ps:List Pk} {out ws hl:List Nat} (k:Ka8 ps out ws hl) {f:Nat} (hf:f∈hl) (hmin:∀ x∈hl,f≤x):zd3 ps (zaJ ps out)=some (ps.getD f pk0):=by
 obtain ⟨hfl,hff⟩:=(k.h f).1 hf;unfold zd3;rw [List.find?_eq_some_iff_getElem];refine ⟨decide_eq_true hff,f,hfl,by simp [List.getD,hfl],fun j hj=>?_⟩;have hjl:j<ps.length:=by omega
 have e:ps.getD j pk0=ps[j]:=by simp [List.getD,hjl]
 rw [←e];simp only [Bool.not_eq_true',decide_eq_false_iff_not];intro h;have:=hmin j ((k.h j).2 ⟨hjl,h⟩);omega
structure Ks8 (ps:List Pk) (k:Nat) (ws hl:List Nat):Prop where
 wl:ws.length=ps.length
 w:∀ i,i<k→ws.getD i 0=wt8 ps [] i
 h:∀ x,x∈hl↔x<k∧zd6 ps [] (ps.getD x pk0)
 nd:hl.Nodup
theorem Ks8.zero (ps:List Pk) {ws:List Nat} (h:ws.length=ps.length):Ks8 ps 0 ws []:=⟨h,fun i hi=>by omega,fun x=>by simp,List.nodup_nil⟩
theorem zcC {l:List Nat} {i:Nat} (hi:i<l.length) (v k:Nat):(l.set i v).getD k 0=if k=i then v else l.getD k 0:=by
 rw [List.getD_eq_getElem?_getD,List.getElem?_set];by_cases h:i=k
 ·subst h;rw [if_pos rfl,if_pos hi,if_pos rfl];rfl
 ·rw [if_neg h,if_neg (fun e=>h e.symm),List.getD_eq_getElem?_getD]
theorem Ks8.push {ps:List Pk} {k:Nat} {ws hl hl2:List Nat} (s:Ks8 ps k ws hl) (hk:k<ps.length) (h0:wt8 ps [] k=0) (hp:hl2.Perm (k :: hl)):Ks8 ps (k+1) (ws.set k (wt8 ps [] k)) hl2:=by
 refine ⟨by rw [List.length_set];exact s.wl,fun i hi=>?_,fun x=>?_,?_⟩
 ·
  rw [zcC (by rw [s.wl];exact hk)];by_cases e:i=k
  ·subst e;rw [if_pos rfl]
  ·rw [if_neg e];exact s.w i (by omega)
 ·
  rw [hp.mem_iff,List.mem_cons,s.h];constructor
  ·
   rintro (e | ⟨e1,e2⟩)
   ·subst e;exact ⟨by omega,zcD.2 ⟨by simp,h0⟩⟩
   ·exact ⟨by omega,e2⟩
  ·
   rintro ⟨e1,e2⟩;by_cases e:x=k
   ·exact Or.inl e
   ·exact Or.inr ⟨by omega,e2⟩
 ·refine hp.symm.nodup (List.nodup_cons.2 ⟨fun e=>?_,s.nd⟩);have:=((s.h k).1 e).1;omega
theorem Ks8.pass {ps:List Pk} {k:Nat} {ws hl:List Nat} (s:Ks8 ps k ws hl) (hk:k<ps.length) (h0:wt8 ps [] k≠0):Ks8 ps (k+1) (ws.set k (wt8 ps [] k)) hl:=by
 refine ⟨by rw [List.length_set];exact s.wl,fun i hi=>?_,fun x=>?_,s.nd⟩
 ·
  rw [zcC (by rw [s.wl];exact hk)];by_cases e:i=k
  ·subst e;rw [if_pos rfl]
  ·rw [if_neg e];exact s.w i (by omega)
 ·
  rw [s.h];constructor
  ·rintro ⟨e1,e2⟩;exact ⟨by omega,e2⟩
  ·
   rintro ⟨e1,e2⟩;refine ⟨?_,e2⟩;by_cases e:x=k
   ·subst e;exact absurd (zcD.1 e2).2 h0
   ·omega
theorem Ks8.start {ps:List Pk} {ws hl:List Nat} (s:Ks8 ps ps.length ws hl):Ka8 ps [] ws hl :=
 ⟨by simp,zkC ps,⟨ps.length+1,rfl,by simp⟩,s.wl,s.w,s.h,s.nd⟩
structure Kb8 (ps:List Pk) (out:List Nat) (f k:Nat) (ws hl:List Nat):Prop where
 wl:ws.length=ps.length
 w1:∀ i,i<k→ws.getD i 0=wt8 ps (zaJ ps out++[nmAt ps f]) i
 w2:∀ i,k≤i→i<ps.length→ws.getD i 0=wt8 ps (zaJ ps out) i
 h:∀ x,x∈hl↔x<ps.length∧x≠f∧(zd6 ps (zaJ ps out) (ps.getD x pk0)∨(x<k∧zd6 ps (zaJ ps out++[nmAt ps f]) (ps.getD x pk0)))
 nd:hl.Nodup
structure Kf8 (ps:List Pk) (out:List Nat) (f:Nat):Prop where
 pj:zaK ps=true
 lt:∀ x∈out,x<ps.length
 or:Or8 ps (zaJ ps out)
 more:∃ n,zaz ps=zbP ps n (zaJ ps out)∧ps.length<n+out.length
 fl:f<ps.length
 nx:zd3 ps (zaJ ps out)=some (ps.getD f pk0)
theorem Ka8.take {ps:List Pk} {out ws hl hl2:List Nat} (hpj:zaK ps=true) (k:Ka8 ps out ws hl) {f:Nat} (hp:(f :: hl2).Perm hl) (hmin:∀ x∈hl,f≤x):Kf8 ps out f∧Kb8 ps out f 0 ws hl2:=by
 have hf:f∈hl:=hp.mem_iff.1 List.mem_cons_self;have hnd:(f :: hl2).Nodup:=hp.symm.nodup k.nd;refine ⟨⟨hpj,k.lt,k.or,k.more,((k.h f).1 hf).1,k.next hf hmin⟩,⟨k.wl,fun i hi=>by omega,fun i _ hi=>k.w i hi,fun x=>?_,(List.nodup_cons.1 hnd).2⟩⟩;constructor
 ·intro hx;obtain ⟨h1,h2⟩:=(k.h x).1 (hp.mem_iff.1 (List.mem_cons_of_mem _ hx));exact ⟨h1,fun e=>(List.nodup_cons.1 hnd).1 (by rw [←e];exact hx),Or.inl h2⟩
 ·
  rintro ⟨h1,h2,h3 | ⟨h3,_⟩⟩
  ·
   rcases List.mem_cons.1 (hp.mem_iff.2 ((k.h x).2 ⟨h1,h3⟩)) with e | e
   ·exact absurd e h2
   ·exact e
  ·omega
theorem Kf8.free {ps:List Pk} {out:List Nat} {f:Nat} (g:Kf8 ps out f):¬nmAt ps f∈zaJ ps out∧nmAt ps f∈za4 ps∧¬nmAt ps f∈zbe ps f:=by
 obtain ⟨_,h1,h2⟩:=zhD g.nx;exact ⟨h1,zcY g.fl,fun e=>h1 (h2 _ e (zcY g.fl))⟩
theorem Kf8.waits {ps:List Pk} {out:List Nat} {f i:Nat} (g:Kf8 ps out f) (hi:i<ps.length) (hm:nmAt ps f∈zbe ps i):¬nmAt ps i∈zaJ ps out∧i≠f∧0<wt8 ps (zaJ ps out) i∧wt8 ps (zaJ ps out) i=wt8 ps (zaJ ps out++[nmAt ps f]) i+1:=by
 obtain ⟨h1,h2,h3⟩:=g.free;have hs:=zlv (i:=i) h2 h1 (zeZ g.pj hi).1;rw [if_pos hm] at hs;refine ⟨fun e=>?_,fun e=>h3 (by rw [←e];rw [←e] at hm;exact hm),by omega,hs⟩;have:=g.or.need _ (zcP hi) e _ hm h2;exact h1 ((List.takeWhile_sublist _).subset this)
theorem Kf8.free_more {ps:List Pk} {out:List Nat} {f x:Nat} (g:Kf8 ps out f) (hx:x<ps.length) (hne:x≠f) (h:zd6 ps (zaJ ps out) (ps.getD x pk0)):zd6 ps (zaJ ps out++[nmAt ps f]) (ps.getD x pk0):=by
 refine ⟨fun e=>?_,fun m hm hn=>List.mem_append_left _ (h.2 m hm hn)⟩;rw [List.mem_append,List.mem_singleton] at e;rcases e with e | e
 ·exact h.1 e
 ·exact hne (zdv (zaf g.pj).1.nodup hx g.fl e)
theorem Kb8.skip {ps:List Pk} {out:List Nat} {f k:Nat} {ws hl:List Nat} (g:Kf8 ps out f) (s:Kb8 ps out f k ws hl) (hk:k<ps.length) (hm:¬nmAt ps f∈zbe ps k):Kb8 ps out f (k+1) ws hl:=by
 obtain ⟨h1,h2,h3⟩:=g.free;have hs:=zlv (i:=k) h2 h1 (zeZ g.pj hk).1;rw [if_neg hm] at hs;refine ⟨s.wl,fun i hi=>?_,fun i hi hil=>s.w2 i (by omega) hil,fun x=>?_,s.nd⟩
 ·
  by_cases e:i=k
  ·subst e;rw [s.w2 i (by omega) hk];omega
  ·exact s.w1 i (by omega)
 ·
  rw [s.h];constructor
  ·
   rintro ⟨e1,e2,e3 | ⟨e3,e4⟩⟩
   ·exact ⟨e1,e2,Or.inl e3⟩
   ·exact ⟨e1,e2,Or.inr ⟨by omega,e4⟩⟩
  ·
   rintro ⟨e1,e2,e3 | ⟨e3,e4⟩⟩
   ·exact ⟨e1,e2,Or.inl e3⟩
   ·
    refine ⟨e1,e2,?_⟩;by_cases e:x=k
    ·subst e;refine Or.inl (zcD.2 ⟨fun e=>(zcD.1 e4).1 (List.mem_append_left _ e),?_⟩);have:=(zcD.1 e4).2;omega
    ·exact Or.inr ⟨by omega,e4⟩
theorem Kb8.less {ps:List Pk} {out:List Nat} {f k:Nat} {ws hl:List Nat} (g:Kf8 ps out f) (s:Kb8 ps out f k ws hl) (hk:k<ps.length) (hm:nmAt ps f∈zbe ps k):0<ws.getD k 0∧ws.getD k 0≤6∧ws.getD k 0-1=wt8 ps (zaJ ps out++[nmAt ps f]) k:=by
 obtain ⟨_,_,h3,h4⟩:=g.waits hk hm;have:=wt8_le ps (zaJ ps out) k;have:=(zeZ g.pj hk).2;rw [s.w2 k (Nat.le_refl _) hk];omega
theorem Kb8.down {ps:List Pk} {out:List Nat} {f k:Nat} {ws hl:List Nat} (g:Kf8 ps out f) (s:Kb8 ps out f k ws hl) (hk:k<ps.length) (hm:nmAt ps f∈zbe ps k) (h0:ws.getD k 0-1≠0):Kb8 ps out f (k+1) (ws.set k (ws.getD k 0-1)) hl:=by
 obtain ⟨h1,h2,h3,h4⟩:=g.waits hk hm;have h5:=s.less g hk hm;refine ⟨by rw [List.length_set];exact s.wl,fun i hi=>?_,fun i hi hil=>?_,fun x=>?_,s.nd⟩
 ·
  rw [zcC (by rw [s.wl];exact hk)];by_cases e:i=k
  ·subst e;rw [if_pos rfl];exact h5.2.2
  ·rw [if_neg e];exact s.w1 i (by omega)
 ·rw [zcC (by rw [s.wl];exact hk),if_neg (by omega)];exact s.w2 i (by omega) hil
 ·
  rw [s.h];constructor
  ·
   rintro ⟨e1,e2,e3 | ⟨e3,e4⟩⟩
   ·exact ⟨e1,e2,Or.inl e3⟩
   ·exact ⟨e1,e2,Or.inr ⟨by omega,e4⟩⟩
  ·
   rintro ⟨e1,e2,e3 | ⟨e3,e4⟩⟩
   ·exact ⟨e1,e2,Or.inl e3⟩
   ·
    refine ⟨e1,e2,?_⟩;by_cases e:x=k
    ·subst e;have:=(zcD.1 e4).2;omega
    ·exact Or.inr ⟨by omega,e4⟩
theorem Kb8.push {ps:List Pk} {out:List Nat} {f k:Nat} {ws hl hl2:List Nat} (g:Kf8 ps out f) (s:Kb8 ps out f k ws hl) (hk:k<ps.length) (hm:nmAt ps f∈zbe ps k) (h0:ws.getD k 0-1=0) (hp:hl2.Perm (k :: hl)):Kb8 ps out f (k+1) (ws.set k (ws.getD k 0-1)) hl2:=by
 obtain ⟨h1,h2,h3,h4⟩:=g.waits hk hm;have h5:=s.less g hk hm;refine ⟨by rw [List.length_set];exact s.wl,fun i hi=>?_,fun i hi hil=>?_,fun x=>?_,?_⟩
 ·
  rw [zcC (by rw [s.wl];exact hk)];by_cases e:i=k
  ·subst e;rw [if_pos rfl];exact h5.2.2
  ·rw [if_neg e];exact s.w1 i (by omega)
 ·rw [zcC (by rw [s.wl];exact hk),if_neg (by omega)];exact s.w2 i (by omega) hil
 ·
  rw [hp.mem_iff,List.mem_cons,s.h];constructor
  ·
   rintro (e | ⟨e1,e2,e3 | ⟨e3,e4⟩⟩)
   ·
    subst e;refine ⟨hk,h2,Or.inr ⟨by omega,zcD.2 ⟨fun e=>?_,by omega⟩⟩⟩;rw [List.mem_append,List.mem_singleton] at e;rcases e with e | e
    ·exact h1 e
    ·exact h2 (zdv (zaf g.pj).1.nodup hk g.fl e)
   ·exact ⟨e1,e2,Or.inl e3⟩
   ·exact ⟨e1,e2,Or.inr ⟨by omega,e4⟩⟩
  ·
   rintro ⟨e1,e2,e3 | ⟨e3,e4⟩⟩
   ·exact Or.inr ⟨e1,e2,Or.inl e3⟩
   ·
    by_cases e:x=k
    ·exact Or.inl e
    ·exact Or.inr ⟨e1,e2,Or.inr ⟨by omega,e4⟩⟩
 ·
  refine hp.symm.nodup (List.nodup_cons.2 ⟨fun e=>?_,s.nd⟩);obtain ⟨_,_,e3 | ⟨e3,_⟩⟩:=(s.h k).1 e
  ·have:=(zcD.1 e3).2;omega
  ·omega
theorem Kb8.hlen {ps:List Pk} {out:List Nat} {f k:Nat} {ws hl:List Nat} (s:Kb8 ps out f k ws hl):hl.length≤ps.length:=zcB s.nd (fun x hx=>((s.h x).1 hx).1)
theorem Ks8.hlen {ps:List Pk} {k:Nat} {ws hl:List Nat} (s:Ks8 ps k ws hl) (hk:k≤ps.length):hl.length≤ps.length:=zcB s.nd (fun x hx=>by have:=((s.h x).1 hx).1;omega)
theorem zeU (ps:List Pk) (out:List Nat) (f:Nat):zaJ ps (out++[f])=zaJ ps out++[nmAt ps f]:=by simp [zaJ]
theorem Kb8.out {ps:List Pk} {out:List Nat} {f:Nat} {ws hl:List Nat} (g:Kf8 ps out f) (s:Kb8 ps out f ps.length ws hl):Ka8 ps (out++[f]) ws hl:=by
 obtain ⟨n,hn,hl2⟩:=g.more;have hor:=g.or.step (zaf g.pj).1.nodup g.nx;refine ⟨fun x hx=>?_,by rw [zeU];exact hor,?_,s.wl,fun i hi=>by rw [zeU];exact s.w1 i hi,fun x=>?_,s.nd⟩
 ·
  rw [List.mem_append,List.mem_singleton] at hx;rcases hx with hx | hx
  ·exact g.lt x hx
  ·subst hx;exact g.fl
 ·
  have hle:out.length≤ps.length:=by have:=g.or.len;simpa [zaJ] using this
  obtain ⟨m,rfl⟩:∃ m,n=m+1:=⟨n-1,by
   have:=hor.len;simp [zaJ] at this;omega⟩
  exact ⟨m,by rw [zeU,hn,zfJ m g.nx];rfl,by rw [List.length_append,List.length_singleton];omega⟩
 ·
  rw [zeU,s.h];constructor
  ·
   rintro ⟨e1,e2,e3 | ⟨_,e4⟩⟩
   ·exact ⟨e1,g.free_more e1 e2 e3⟩
   ·exact ⟨e1,e4⟩
  ·rintro ⟨e1,e2⟩;refine ⟨e1,fun e=>?_,Or.inr ⟨e1,e2⟩⟩;subst e;exact (zcD.1 e2).1 (by simp)
theorem zoE {C:List UInt8→Prop} {ps:List Pk} {o:List (List UInt8)} {m:List UInt8} (ho:∀ x∈o,C x) (hm:m∈za4 ps→C m):∀ x∈in8 ps o m,C x:=fun x hx=>by
 unfold in8 at hx
 split at hx
 ·
  rename_i h;rcases zcf.1 hx with rfl | hx
  ·exact hm h
  ·exact ho x hx
 ·exact ho x hx
theorem zfN {C:List UInt8→Prop} {ps:List Pk}:∀ (ms o:List (List UInt8)),(∀ x∈o,C x)→(∀ m∈ms,m∈za4 ps→C m)→∀ x∈zdg ps o ms,C x
 | [],_,ho,_=>ho
 | m :: r,o,ho,hm=>zfN r (in8 ps o m) (zoE ho (hm m List.mem_cons_self)) (fun y hy=>hm y (List.mem_cons_of_mem _ hy))
theorem zkA {C:List UInt8→Prop} {ps:List Pk} (hC:∀ p∈ps,C p.1→∀ m∈p.2.1,m∈za4 ps→C m) {o:List (List UInt8)} (ho:∀ x∈o,C x) {p:Pk} (hp:p∈ps):∀ x∈zdF ps o p,C x:=by
 unfold zdF
 split
 ·rename_i h;exact zfN _ _ ho (hC p hp (ho _ h))
 ·exact ho
theorem zgl {C:List UInt8→Prop} {ps:List Pk} (hC:∀ p∈ps,C p.1→∀ m∈p.2.1,m∈za4 ps→C m):∀ (qs:List Pk) (o:List (List UInt8)),(∀ q∈qs,q∈ps)→(∀ x∈o,C x)→∀ x∈zd9 ps qs o,C x
 | [],_,_,ho=>ho
 | q :: r,o,hq,ho=>zgl hC r (zdF ps o q) (fun y hy=>hq y (List.mem_cons_of_mem _ hy)) (zkA hC ho (hq q List.mem_cons_self))
theorem zeK {C:List UInt8→Prop} {ps:List Pk} (hC:∀ p∈ps,C p.1→∀ m∈p.2.1,m∈za4 ps→C m):∀ (n:Nat) (o:List (List UInt8)),(∀ x∈o,C x)→∀ x∈zcr ps n o,C x
 | 0,_,ho=>ho
 | n+1,o,ho=>by
  rw [zcr];have h:=zgl hC ps o (fun q hq=>hq) ho
  split
  ·exact h
  ·exact zeK hC n _ h
theorem zjf {C:List UInt8→Prop} {ps:List Pk} {s:List UInt8} (hC:∀ p∈ps,C p.1→∀ m∈p.2.1,m∈za4 ps→C m) (hs:C s):∀ x∈zcw ps s,C x:=zeK hC _ _ (fun x hx=>by rw [List.mem_singleton] at hx;rw [hx];exact hs)
structure Rp8 (ps:List Pk) (f:Nat) (re:List Nat):Prop where
 pj:zaK ps=true
 fl:f<ps.length
 nd:re.Nodup
 lt:∀ x∈re,x<ps.length
 self:f∈re
 sub:∀ x∈re,nmAt ps x∈zcw ps (nmAt ps f)
def RpTo (ps:List Pk) (re:List Nat) (i:Nat):Prop:=∀ j,j<i→∀ y∈plc ps (zbe ps (re.getD j 0)),y∈re
theorem Rp8.one {ps:List Pk} (h:zaK ps=true) {f:Nat} (hf:f<ps.length):Rp8 ps f [f] :=
 ⟨h,hf,by simp,fun x hx=>by rw [List.mem_singleton] at hx;rw [hx];exact hf,by simp,fun x hx=>by rw [List.mem_singleton] at hx;rw [hx];exact (ze0 (zcY hf)).1.self⟩
theorem Rp8.len {ps:List Pk} {f:Nat} {re:List Nat} (r:Rp8 ps f re):re.length≤ps.length:=zcB r.nd r.lt
theorem Rp8.add {ps:List Pk} {f:Nat} {re:List Nat} (r:Rp8 ps f re) {x y:Nat} (hx:x∈re) (hy:y∈plc ps (zbe ps x)) (hn:¬y∈re):Rp8 ps f (re++[y]):=by
 obtain ⟨hyl,hym⟩:=(zo2 (zaf r.pj).1.nodup).1 hy;refine ⟨r.pj,r.fl,List.nodup_append.2 ⟨r.nd,by simp,fun a ha b hb=>by rw [List.mem_singleton] at hb;subst hb;intro e;subst e;exact hn ha⟩,fun z hz=>?_,List.mem_append_left _ r.self,fun z hz=>?_⟩
 ·
  rw [List.mem_append,List.mem_singleton] at hz;rcases hz with hz | rfl
  ·exact r.lt z hz
  ·exact hyl
 ·
  rw [List.mem_append,List.mem_singleton] at hz;rcases hz with hz | rfl
  ·exact r.sub z hz
  ·exact (ze0 (zcY r.fl)).2 _ (zcP (r.lt x hx)) (r.sub x hx) _ hym (zcY hyl)
theorem RpTo.add {ps:List Pk} {re:List Nat} {i y:Nat} (h:RpTo ps re i) (hi:i≤re.length):RpTo ps (re++[y]) i:=fun j hj z hz=>by
 have e:(re++[y]).getD j 0=re.getD j 0:=by simp [List.getD,List.getElem?_append_left (show j<re.length by omega)]
 rw [e] at hz;exact List.mem_append_left _ (h j hj z hz)
theorem RpTo.next {ps:List Pk} {re:List Nat} {i:Nat} (h:RpTo ps re i) (hn:∀ y∈plc ps (zbe ps (re.getD i 0)),y∈re):RpTo ps re (i+1):=fun j hj=>by
 by_cases e:j=i
 ·subst e;exact hn
 ·exact h j (by omega)
theorem Rp8.all {ps:List Pk} {f:Nat} {re:List Nat} (r:Rp8 ps f re) (hc:RpTo ps re re.length) {x:List UInt8}:x∈zaJ ps re↔x∈zcw ps (nmAt ps f):=by
 have hn:=(zaf r.pj).1.nodup;constructor
 ·intro h;obtain ⟨i,hi,rfl⟩:=zip.1 h;exact r.sub i hi
 ·
  intro h;refine zjf (C:=fun x=>x∈zaJ ps re) (fun p hp hpo m hm hmn=>?_) (zip.2 ⟨f,r.self,rfl⟩) x h;obtain ⟨i,hi,rfl⟩:=List.mem_iff_getElem.1 hp;have ep:ps.getD i pk0=ps[i]:=by simp [List.getD,hi]
  have hpo2:nmAt ps i∈zaJ ps re:=by unfold nmAt;rw [ep];exact hpo
  have hir:=(nm_in hn r.lt hi).1 hpo2;obtain ⟨j,hj,he⟩:=List.mem_iff_getElem.1 hir;rcases zdm ps m with ⟨_,e⟩ | ⟨y,hy,e,hym,_⟩
  ·exact absurd hmn e
  ·
   have hyr:y∈re:=hc j hj y (by
    rw [show re.getD j 0=i by simp [List.getD,hj,he]];refine (zo2 hn).2 ⟨hy,?_⟩;rw [hym];unfold zbe;rw [ep];exact hm)
   exact zip.2 ⟨y,hyr,hym⟩
theorem Rp8.mem {ps:List Pk} {f:Nat} {re:List Nat} (r:Rp8 ps f re) (hc:RpTo ps re re.length) {i:Nat} (hi:i<ps.length):i∈re↔nmAt ps i∈zcw ps (nmAt ps f):=by
 rw [←r.all hc,nm_in (zaf r.pj).1.nodup r.lt hi]
theorem zkH {ps:List Pk} {f:Nat} {re out:List Nat} (r:Rp8 ps f re) (hc:RpTo ps re re.length) (ho:zaJ ps out=zaz ps) (hol:∀ x∈out,x<ps.length):zaJ ps (out.filter (fun i=>decide (i≠f∧i∈re)))=zd4 ps (nmAt ps f):=by
 unfold zd4;rw [←ho];unfold zaJ;rw [List.filter_map];congr 1
 refine List.filter_congr (fun i hi=>?_);have hn:=(zaf r.pj).1.nodup;simp only [Function.comp];have e1:(i≠f)↔(nmAt ps i≠nmAt ps f):=⟨fun h e=>h (zdv hn (hol i hi) r.fl e),fun h e=>h (by rw [e])⟩;have e2:=r.mem hc (hol i hi);simp only [e1,e2]
def farB (ps:List Pk) (p:Pk) (q:List UInt8):Bool:=decide (q≠p.1∧(¬q∈p.2.1∨at8 ps q<0))
def ofPk (ps:List Pk) (p:Pk) (q:List UInt8):Pk:=if q=p.1 then p else ps.getD (at8 ps q).toNat pk0
def zb7 (ps:List Pk) (p:Pk) (i:Int) (n:Nd):Int :=
 if farB ps p n.2.2.1=true then 1
 else if atV (ofPk ps p n.2.2.1).2.2 n.2.2.2<0∨(n.2.2.1=p.1∧i≤atV (ofPk ps p n.2.2.1).2.2 n.2.2.2) then 2
 else if ((ofPk ps p n.2.2.1).2.2.getD (atV (ofPk ps p n.2.2.1).2.2 n.2.2.2).toNat fn0).2.1≠n.2.1 then 3 else 0
theorem call9_bd (ps:List Pk) (p:Pk) (i:Int) (n:Nd):0≤zb7 ps p i n∧zb7 ps p i n≤3:=by
 unfold zb7
 split
 ·omega
 ·
  split
  ·omega
  ·split<;>omega
def pkOf (ps:List Pk) (s:List UInt8):Pk:=ps.getD (at8 ps s).toNat pk0
def callB (ps:List Pk) (s:List UInt8) (i:Int) (n:Nd):Prop:=zaK ps=true∧0≤at8 ps s∧zaM n=true∧n.1=8∧0≤i∧i<((pkOf ps s).2.2.length:Int)
instance (ps:List Pk) (s:List UInt8) (i:Int) (n:Nd):Decidable (callB ps s i n):=by unfold callB;infer_instance
def arg9 (f:Fn) (n:Nd):Prop:=n.1=2∧f.2.1≤n.2.1
instance (f:Fn) (n:Nd):Decidable (arg9 f n):=by unfold arg9;infer_instance
def bad9 (ps:List Pk) (p:Pk) (i:Nat) (n:Nd):Prop:=n.1=8∧zb7 ps p i n≠0
instance (ps:List Pk) (p:Pk) (i:Nat) (n:Nd):Decidable (bad9 ps p i n):=by unfold bad9;infer_instance
def fnGo (ps:List Pk) (p:Pk) (i:Nat) (f:Fn):List Nd→Int→Int
 | [],c=>c
 | n :: r,c=>if arg9 f n then 3 else fnGo ps p i f r (if bad9 ps p i n then 4 else c)
def func9 (ps:List Pk) (p:Pk) (i:Nat):Int:=fnGo ps p i (p.2.2.getD i fn0) (p.2.2.getD i fn0).2.2 0
theorem zoV {ps:List Pk} {p:Pk} {i:Nat} {f:Fn} {t:List Nd} {j:Nat} (hj:j<t.length) (c:Int):fnGo ps p i f (t.drop j) c=if arg9 f (t.getD j nd0) then 3 else fnGo ps p i f (t.drop (j+1)) (if bad9 ps p i (t.getD j nd0) then 4 else c):=by
 rw [List.drop_eq_getElem_cons hj,fnGo];have e:t.getD j nd0=t[j]:=by simp [List.getD,hj]
 rw [e]
theorem ziG (ps:List Pk) (p:Pk) (i:Nat) (f:Fn):∀ (t:List Nd) (c:Int),(c=0∨c=4) →
 (fnGo ps p i f t c=0∨fnGo ps p i f t c=3∨fnGo ps p i f t c=4)∧(fnGo ps p i f t c=0↔c=0∧∀ n∈t,¬arg9 f n∧¬bad9 ps p i n)
 | [],c,hc=>by
  refine ⟨by rcases hc with e | e<;>simp [fnGo,e],by simp [fnGo]⟩
 | n :: r,c,hc=>by
  rw [fnGo];by_cases ha:arg9 f n
  ·rw [if_pos ha];exact ⟨by omega,⟨fun h=>by omega,fun h=>absurd ha (h.2 n List.mem_cons_self).1⟩⟩
  ·
   rw [if_neg ha];by_cases hb:bad9 ps p i n
   ·rw [if_pos hb];obtain ⟨h1,h2⟩:=ziG ps p i f r 4 (Or.inr rfl);exact ⟨h1,⟨fun h=>by have:=(h2.1 h).1;omega,fun h=>absurd hb (h.2 n List.mem_cons_self).2⟩⟩
   ·
    rw [if_neg hb];obtain ⟨h1,h2⟩:=ziG ps p i f r c hc;refine ⟨h1,h2.trans ⟨fun h=>⟨h.1,fun m hm=>?_⟩,fun h=>⟨h.1,fun m hm=>h.2 m (List.mem_cons_of_mem _ hm)⟩⟩⟩;rcases List.mem_cons.1 hm with e | e
    ·rw [e];exact ⟨ha,hb⟩
    ·exact h.2 m e
theorem zoR (ps:List Pk) (p:Pk) (i:Nat):func9 ps p i=0∨func9 ps p i=3∨func9 ps p i=4:=(ziG ps p i _ _ 0 (Or.inl rfl)).1
abbrev Flt:=Int × List UInt8 × List UInt8
def zhi (ps:List Pk) (p:Pk):Prop:=∃ m∈p.2.1,at8 ps m<0
instance (ps:List Pk) (p:Pk):Decidable (zhi ps p):=by unfold zhi;infer_instance
def zcV (ps:List Pk) (p:Pk):List Fn→Nat→Option Flt
 | [],_=>none
 | f :: r,k=>if func9 ps p k≠0 then some (func9 ps p k,p.1,f.1) else zcV ps p r (k+1)
theorem zhP {ps:List Pk} {p:Pk} {k:Nat} (hk:k<p.2.2.length):zcV ps p (p.2.2.drop k) k=if func9 ps p k≠0 then some (func9 ps p k,p.1,(p.2.2.getD k fn0).1) else zcV ps p (p.2.2.drop (k+1)) (k+1):=by
 rw [List.drop_eq_getElem_cons hk,zcV];have e:p.2.2.getD k fn0=p.2.2[k]:=by simp [List.getD,hk]
 rw [e]
def pk9 (ps:List Pk) (done i:Nat) (p:Pk):Option Flt:=if zhi ps p then some (1,p.1,[]) else if done≤i then some (2,p.1,[]) else zcV ps p p.2.2 0
def zc5 (ps:List Pk) (done:Nat):List (List UInt8)→Nat→Option Flt
 | [],_=>none
 | x :: r,i=>match pk9 ps done i (pkOf ps x) with
  | some f=>some f
  | none=>zc5 ps done r (i+1)
theorem zhR {ps:List Pk} {done:Nat} {l:List (List UInt8)} {i:Nat} (hi:i<l.length):zc5 ps done (l.drop i) i=match pk9 ps done i (pkOf ps (l.getD i [])) with
 | some f=>some f
 | none=>zc5 ps done (l.drop (i+1)) (i+1):=by
 rw [List.drop_eq_getElem_cons hi,zc5];have e:l.getD i []=l[i]:=by simp [List.getD,hi]
 rw [e]
def ord9 (ps:List Pk):List (List UInt8):=zaz ps++(za4 ps).filter (fun x=>decide (¬x∈zaz ps))
def za6:List UInt8:=[109,97,105,110]
def zcm (ps:List Pk):Flt:=if 0≤at8 ps za6∧0≤atV (pkOf ps za6).2.2 za6∧((pkOf ps za6).2.2.getD (atV (pkOf ps za6).2.2 za6).toNat fn0).2.1=1 then (0,[],[]) else (5,za6,za6)
def zaT (ps:List Pk):Flt:=match zc5 ps (zaz ps).length (ord9 ps) 0 with
 | some f=>f
 | none=>zcm ps
def zaS (ps:List Pk):Flt:=if zaK ps=true then zaT ps else (6,[],[])
end Go.Proofs.YtponeoijfaepnaaGreatDoor
