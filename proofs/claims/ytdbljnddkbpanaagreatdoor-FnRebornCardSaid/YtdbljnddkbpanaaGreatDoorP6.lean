/-
  Parts of one proof, one behind the other: Math18, Math8H.
-/
import Derived.Test.YtdbljnddkbpanaaGreatDoorP5
import Derived.Test.YtdbljnddkbpanaaGreatDoorP1
namespace Go.Proofs.YtdbljnddkbpanaaGreatDoor
open Go.RowKit
abbrev Ta:=List UInt8 × List Int × Int × Int × Int × Int
abbrev Dk:=List Ta × Int × Int × List UInt8
def ta0:Ta:=([],[],0,0,0,0)
def dk0:Dk:=([],0,0,[])
def zbA (k:Int):Bool:=inB k 0 2147483646
def zbm (own:Int) (ns:List Int) (i:Nat):Prop:=0≤ns.getD i 0∧ns.getD i 0<own∧(0<i→ns.getD (i-1) 0<ns.getD i 0)
instance (own:Int) (ns:List Int) (i:Nat):Decidable (zbm own ns i):=by unfold zbm;infer_instance
def zcT (own:Int) (ns:List Int):Bool:=decide (∀ i,i<ns.length→zbm own ns i)
def zcn (t:Ta):Bool :=
 if t.2.2.1=0 then decide (t.2.2.2.1=0∧t.2.2.2.2.1=0∧t.2.2.2.2.2=0)
 else if t.2.2.1=1 then inB t.2.2.2.1 0 3 && inB t.2.2.2.2.1 0 1000000 && decide (t.2.2.2.2.2=0)
 else if t.2.2.1=2 then decide (t.2.2.2.1=0∧t.2.2.2.2.1=0) && zbA t.2.2.2.2.2
 else false
def zcd (own:Int) (t:Ta):Bool:=zcT own t.2.1 && zcn t
def zcG (ts:List Ta) (i:Nat):Prop:=zaF (ts.getD i ta0).1=true∧zcd (i:Int) (ts.getD i ta0)=true∧∀ k,k<i→(ts.getD k ta0).1≠(ts.getD i ta0).1
instance (ts:List Ta) (i:Nat):Decidable (zcG ts i):=by unfold zcG;infer_instance
def zay (d:Dk):Bool:=decide (1≤d.1.length∧d.1.length≤8) && inB d.2.1 1 1000 && inB d.2.2.1 0 1000000 && decide (d.2.2.2.length≤60000) && decide (∀ i,i<d.1.length→zcG d.1 i)
structure DeskP (d:Dk):Prop where
 n:1≤d.1.length∧d.1.length≤8
 e:1≤d.2.1∧d.2.1≤1000
 t:0≤d.2.2.1∧d.2.2.1≤1000000
 j:d.2.2.2.length≤60000
 one:∀ i,i<d.1.length→zcG d.1 i
theorem zau {d:Dk}:zay d=true↔DeskP d:=by
 unfold zay inB
 simp only [Bool.and_eq_true,decide_eq_true_eq]
 exact ⟨fun ⟨⟨⟨⟨h1,h2⟩,h3⟩,h4⟩,h5⟩=>⟨h1,h2,h3,h4,h5⟩,fun h=>⟨⟨⟨⟨h.n,h.e⟩,h.t⟩,h.j⟩,h.one⟩⟩
theorem zk2 {own:Int} {ns:List Int} {i:Nat} (hi:i<ns.length) (h:¬zbm own ns i):zcT own ns=false:=decide_eq_false (fun e=>h (e i hi))
theorem zfx {own:Int} {ns:List Int} (h:∀ i,i<ns.length→zbm own ns i):zcT own ns=true:=decide_eq_true h
def zbj (ts:List Ta) (t:Ta):Bool:=decide (∀ i,i<t.2.1.length→(ts.getD (t.2.1.getD i 0).toNat ta0).2.2.1=2)
theorem zpk {ts:List Ta} {t:Ta} {i:Nat} (hi:i<t.2.1.length) (h:(ts.getD (t.2.1.getD i 0).toNat ta0).2.2.1≠2):zbj ts t=false:=decide_eq_false (fun e=>h (e i hi))
theorem znJ {ts:List Ta} {t:Ta} (h:∀ i,i<t.2.1.length→(ts.getD (t.2.1.getD i 0).toNat ta0).2.2.1=2):zbj ts t=true:=decide_eq_true h
def zey (d:Dk) (i:Nat):Prop:=(d.1.getD i ta0).2.2.1≠2∧zbj d.1 (d.1.getD i ta0)=true∧¬((d.1.getD i ta0).2.2.1=1∧d.2.2.1<(d.1.getD i ta0).2.2.2.2.1)
instance (d:Dk) (i:Nat):Decidable (zey d i):=by unfold zey;infer_instance
def zfP (d:Dk):Nat→Nat→Option Nat
 | 0,_=>none
 | k+1,i=>if zey d i then some i else zfP d k (i+1)
def zoY (d:Dk):Option Nat:=zfP d d.1.length 0
def zdF (d:Dk) (worker:Int) (t:Ta):Ta:=(t.1,t.2.1,1,worker,(if d.2.2.1+10≤1000000 then d.2.2.1+10 else 1000000),t.2.2.2.2.2)
def zct (d:Dk) (worker:Int):Dk × Int :=
 if inB worker 0 3=true then
  match zoY d with
  | some i=>((d.1.set i (zdF d worker (d.1.getD i ta0)),d.2),(i:Int))
  | none=>(d,-1)
 else (d,-1)
def lentV (d:Dk) (worker:Int):Dk × Int:=if zay d=true then zct d worker else (dk0,-1)
theorem zgS {d:Dk}:∀ {k i j:Nat},zfP d k i=some j→i≤j∧j<i+k∧zey d j∧∀ q,i≤q→q<j→¬zey d q
 | 0,_,_,h=>by cases h
 | k+1,i,j,h=>by
  unfold zfP at h
  split at h
  ·
   rename_i hc
   injection h with h
   subst h
   exact ⟨Nat.le_refl _,by omega,hc,fun q h1 h2=>by omega⟩
  ·
   rename_i hc
   obtain ⟨h1,h2,h3,h4⟩:=zgS h
   refine ⟨by omega,by omega,h3,fun q hq hqj=>?_⟩
   rcases Nat.lt_or_ge i q with g | g
   ·
    exact h4 q (by omega) hqj
   ·
    obtain rfl:q=i:=by omega
    exact hc
theorem zk7 {d:Dk}:∀ {k i j:Nat},i≤j→j<i+k→zey d j→(∀ q,i≤q→q<j→¬zey d q)→zfP d k i=some j
 | 0,_,_,h1,h2,_,_=>by omega
 | k+1,i,j,h1,h2,h3,h4=>by
  unfold zfP
  rcases Nat.lt_or_ge i j with g | g
  ·
   rw [if_neg (h4 i (Nat.le_refl _) g)]
   exact zk7 (by omega) (by omega) h3 (fun q a b=>h4 q (by omega) b)
  ·
   obtain rfl:j=i:=by omega
   rw [if_pos h3]
theorem zeB {d:Dk}:∀ {k i:Nat},(∀ q,i≤q→q<i+k→¬zey d q)→zfP d k i=none
 | 0,_,_=>rfl
 | k+1,i,h=>by
  unfold zfP
  rw [if_neg (h i (Nat.le_refl _) (by omega))]
  exact zeB (fun q a b=>h q (by omega) (by omega))
def tickedV (d:Dk) (n:Int):Dk × Bool:=if zay d=true then (if inB n 0 (1000000-d.2.2.1)=true then ((d.1,d.2.1,d.2.2.1+n,d.2.2.2),true) else (d,false)) else (dk0,false)
def zkB (d:Dk):Bool:=decide (∀ i,i<d.1.length→(d.1.getD i ta0).2.2.1=2)
def zbO (d:Dk):Bool:=zay d && zkB d
theorem zci (ts:List Ta) (i k:Nat) (t:Ta) (hi:i<ts.length):(ts.set i t).getD k ta0=if k=i then t else ts.getD k ta0:=by
 simp only [List.getD_eq_getElem?_getD,List.getElem?_set]
 by_cases h:i=k
 ·
  subst h;simp [hi]
 ·
  rw [if_neg h,if_neg (fun e=>h e.symm)]
theorem zmJ {d:Dk} (h:DeskP d) {i:Nat} (hi:i<d.1.length) {t:Ta} (hn:t.1=(d.1.getD i ta0).1) (hne:t.2.1=(d.1.getD i ta0).2.1) (hs:zcn t=true) {e n:Int} {j:List UInt8} (he:1≤e∧e≤1000) (ht:0≤n∧n≤1000000) (hj:j.length≤60000):DeskP (d.1.set i t,e,n,j):=by
 refine ⟨by simp only [List.length_set];exact h.n,he,ht,hj,fun k hk=>?_⟩
 simp only [List.length_set] at hk
 obtain ⟨h1,h2,h3⟩:=h.one k hk
 have hnm:∀ q,((d.1.set i t).getD q ta0).1=(d.1.getD q ta0).1:=fun q=>by
  rw [zci _ _ _ _ hi]
  split
  ·
   rename_i e;rw [e];exact hn
  ·
   rfl
 refine ⟨by rw [hnm];exact h1,?_,fun q hq=>by rw [hnm,hnm];exact h3 q hq⟩
 rw [zci _ _ _ _ hi]
 split
 ·
  rename_i e
  subst e
  unfold zcd at h2 ⊢
  rw [Bool.and_eq_true] at h2 ⊢
  rw [hne]
  exact ⟨h2.1,hs⟩
 ·
  exact h2
theorem lent_ok {d:Dk} {worker:Int} (h:zay d=true):zay (lentV d worker).1=true:=by
 unfold lentV
 rw [if_pos h]
 unfold zct
 split
 ·
  rename_i hw
  have hp:=zau.1 h
  split
  ·
   rename_i i hi
   obtain ⟨_,h2,h3,_⟩:=zgS hi
   rw [Nat.zero_add] at h2
   obtain ⟨ho,hk,_⟩:=hp.one i h2
   unfold zcd at hk
   rw [Bool.and_eq_true] at hk
   have hst:=hk.2
   suffices hs:zcn (zdF d worker (d.1.getD i ta0))=true by
    exact zau.2 (zmJ (e:=d.2.1) (n:=d.2.2.1) (j:=d.2.2.2) hp h2 (t:=zdF d worker (d.1.getD i ta0)) rfl rfl hs hp.e hp.t hp.j)
   have hnow:=hp.t
   unfold zcn zdF at *
   simp only at hst ⊢
   rw [if_neg (by omega),if_pos trivial]
   have hkey:(d.1.getD i ta0).2.2.2.2.2=0:=by
    unfold zey at h3
    split at hst
    ·
     exact (of_decide_eq_true hst).2.2
    ·
     split at hst
     ·
      rw [Bool.and_eq_true] at hst;exact of_decide_eq_true hst.2
     ·
      split at hst
      ·
       rename_i e;exact absurd e h3.1
      ·
       cases hst
   rw [Bool.and_eq_true,Bool.and_eq_true]
   refine ⟨⟨hw,?_⟩,decide_eq_true hkey⟩
   unfold inB
   rw [decide_eq_true_eq]
   split<;>omega
  ·
   exact h
 ·
  exact h
def HpN (l:List Nat) (n:Nat):Prop:=∀ k,0<k→k<n→l.getD ((k-1) / 2) 0≤l.getD k 0
def sw (l:List Nat) (i j:Nat):List Nat:=(l.set i (l.getD j 0)).set j (l.getD i 0)
theorem zdN (l:List Nat) (i j:Nat):(sw l i j).length=l.length:=by unfold sw;simp
theorem zeU (l:List Nat) {i j:Nat} (hi:i<l.length) (hj:j<l.length) (k:Nat):(sw l i j).getD k 0=if k=j then l.getD i 0 else if k=i then l.getD j 0 else l.getD k 0:=by
 unfold sw
 rw [List.getD_eq_getElem?_getD,List.getElem?_set]
 by_cases h1:j=k
 ·
  subst h1
  rw [if_pos rfl,if_pos (by simpa using hj),if_pos rfl]
  rfl
 ·
  rw [if_neg h1,if_neg (fun e=>h1 e.symm),List.getElem?_set]
  by_cases h2:i=k
  ·
   subst h2
   rw [if_pos rfl,if_pos hi,if_pos rfl]
   rfl
  ·
   rw [if_neg h2,if_neg (fun e=>h2 e.symm),List.getD_eq_getElem?_getD]
theorem zgt (l:List Nat) {i j:Nat} (hi:i<l.length) (hj:j<l.length):(sw l i j).Perm l:=by
 rw [List.perm_iff_count]
 intro a
 have e1:l.getD j 0=l[j]:=by simp [List.getD,hj]
 have e2:l.getD i 0=l[i]:=by simp [List.getD,hi]
 unfold sw
 rw [e1,e2]
 have hj2:j<(l.set i l[j]).length:=by simpa using hj
 rw [List.count_set hj2,List.count_set hi]
 have c1:l[i]=a→0<l.count a:=fun e=>List.count_pos_iff.2 (by rw [←e];exact List.getElem_mem hi)
 by_cases hij:i=j
 ·
  subst hij
  simp only [List.getElem_set_self]
  by_cases h1:l[i]=a
  ·
   have:=c1 h1;simp only [h1,beq_self_eq_true,if_true];omega
  ·
   simp only [beq_eq_false_iff_ne.2 h1];simp
 ·
  rw [List.getElem_set_ne hij]
  by_cases h1:l[i]=a
  ·
   have:=c1 h1
   by_cases h2:l[j]=a
   ·
    simp only [h1,h2,beq_self_eq_true,if_true];omega
   ·
    simp only [h1,beq_eq_false_iff_ne.2 h2,beq_self_eq_true,if_true];simp;omega
  ·
   by_cases h2:l[j]=a
   ·
    simp only [h2,beq_eq_false_iff_ne.2 h1,beq_self_eq_true,if_true];simp
   ·
    simp only [beq_eq_false_iff_ne.2 h1,beq_eq_false_iff_ne.2 h2];simp
def HpUp (l:List Nat) (j:Nat):Prop:=(∀ k,0<k→k<l.length→k≠j→l.getD ((k-1) / 2) 0≤l.getD k 0)∧(∀ k,0<k→k<l.length→(k-1) / 2=j→0<j→l.getD ((j-1) / 2) 0≤l.getD k 0)
theorem up_step {l:List Nat} {j:Nat} (h:HpUp l j) (hj:j<l.length) (h0:0<j) (hlt:l.getD j 0<l.getD ((j-1) / 2) 0):HpUp (sw l ((j-1) / 2) j) ((j-1) / 2):=by
 have hi:(j-1) / 2<l.length:=by omega
 refine ⟨fun k hk hkl hne=>?_,fun k hk hkl hp hi0=>?_⟩
 ·
  rw [zdN] at hkl
  rw [zeU l hi hj,zeU l hi hj]
  by_cases e1:k=j
  ·
   subst e1
   rw [if_neg (by omega),if_pos rfl,if_pos rfl]
   omega
  ·
   rw [if_neg e1 (c:=k=j),if_neg hne]
   by_cases e2:(k-1) / 2=j
   ·
    rw [if_pos e2];exact h.2 k hk hkl e2 h0
   ·
    rw [if_neg e2]
    have:=h.1 k hk hkl e1
    by_cases e3:(k-1) / 2=(j-1) / 2
    ·
     rw [if_pos e3];rw [e3] at this;omega
    ·
     rw [if_neg e3];exact this
 ·
  rw [zdN] at hkl
  rw [zeU l hi hj,zeU l hi hj]
  have hne:(j-1) / 2≠j:=by omega
  rw [if_neg (by omega),if_neg (by omega)]
  have h1:=h.1 ((j-1) / 2) hi0 hi hne
  by_cases e1:k=j
  ·
   rw [if_pos e1];exact h1
  ·
   rw [if_neg e1,if_neg (by omega)]
   have h2:=h.1 k hk hkl e1
   rw [hp] at h2
   omega
theorem up_end {l:List Nat} {j:Nat} (h:HpUp l j) (he:j=0∨l.getD ((j-1) / 2) 0≤l.getD j 0):HpN l l.length:=fun k hk hkl=>by
 by_cases e:k=j
 ·
  subst e
  rcases he with e | e
  ·
   omega
  ·
   exact e
 ·
  exact h.1 k hk hkl e
theorem up_start {l:List Nat} (h:HpN l l.length) (x:Nat):HpUp (l++[x]) l.length:=by
 have g:∀ k,k<l.length→(l++[x]).getD k 0=l.getD k 0:=fun k hk=>by simp [List.getD,List.getElem?_append_left hk]
 refine ⟨fun k hk hkl hne=>?_,fun k hk hkl hp h0=>?_⟩
 ·
  rw [List.length_append,List.length_singleton] at hkl
  rw [g _ (by omega),g _ (by omega)]
  exact h k hk (by omega)
 ·
  rw [List.length_append,List.length_singleton] at hkl
  omega
def HpDn (l:List Nat) (i n:Nat):Prop:=(∀ k,0<k→k<n→(k-1) / 2≠i→l.getD ((k-1) / 2) 0≤l.getD k 0)∧(∀ k,0<k→k<n→(k-1) / 2=i→0<i→l.getD ((i-1) / 2) 0≤l.getD k 0)
theorem zm0 {l:List Nat} {i j n:Nat} (h:HpDn l i n) (hn:n≤l.length) (hj0:0<j) (hj:j<n) (hp:(j-1) / 2=i) (hmin:∀ k,0<k→k<n→(k-1) / 2=i→l.getD j 0≤l.getD k 0) (hlt:l.getD j 0<l.getD i 0):HpDn (sw l i j) j n:=by
 have hi:i<l.length:=by omega
 have hjl:j<l.length:=by omega
 refine ⟨fun k hk hkn hne=>?_,fun k hk hkn hpk _=>?_⟩
 ·
  rw [zeU l hi hjl,zeU l hi hjl,if_neg hne]
  by_cases e1:k=j
  ·
   subst e1
   rw [if_pos hp,if_pos rfl];omega
  ·
   rw [if_neg e1]
   by_cases e2:k=i
   ·
    subst e2
    rw [if_neg (by omega),if_pos rfl]
    exact h.2 j hj0 hj hp hk
   ·
    rw [if_neg e2]
    by_cases e3:(k-1) / 2=i
    ·
     rw [if_pos e3];exact hmin k hk hkn e3
    ·
     rw [if_neg e3];exact h.1 k hk hkn e3
 ·
  rw [zeU l hi hjl,zeU l hi hjl,if_neg (by omega),if_pos hp,if_neg (by omega),if_neg (by omega)]
  have:=h.1 k hk hkn (by omega)
  rw [hpk] at this
  exact this
theorem zmG {l:List Nat} {i n:Nat} (h:HpDn l i n) (he:∀ k,0<k→k<n→(k-1) / 2=i→l.getD i 0≤l.getD k 0):HpN l n:=fun k hk hkn=>by
 by_cases e:(k-1) / 2=i
 ·
  rw [e];exact he k hk hkn e
 ·
  exact h.1 k hk hkn e
theorem dn_start {l:List Nat} {n:Nat} (h:HpN l l.length) (hn:l.length=n+1):HpDn (sw l 0 n) 0 n:=by
 refine ⟨fun k hk hkn hne=>?_,fun k hk hkn hp h0=>by omega⟩
 rw [zeU l (by omega) (by omega),zeU l (by omega) (by omega),if_neg (by omega),if_neg hne,if_neg (by omega),if_neg (by omega)]
 exact h k hk (by omega)
theorem hp_min {l:List Nat} {n:Nat} (h:HpN l n):∀ k,k<n→l.getD 0 0≤l.getD k 0:=by
 intro k
 induction k using Nat.strongRecOn with
 | ind k ih =>
  intro hk
  rcases Nat.eq_zero_or_pos k with e | e
  ·
   subst e;exact Nat.le_refl _
  ·
   have h1:=h k e hk
   have h2:=ih ((k-1) / 2) (by omega) (by omega)
   omega
theorem hp_take {l:List Nat} {n:Nat} (h:HpN l n) (hn:n≤l.length):HpN (l.take n) (l.take n).length:=fun k hk hkn=>by
 rw [List.length_take] at hkn
 have g:∀ k,k<n→(l.take n).getD k 0=l.getD k 0:=fun k hk=>by simp [List.getD,hk]
 rw [g _ (by omega),g _ (by omega)]
 exact h k hk (by omega)
theorem hp_pop {l l2:List Nat} {n:Nat} (hn:l.length=n+1) (hh:HpN l l.length) (hp:l2.Perm l) (hlast:l2.getD n 0=l.getD 0 0):((l.getD 0 0) :: l2.take n).Perm l∧∀ x∈l,l.getD 0 0≤x:=by
 have hl2:l2.length=n+1:=by rw [hp.length_eq,hn]
 constructor
 ·
  have e:l2=l2.take n++[l.getD 0 0]:=by
   rw [←hlast]
   have:l2.getD n 0=l2[n]'(by omega):=by simp [List.getD,show n<l2.length by omega]
   rw [this,←List.take_succ_eq_append_getElem (by omega),List.take_of_length_le (by omega)]
  have h2:(l.getD 0 0 :: l2.take n).Perm (l2.take n++[l.getD 0 0]):=by
   have:=List.perm_append_comm (l₁:=[l.getD 0 0]) (l₂:=l2.take n)
   simpa using this
  exact h2.trans (by rw [←e];exact hp)
 ·
  intro x hx
  obtain ⟨k,hk,rfl⟩:=List.mem_iff_getElem.1 hx
  have:=hp_min hh k hk
  have e:l.getD k 0=l[k]:=by simp [List.getD,hk]
  rw [e] at this
  exact this
end Go.Proofs.YtdbljnddkbpanaaGreatDoor
