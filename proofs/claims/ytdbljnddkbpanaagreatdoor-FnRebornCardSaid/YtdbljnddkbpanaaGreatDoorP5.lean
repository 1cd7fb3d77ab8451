/-
  Parts of one proof, one behind the other: Math8, Math8R, MathF, MathH, MathX, Math2, Math2F.
-/
import Derived.Test.YtdbljnddkbpanaaGreatDoorP4
import Derived.Test.YtdbljnddkbpanaaGreatDoorP1
import Derived.Lib.Bytealg
import Derived.Test.YtdbljnddkbpanaaGreatDoorP2
namespace Go.Proofs.YtdbljnddkbpanaaGreatDoor
open Go.RowKit
theorem ziV:∀ x:List UInt8,Op.bytesLess x x=false
 | []=>rfl
 | a :: r=>by simp [Op.bytesLess,ziV r]
theorem zf9:∀ {x y z:List UInt8},Op.bytesLess x y=true→Op.bytesLess y z=true→Op.bytesLess x z=true
 | x,y,[],_,h=>by cases y<;>simp [Op.bytesLess] at h
 | [],y,c :: z,_,_=>rfl
 | a :: x,[],c :: z,h,_=>by simp [Op.bytesLess] at h
 | a :: x,b :: y,c :: z,h,k=>by
  simp only [Op.bytesLess,Bool.or_eq_true,decide_eq_true_eq,Bool.and_eq_true,beq_iff_eq] at h k ⊢
  rcases h with h | ⟨rfl,h⟩
  ·
   rcases k with k | ⟨rfl,k⟩
   ·
    exact Or.inl (UInt8.lt_trans h k)
   ·
    exact Or.inl h
  ·
   rcases k with k | ⟨rfl,k⟩
   ·
    exact Or.inl k
   ·
    exact Or.inr ⟨rfl,zf9 h k⟩
theorem zlj:∀ {x y:List UInt8},Op.bytesLess x y=false→Op.bytesLess y x=false→x=y
 | [],[],_,_=>rfl
 | [],b :: y,h,_=>by simp [Op.bytesLess] at h
 | a :: x,[],_,k=>by simp [Op.bytesLess] at k
 | a :: x,b :: y,h,k=>by
  simp only [Op.bytesLess,Bool.or_eq_false_iff,decide_eq_false_iff_not,Bool.and_eq_false_iff,beq_eq_false_iff_ne] at h k
  have hab:a=b:=by
   have h1:=h.1
   have h2:=k.1
   rw [UInt8.lt_iff_toNat_lt] at h1 h2
   exact UInt8.toNat_inj.1 (by omega)
  subst hab
  rw [zlj (h.2.resolve_left (by simp)) (k.2.resolve_left (by simp))]
theorem leT_no {a b:List UInt8}:leT b a=false↔Op.bytesLess a b=true:=by
 unfold leT
 rw [Bool.or_eq_false_iff,beq_eq_false_iff_ne]
 constructor
 ·
  rintro ⟨h,hne⟩
  rcases hx:Op.bytesLess a b with _ | _
  ·
   exact absurd (zlj h hx) hne
  ·
   rfl
 ·
  intro h
  refine ⟨?_,fun e=>?_⟩
  ·
   rcases hx:Op.bytesLess b a with _ | _
   ·
    rfl
   ·
    have:=zf9 h hx;rw [ziV] at this;cases this
  ·
   subst e;rw [ziV] at h;cases h
def Rise (ts:List (List UInt8)):Prop:=ts.Pairwise (fun a b=>Op.bytesLess a b=true)
theorem Rise.nodup {ts:List (List UInt8)} (h:Rise ts):ts.Nodup:=h.imp (fun {a b} hab e=>by subst e;rw [ziV] at hab;cases hab)
theorem zoj {ts:List (List UInt8)} (h:∀ i,i+1<ts.length→Op.bytesLess (ts.getD i []) (ts.getD (i+1) [])=true):Rise ts:=by
 have hd:∀ d i,i+d+1<ts.length→Op.bytesLess (ts.getD i []) (ts.getD (i+d+1) [])=true:=by
  intro d
  induction d with
  | zero=>intro i hi;exact h i hi
  | succ d ih=>intro i hi;exact zf9 (ih i (by omega)) (h (i+d+1) (by omega))
 refine List.pairwise_iff_getElem.2 (fun i j hi hj hij=>?_)
 have hh:=hd (j-i-1) i (by omega)
 rw [show i+(j-i-1)+1=j by omega] at hh
 simpa [List.getD,hi,hj] using hh
theorem rise_of {ts:List (List UInt8)} (h:zfr ts=true):Rise ts:=by
 unfold zfr at h
 exact zoj (fun i hi=>leT_no.1 ((of_decide_eq_true h) i (by omega)))
def za4 (ps:List Pk):List (List UInt8):=ps.map (·.1)
def pj8 (ps:List Pk) (i:Nat):Prop:=pkgB (ps.getD i pk0)=true∧(0<i→leT (ps.getD i pk0).1 (ps.getD (i-1) pk0).1=false)
instance (ps:List Pk) (i:Nat):Decidable (pj8 ps i):=by unfold pj8;infer_instance
def zaL (ps:List Pk):Bool:=decide (∀ i,i<ps.length→pj8 ps i) && inB (ps.length:Int) 1 8
theorem zgg {ps:List Pk} {i:Nat} (hi:i<ps.length) (h:¬pj8 ps i):zaL ps=false:=by unfold zaL;rw [decide_eq_false (fun g=>h (g i hi))];rfl
theorem zjT {ps:List Pk} (h:∀ i,i<ps.length→pj8 ps i):zaL ps=inB (ps.length:Int) 1 8:=by unfold zaL;rw [decide_eq_true h];rfl
theorem zac {ps:List Pk} (h:zaL ps=true):Rise (za4 ps)∧(1≤ps.length∧ps.length≤8)∧∀ p∈ps,pkgB p=true:=by
 unfold zaL at h
 rw [Bool.and_eq_true,decide_eq_true_eq] at h
 have hn:1≤(ps.length:Int)∧(ps.length:Int)≤8:=by have:=h.2;unfold inB at this;exact of_decide_eq_true this
 refine ⟨zoj (fun i hi=>?_),by omega,fun p hp=>?_⟩
 ·
  have hi2:i+1<ps.length:=by simpa [za4] using hi
  have h1:=(h.1 (i+1) hi2).2 (by omega)
  have e:∀ j,(za4 ps).getD j []=(ps.getD j pk0).1:=fun j=>by
   unfold za4
   rw [List.getD_eq_getElem?_getD,List.getD_eq_getElem?_getD,List.getElem?_map]
   cases ps[j]?<;>rfl
  rw [e,e]
  exact leT_no.1 h1
 ·
  obtain ⟨i,hi,rfl⟩:=List.mem_iff_getElem.1 hp
  have h1:=(h.1 i hi).1
  simpa [List.getD,hi] using h1
def zca (s:List UInt8):List Pk→Nat→Int
 | [],_=>-1
 | p :: r,k=>if p.1=s then (k:Int) else zca s r (k+1)
def at8 (ps:List Pk) (s:List UInt8):Int:=zca s ps 0
theorem ziq {ps:List Pk} {k:Nat} (hk:k<ps.length) (s:List UInt8):zca s (ps.drop k) k=if (ps.getD k pk0).1=s then (k:Int) else zca s (ps.drop (k+1)) (k+1):=by
 rw [List.drop_eq_getElem_cons hk,zca]
 have:ps.getD k pk0=ps[k]:=by rw [List.getD_eq_getElem?_getD,List.getElem?_eq_getElem hk];rfl
 rw [this]
theorem zkM (s:List UInt8):∀ (ps:List Pk) (k:Nat),(s∈za4 ps∧0≤zca s ps k∧(k:Int)≤zca s ps k∧zca s ps k<k+ps.length)∨(¬s∈za4 ps∧zca s ps k=-1)
 | [],k=>Or.inr ⟨by simp [za4],rfl⟩
 | p :: r,k=>by
  rw [zca]
  by_cases h:p.1=s
  ·
   rw [if_pos h];exact Or.inl ⟨by simp [za4,h],by omega,by omega,by simp;omega⟩
  ·
   rw [if_neg h]
   rcases zkM s r (k+1) with ⟨h1,h2,h3,h4⟩ | ⟨h1,h2⟩
   ·
    exact Or.inl ⟨by simp only [za4,List.map_cons,List.mem_cons];exact Or.inr h1,h2,by omega,by simp;omega⟩
   ·
    exact Or.inr ⟨by simp only [za4,List.map_cons,List.mem_cons];rintro (e | e);exact h e.symm;exact h1 e,h2⟩
theorem zdK (ps:List Pk) (s:List UInt8):0≤at8 ps s↔s∈za4 ps:=by
 rcases zkM s ps 0 with ⟨h1,h2,_⟩ | ⟨h1,h2⟩
 ·
  exact ⟨fun _=>h1,fun _=>h2⟩
 ·
  unfold at8;exact ⟨fun h=>by omega,fun h=>absurd h h1⟩
def zdd (ps:List Pk) (out:List (List UInt8)) (p:Pk):Prop:=¬p.1∈out∧∀ m∈p.2.1,m∈za4 ps→m∈out
instance (ps:List Pk) (out:List (List UInt8)) (p:Pk):Decidable (zdd ps out p):=by unfold zdd;infer_instance
def zdb (ps:List Pk) (out:List (List UInt8)):Option Pk:=ps.find? (fun p=>decide (zdd ps out p))
def zbP (ps:List Pk):Nat→List (List UInt8)→List (List UInt8)
 | 0,out=>out
 | n+1,out=>match zdb ps out with
  | none=>out
  | some p=>zbP ps n (out++[p.1])
def zax (ps:List Pk):List (List UInt8):=zbP ps (ps.length+1) []
theorem zns {ps:List Pk} {out:List (List UInt8)} (h:zdb ps out=none):∀ p∈ps,¬zdd ps out p:=fun p hp hf=>by
 unfold zdb at h
 rw [List.find?_eq_none] at h
 exact h p hp (decide_eq_true hf)
theorem zi2 {ps:List Pk} {out:List (List UInt8)} {p:Pk} (h:zdb ps out=some p):p∈ps∧zdd ps out p :=
 ⟨List.mem_of_find?_eq_some h,of_decide_eq_true (List.find?_some (p:=fun p=>decide (zdd ps out p)) h)⟩
structure Or8 (ps:List Pk) (out:List (List UInt8)):Prop where
 nd:out.Nodup
 sub:∀ x∈out,x∈za4 ps
 need:∀ p∈ps,p.1∈out→∀ m∈p.2.1,m∈za4 ps→m∈out.takeWhile (fun x=>decide (x≠p.1))
theorem zlf (ps:List Pk):Or8 ps []:=⟨List.nodup_nil,fun x hx=>by simp at hx,fun p _ h=>by simp at h⟩
theorem Or8.len {ps:List Pk} {out:List (List UInt8)} (h:Or8 ps out):out.length≤ps.length:=by
 have:=h.nd.length_le_of_subset (fun x hx=>h.sub x hx)
 simpa [za4] using this
theorem zo5 {out:List (List UInt8)} {x n:List UInt8} (h:x∈out):(out++[n]).takeWhile (fun y=>decide (y≠x))=out.takeWhile (fun y=>decide (y≠x)):=by
 induction out with
 | nil=>simp at h
 | cons a r ih =>
  by_cases e:a=x
  ·
   subst e;simp [List.takeWhile]
  ·
   have h2:x∈r:=by
    rcases List.mem_cons.1 h with h | h
    ·
     exact absurd h.symm e
    ·
     exact h
   simp only [List.cons_append,List.takeWhile_cons]
   rw [if_pos (by simpa using e),if_pos (by simpa using e),ih h2]
theorem zma {out:List (List UInt8)} {x:List UInt8} (h:¬x∈out):out.takeWhile (fun y=>decide (y≠x))=out:=by
 induction out with
 | nil=>rfl
 | cons a r ih =>
  simp only [List.mem_cons,not_or] at h
  rw [List.takeWhile_cons,if_pos (by simpa using fun e=>h.1 e.symm),ih h.2]
theorem Or8.step {ps:List Pk} (hn:(za4 ps).Nodup) {out:List (List UInt8)} (h:Or8 ps out) {p:Pk} (hp:zdb ps out=some p):Or8 ps (out++[p.1]):=by
 obtain ⟨hm,hf⟩:=zi2 hp
 refine ⟨List.nodup_append.2 ⟨h.nd,by simp,fun a ha b hb=>by rw [List.mem_singleton] at hb;subst hb;intro e;subst e;exact hf.1 ha⟩,fun x hx=>?_,fun q hq hqo m hmq hmn=>?_⟩
 ·
  rw [List.mem_append,List.mem_singleton] at hx
  rcases hx with hx | rfl
  ·
   exact h.sub x hx
  ·
   exact List.mem_map.2 ⟨p,hm,rfl⟩
 ·
  by_cases hqi:q.1∈out
  ·
   rw [zo5 hqi];exact h.need q hq hqi m hmq hmn
  ·
   rw [List.mem_append,List.mem_singleton] at hqo
   have e:q.1=p.1:=hqo.resolve_left hqi
   have hqp:q=p:=by
    obtain ⟨i,hi,rfl⟩:=List.mem_iff_getElem.1 hq
    obtain ⟨j,hj,rfl⟩:=List.mem_iff_getElem.1 hm
    have hij:i=j:=by
     have h1:(za4 ps)[i]'(by simpa [za4] using hi)=(za4 ps)[j]'(by simpa [za4] using hj):=by simpa [za4] using e
     exact (List.getElem_inj hn).1 h1
    subst hij;rfl
   subst hqp
   have e2:(out++[q.1]).takeWhile (fun y=>decide (y≠q.1))=out:=by
    have:=zma hqi
    rw [List.takeWhile_append,this]
    simp
   rw [e2]
   exact hf.2 m hmq hmn
theorem zgH {ps:List Pk} (hn:(za4 ps).Nodup):∀ (n:Nat) (out:List (List UInt8)),Or8 ps out→ps.length<n+out.length→Or8 ps (zbP ps n out)∧zdb ps (zbP ps n out)=none
 | 0,out,h,hl=>by have:=h.len;omega
 | n+1,out,h,hl=>by
  rw [zbP]
  rcases hx:zdb ps out with _ | p
  ·
   exact ⟨h,hx⟩
  ·
   exact zgH hn n (out++[p.1]) (h.step hn hx) (by rw [List.length_append,List.length_singleton];omega)
theorem zbJ {ps:List Pk} (h:zaL ps=true):Or8 ps (zax ps)∧zdb ps (zax ps)=none :=
 zgH (zac h).1.nodup _ _ (zlf ps) (by simp)
theorem zfO {ps:List Pk} {out:List (List UInt8)} (n:Nat) (h:zdb ps out=none):zbP ps n out=out:=by
 cases n with
 | zero=>rfl
 | succ n=>rw [zbP,h]
theorem zfN {ps:List Pk} {out:List (List UInt8)} {p:Pk} (n:Nat) (h:zdb ps out=some p):zbP ps (n+1) out=zbP ps n (out++[p.1]):=by rw [zbP,h]
def low8 (s:List UInt8):List (List UInt8)→Nat
 | []=>0
 | x :: r=>if Op.bytesLess x s=true then low8 s r+1 else 0
theorem zoU (s:List UInt8):∀ ts,low8 s ts≤ts.length
 | []=>Nat.le_refl _
 | x :: r=>by unfold low8;split<;>simp;exact zoU s r
theorem zlk (s:List UInt8):∀ (ts:List (List UInt8)) (k:Nat),(∀ i,i<k→Op.bytesLess (ts.getD i []) s=true)→k≤ts.length→(k=ts.length∨Op.bytesLess (ts.getD k []) s=false)→low8 s ts=k
 | [],k,_,h,_=>by simp at h;subst h;rfl
 | x :: r,0,_,_,h=>by
  rcases h with h | h
  ·
   simp at h
  ·
   unfold low8;rw [if_neg (by simpa using h)]
 | x :: r,k+1,h1,h2,h3=>by
  have h0:=h1 0 (by omega)
  unfold low8
  rw [if_pos (by simpa using h0)]
  rw [zlk s r k (fun i hi=>by simpa using h1 (i+1) (by omega)) (by simpa using h2) (by rcases h3 with h | h;exact Or.inl (by simpa using h);exact Or.inr (by simpa using h))]
def put8 (ts:List (List UInt8)) (s:List UInt8):List (List UInt8):=if ts[low8 s ts]?=some s then ts else ts.take (low8 s ts)++s :: ts.drop (low8 s ts)
theorem zck {ts:List (List UInt8)} {s x:List UInt8}:x∈put8 ts s↔x=s∨x∈ts:=by
 unfold put8
 split
 ·
  rename_i h
  exact ⟨Or.inr,fun g=>g.elim (fun e=>by rw [e];exact List.mem_of_getElem? h) id⟩
 ·
  have e:=List.take_append_drop (low8 s ts) ts
  rw [List.mem_append,List.mem_cons]
  constructor
  ·
   rintro (h | h | h)
   ·
    exact Or.inr (List.mem_of_mem_take h)
   ·
    exact Or.inl h
   ·
    exact Or.inr (List.mem_of_mem_drop h)
  ·
   rintro (h | h)
   ·
    exact Or.inr (Or.inl h)
   ·
    rw [←e,List.mem_append] at h
    rcases h with h | h
    ·
     exact Or.inl h
    ·
     exact Or.inr (Or.inr h)
theorem zjS {s:List UInt8}:∀ {ts:List (List UInt8)},Rise ts→Rise (put8 ts s)
 | [],_=>by simp [put8,low8,Rise]
 | x :: r,h=>by
  have hx:=List.pairwise_cons.1 h
  by_cases hl:Op.bytesLess x s=true
  ·
   have ih:=zjS (s:=s) (ts:=r) hx.2
   have e:put8 (x :: r) s=x :: put8 r s:=by
    unfold put8
    rw [show low8 s (x :: r)=low8 s r+1 by rw [low8,if_pos hl]]
    rw [List.getElem?_cons_succ]
    split
    ·
     rfl
    ·
     rfl
   rw [e]
   refine List.pairwise_cons.2 ⟨fun y hy=>?_,ih⟩
   rcases zck.1 hy with rfl | hy
   ·
    exact hl
   ·
    exact hx.1 y hy
  ·
   have hl0:low8 s (x :: r)=0:=by rw [low8,if_neg hl]
   unfold put8
   rw [hl0]
   simp only [List.getElem?_cons_zero,Option.some.injEq,List.take_zero,List.drop_zero,List.nil_append]
   split
   ·
    exact h
   ·
    rename_i hne
    have hsx:Op.bytesLess s x=true:=by
     rcases hb:Op.bytesLess s x with _ | _
     ·
      exact absurd (zlj (by simpa using hl) hb) hne
     ·
      rfl
    refine List.pairwise_cons.2 ⟨fun y hy=>?_,h⟩
    rcases List.mem_cons.1 hy with rfl | hy
    ·
     exact hsx
    ·
     exact zf9 hsx (hx.1 y hy)
theorem put8_len (ts:List (List UInt8)) (s:List UInt8):ts.length≤(put8 ts s).length∧(put8 ts s).length≤ts.length+1:=by
 unfold put8
 have h:=zoU s ts
 split
 ·
  omega
 ·
  rw [List.length_append,List.length_cons,List.length_take,List.length_drop];omega
def in8 (ps:List Pk) (o:List (List UInt8)) (m:List UInt8):List (List UInt8):=if m∈za4 ps then put8 o m else o
def zdn (ps:List Pk) (o ms:List (List UInt8)):List (List UInt8):=ms.foldl (in8 ps) o
def zdP (ps:List Pk) (o:List (List UInt8)) (p:Pk):List (List UInt8):=if p.1∈o then zdn ps o p.2.1 else o
def zdg (ps qs:List Pk) (o:List (List UInt8)):List (List UInt8):=qs.foldl (zdP ps) o
def zcy (ps:List Pk):Nat→List (List UInt8)→List (List UInt8)
 | 0,o=>o
 | n+1,o=>if (zdg ps ps o).length=o.length then zdg ps ps o else zcy ps n (zdg ps ps o)
def zco (ps:List Pk) (s:List UInt8):List (List UInt8):=zcy ps (ps.length+1) [s]
structure Re8 (ps:List Pk) (s:List UInt8) (o:List (List UInt8)):Prop where
 rise:Rise o
 sub:∀ x∈o,x∈za4 ps
 self:s∈o
 why:∀ x∈o,x=s∨∃ p∈ps,p.1∈o∧x∈p.2.1
theorem Re8.len {ps:List Pk} {s:List UInt8} {o:List (List UInt8)} (h:Re8 ps s o):o.length≤ps.length:=by
 have:=h.rise.nodup.length_le_of_subset (fun x hx=>h.sub x hx)
 simpa [za4] using this
theorem Re8.put {ps:List Pk} {s:List UInt8} {o:List (List UInt8)} (h:Re8 ps s o) {p:Pk} (hp:p∈ps) (hpo:p.1∈o) {m:List UInt8} (hm:m∈p.2.1):Re8 ps s (in8 ps o m):=by
 unfold in8
 split
 ·
  rename_i hn
  refine ⟨zjS h.rise,fun x hx=>?_,zck.2 (Or.inr h.self),fun x hx=>?_⟩
  ·
   rcases zck.1 hx with rfl | hx
   ·
    exact hn
   ·
    exact h.sub x hx
  ·
   rcases zck.1 hx with rfl | hx
   ·
    exact Or.inr ⟨p,hp,zck.2 (Or.inr hpo),hm⟩
   ·
    rcases h.why x hx with e | ⟨q,hq,hqo,hxq⟩
    ·
     exact Or.inl e
    ·
     exact Or.inr ⟨q,hq,zck.2 (Or.inr hqo),hxq⟩
 ·
  exact h
theorem zp6 {ps:List Pk} {o:List (List UInt8)} {m x:List UInt8} (h:x∈o):x∈in8 ps o m:=by
 unfold in8
 split
 ·
  exact zck.2 (Or.inr h)
 ·
  exact h
theorem zeh {ps:List Pk} {x:List UInt8}:∀ (ms o:List (List UInt8)),x∈o→x∈zdn ps o ms
 | [],_,h=>h
 | m :: r,o,h=>zeh r (in8 ps o m) (zp6 h)
theorem zi6 {ps:List Pk} {x:List UInt8} (hx:x∈za4 ps):∀ (ms o:List (List UInt8)),x∈ms→x∈zdn ps o ms
 | m :: r,o,h=>by
  rcases List.mem_cons.1 h with rfl | h
  ·
   refine zeh r (in8 ps o x) ?_
   unfold in8;rw [if_pos hx];exact zck.2 (Or.inl rfl)
  ·
   exact zi6 hx r (in8 ps o m) h
theorem Re8.inner {ps:List Pk} {s:List UInt8} {p:Pk} (hp:p∈ps):∀ (ms o:List (List UInt8)),Re8 ps s o→p.1∈o→(∀ m∈ms,m∈p.2.1)→Re8 ps s (zdn ps o ms)
 | [],_,h,_,_=>h
 | m :: r,o,h,hpo,hm=>Re8.inner hp r (in8 ps o m) (h.put hp hpo (hm m List.mem_cons_self)) (zp6 hpo) (fun x hx=>hm x (List.mem_cons_of_mem _ hx))
theorem Re8.pass {ps:List Pk} {s:List UInt8} {o:List (List UInt8)} (h:Re8 ps s o) {p:Pk} (hp:p∈ps):Re8 ps s (zdP ps o p):=by
 unfold zdP
 split
 ·
  rename_i hpo
  exact Re8.inner hp _ _ h hpo (fun m hm=>hm)
 ·
  exact h
theorem zjW {ps:List Pk} {o:List (List UInt8)} {p:Pk} {x:List UInt8} (h:x∈o):x∈zdP ps o p:=by
 unfold zdP
 split
 ·
  exact zeh _ _ h
 ·
  exact h
theorem zdR {ps:List Pk} {x:List UInt8}:∀ (qs:List Pk) (o:List (List UInt8)),x∈o→x∈zdg ps qs o
 | [],_,h=>h
 | p :: r,o,h=>zdR r (zdP ps o p) (zjW h)
theorem Re8.step {ps:List Pk} {s:List UInt8}:∀ (qs:List Pk) (o:List (List UInt8)),(∀ q∈qs,q∈ps)→Re8 ps s o→Re8 ps s (zdg ps qs o)
 | [],_,_,h=>h
 | p :: r,o,hq,h=>Re8.step r (zdP ps o p) (fun q hqr=>hq q (List.mem_cons_of_mem _ hqr)) (h.pass (hq p List.mem_cons_self))
theorem zjC {ps:List Pk} {x:List UInt8} (hx:x∈za4 ps) {p:Pk} (hxp:x∈p.2.1):∀ (qs:List Pk) (o:List (List UInt8)),p∈qs→p.1∈o→x∈zdg ps qs o
 | q :: r,o,hp,hpo=>by
  rcases List.mem_cons.1 hp with rfl | hp
  ·
   refine zdR r (zdP ps o p) ?_
   unfold zdP;rw [if_pos hpo];exact zi6 hx _ _ hxp
  ·
   exact zjC hx hxp r (zdP ps o q) hp (zjW hpo)
theorem zmh {α:Type} [DecidableEq α] {a b:List α} (ha:a.Nodup) (hs:∀ x∈a,x∈b) (hl:b.length=a.length):∀ x∈b,x∈a:=fun x hx=>by
 by_cases h:x∈a
 ·
  exact h
 ·
  have h1:(x :: a).Nodup:=List.nodup_cons.2 ⟨h,ha⟩
  have:=h1.length_le_of_subset (fun y hy=>by
   rcases List.mem_cons.1 hy with rfl | hy
   ·
    exact hx
   ·
    exact hs y hy)
  simp at this
  omega
def Shut8 (ps:List Pk) (o:List (List UInt8)):Prop:=∀ p∈ps,p.1∈o→∀ m∈p.2.1,m∈za4 ps→m∈o
theorem shut8_of {ps:List Pk} {s:List UInt8} {o:List (List UInt8)} (h:Re8 ps s o) (hl:(zdg ps ps o).length=o.length):Shut8 ps (zdg ps ps o):=fun p hp hpo m hm hn=>by
 have hb:=zmh h.rise.nodup (fun x hx=>zdR ps o hx) hl
 exact zjC hn hm ps o hp (hb _ hpo)
theorem zgF {ps:List Pk} {s:List UInt8}:∀ (n:Nat) (o:List (List UInt8)),Re8 ps s o→ps.length<n+o.length→Re8 ps s (zcy ps n o)∧Shut8 ps (zcy ps n o)
 | 0,o,h,hl=>by have:=h.len;omega
 | n+1,o,h,hl=>by
  rw [zcy]
  have h2:=Re8.step ps o (fun q hq=>hq) h
  split
  ·
   rename_i e;exact ⟨h2,shut8_of h e⟩
  ·
   rename_i e
   have hle:=h.rise.nodup.length_le_of_subset (fun x hx=>zdR (ps:=ps) ps o hx)
   exact zgF n _ h2 (by omega)
theorem zoo {ps:List Pk} {s:List UInt8} (h:s∈za4 ps):Re8 ps s [s] :=
 ⟨List.pairwise_singleton _ _,fun x hx=>by rw [List.mem_singleton] at hx;rw [hx];exact h,List.mem_singleton.2 rfl,fun x hx=>Or.inl (List.mem_singleton.1 hx)⟩
theorem zed {ps:List Pk} {s:List UInt8} (h:s∈za4 ps):Re8 ps s (zco ps s)∧Shut8 ps (zco ps s):=zgF _ _ (zoo h) (by simp only [List.length_singleton];omega)
def orderV (ps:List Pk):List (List UInt8):=if zaL ps=true then zax ps else []
def zlO (ps:List Pk) (s:List UInt8):Bool:=zaL ps && decide (0≤at8 ps s)
def reachV (ps:List Pk) (s:List UInt8):List (List UInt8):=if zlO ps s=true then zco ps s else []
def zdc (ps:List Pk) (s:List UInt8):List (List UInt8):=(zax ps).filter (fun x=>decide (x≠s∧x∈zco ps s))
def zgQ (ps:List Pk) (s:List UInt8):List (List UInt8):=if zlO ps s=true then zdc ps s else []
section
def hvN (n:Nat):Int:=if 48≤n∧n≤57 then (n:Int)-48 else if 97≤n∧n≤102 then (n:Int)-87 else -1
def hv (c:UInt8):Int:=hvN c.toNat
theorem hv_all:∀ n:Nat,n<256→Lib.indexByte [48,49,50,51,52,53,54,55,56,57,97,98,99,100,101,102] (UInt8.ofNat n)=hvN n:=by decide +kernel
theorem hv_idx (c:UInt8):Lib.indexByte [48,49,50,51,52,53,54,55,56,57,97,98,99,100,101,102] ((c.toNat:Int).toNat.toUInt8)=hv c:=by
 have h:=hv_all c.toNat c.toNat_lt
 simpa [hv] using h
theorem zhH (c:UInt8):-1≤hv c∧hv c≤15:=by
 unfold hv hvN;split<;>(try split)<;>omega
def zaA (n:Int) (c:UInt8):Int:=if n=-1∨hv c<0 then -1 else 16*n+hv c
theorem zlN (n:Int) (c:UInt8) (h:0≤n) (h1:48≤c.toNat) (h2:c.toNat≤57):zaA n c=16*n+((c.toNat:Int)-48):=by
 have e:hv c=(c.toNat:Int)-48:=by unfold hv hvN;rw [if_pos ⟨h1,h2⟩]
 unfold zaA;rw [if_neg (by omega),e]
theorem zlM (n:Int) (c:UInt8) (h:0≤n) (h1:97≤c.toNat) (h2:c.toNat≤102):zaA n c=16*n+((c.toNat:Int)-87):=by
 have e:hv c=(c.toNat:Int)-87:=by unfold hv hvN;rw [if_neg (by omega),if_pos ⟨h1,h2⟩]
 unfold zaA;rw [if_neg (by omega),e]
theorem zkl (n:Int) (c:UInt8) (h:c.toNat<48∨(57<c.toNat∧c.toNat<97)∨102<c.toNat):zaA n c=-1:=by
 have e:hv c=-1:=by unfold hv hvN;rw [if_neg (by omega),if_neg (by omega)]
 unfold zaA;rw [if_pos (by omega)]
def zb7 (l:List UInt8):Int:=l.foldl zaA 0
theorem zfd (c:UInt8):zaA (-1) c=-1:=by simp [zaA]
theorem znM (l:List UInt8):l.foldl zaA (-1)=-1:=by
 induction l with
 | nil=>rfl
 | cons c r ih=>rw [List.foldl_cons,zfd,ih]
theorem znI (l:List UInt8) (c:UInt8):zb7 (l++[c])=zaA (zb7 l) c:=by
 unfold zb7;rw [List.foldl_append];rfl
theorem zie (s:ByteArray) (k:Nat) (h:k<s.size):zb7 (s.data.toList.take (k+1))=zaA (zb7 (s.data.toList.take k)) s[k]:=by
 rw [zjz s k h,znI]
theorem zlW (l:List UInt8) (m:Nat) (n:Int) (h0:-1≤n) (h1:n<16 ^ m):-1≤l.foldl zaA n∧l.foldl zaA n<16 ^ (m+l.length):=by
 induction l generalizing n m with
 | nil=>exact ⟨h0,h1⟩
 | cons c r ih =>
  have hb:=zhH c
  have e:(16:Int) ^ (m+1)=16*16 ^ m:=by rw [Int.pow_succ];omega
  have hp:(0:Int)<16 ^ m:=Int.pow_pos (by decide)
  have hs:-1≤zaA n c∧zaA n c<16 ^ (m+1):=by
   unfold zaA
   split
   ·
    omega
   ·
    rw [e];omega
  have h:=ih (m+1) (zaA n c) hs.1 hs.2
  rw [List.foldl_cons,List.length_cons,show m+(r.length+1)=m+1+r.length by omega]
  exact h
theorem fromL_bd (l:List UInt8):-1≤zb7 l∧zb7 l<16 ^ l.length:=by
 have h:=zlW l 0 0 (by decide) (by decide)
 rw [Nat.zero_add] at h
 exact h
theorem zgl (l:List UInt8) (h:l.length≤8):-1≤zb7 l∧zb7 l≤4294967295:=by
 have hb:=fromL_bd l
 have hn:16 ^ l.length≤16 ^ 8:=Nat.pow_le_pow_right (by decide) h
 have:(16:Int) ^ l.length≤16 ^ 8:=by exact_mod_cast hn
 omega
theorem zlR (s:ByteArray) (k:Nat) (h1:zb7 (s.data.toList.take k)=-1):zb7 s.data.toList=-1:=by
 have e:s.data.toList=s.data.toList.take k++s.data.toList.drop k:=(List.take_append_drop k _).symm
 rw [e];unfold zb7 at *;rw [List.foldl_append,h1,znM]
def zc3 (l:List UInt8):Bool:=decide (l.length=8∧zb7 l≠-1)
def zbd (l:List UInt8):Int:=if l.length=8∧zb7 l≠-1 then zb7 l else 0
theorem zj9 (l:List UInt8) (h:l.length≠8∨zb7 l=-1):zc3 l=false∧zbd l=0:=by
 unfold zc3 zbd
 have:¬(l.length=8∧zb7 l≠-1):=by rcases h with h | h<;>simp [h]
 rw [if_neg this];simp [this]
theorem zgk (l:List UInt8) (h:l.length=8) (h1:zb7 l≠-1):zc3 l=true∧zbd l=zb7 l:=by
 unfold zc3 zbd
 have:l.length=8∧zb7 l≠-1:=⟨h,h1⟩
 rw [if_pos this];simp [this]
end
section

end
section
theorem hv_hexD (d:Nat) (h:d<16):hv (hexD d)=(d:Int):=by
 have key:∀ d:Nat,d<16→hv (hexD d)=(d:Int):=by decide +kernel
 exact key d h
theorem hexD_hvN:∀ n:Nat,n<256→hvN n=-1∨hexD (hvN n).toNat=UInt8.ofNat n:=by decide +kernel
theorem ze2 (c:UInt8) (h:0≤hv c):hexD (hv c).toNat=c:=by
 rcases hexD_hvN c.toNat c.toNat_lt with e | e
 ·
  unfold hv at h;omega
 ·
  unfold hv;rw [e];simp
theorem znE (n:Int) (c:UInt8) (d:Nat) (h0:0≤n) (h:hv c=(d:Int)):zaA n c=16*n+d:=by
 unfold zaA;rw [if_neg (by omega),h]
theorem zlX (ds:List Nat) (n:Int) (h0:0≤n) (h:∀ d∈ds,d<16):(ds.map hexD).foldl zaA n=ds.foldl (fun (m:Int) (d:Nat)=>16*m+(d:Int)) n:=by
 induction ds generalizing n with
 | nil=>rfl
 | cons d r ih =>
  rw [List.map_cons,List.foldl_cons,List.foldl_cons,znE n _ d h0 (hv_hexD d (h d List.mem_cons_self))]
  exact ih _ (by omega) (fun x hx=>h x (List.mem_cons_of_mem _ hx))
theorem zh3 (n:Nat) (h:n≤4294967295):zb7 (hexL n)=(n:Int):=by
 have e:=zlX [n / 268435456 % 16,n / 16777216 % 16,n / 1048576 % 16,n / 65536 % 16,n / 4096 % 16,n / 256 % 16,n / 16 % 16,n % 16] 0 (by omega) (by
  intro d hd
  simp only [List.mem_cons,List.not_mem_nil,or_false] at hd
  omega)
 show ([n / 268435456 % 16,n / 16777216 % 16,n / 1048576 % 16,n / 65536 % 16,n / 4096 % 16,n / 256 % 16,n / 16 % 16,n % 16].map hexD).foldl zaA 0=_
 rw [e]
 simp only [List.foldl_cons,List.foldl_nil]
 omega
theorem zbE (n:Int) (c:UInt8) (h:zaA n c≠-1):n≠-1∧0≤hv c∧zaA n c=16*n+hv c:=by
 unfold zaA at h ⊢
 split at h
 ·
  exact absurd rfl h
 ·
  rename_i hc
  rw [if_neg hc]
  exact ⟨fun e=>hc (Or.inl e),by omega,rfl⟩
theorem zpg (l:List UInt8) (h8:l.length=8) (h:zb7 l≠-1):hexL (zb7 l).toNat=l∧0≤zb7 l∧zb7 l≤4294967295:=by
 match l,h8 with
 | [a,b,c,d,e,f,g,i],_ =>
  unfold zb7 at h ⊢
  simp only [List.foldl_cons,List.foldl_nil] at h ⊢
  obtain ⟨h7,v7,e7⟩:=zbE _ _ h
  obtain ⟨h6,v6,e6⟩:=zbE _ _ h7
  obtain ⟨h5,v5,e5⟩:=zbE _ _ h6
  obtain ⟨h4,v4,e4⟩:=zbE _ _ h5
  obtain ⟨h3,v3,e3⟩:=zbE _ _ h4
  obtain ⟨h2,v2,e2⟩:=zbE _ _ h3
  obtain ⟨h1,v1,e1⟩:=zbE _ _ h2
  obtain ⟨_,v0,e0⟩:=zbE _ _ h1
  rw [e7,e6,e5,e4,e3,e2,e1,e0]
  have b0:=(zhH a).2
  have b1:=(zhH b).2
  have b2:=(zhH c).2
  have b3:=(zhH d).2
  have b4:=(zhH e).2
  have b5:=(zhH f).2
  have b6:=(zhH g).2
  have b7:=(zhH i).2
  have k0:=ze2 a v0
  have k1:=ze2 b v1
  have k2:=ze2 c v2
  have k3:=ze2 d v3
  have k4:=ze2 e v4
  have k5:=ze2 f v5
  have k6:=ze2 g v6
  have k7:=ze2 i v7
  clear h h1 h2 h3 h4 h5 h6 h7 e0 e1 e2 e3 e4 e5 e6 e7
  refine ⟨?_,by omega,by omega⟩
  generalize hv a=x0 at *
  generalize hv b=x1 at *
  generalize hv c=x2 at *
  generalize hv d=x3 at *
  generalize hv e=x4 at *
  generalize hv f=x5 at *
  generalize hv g=x6 at *
  generalize hv i=x7 at *
  obtain ⟨y0,rfl⟩:=Int.eq_ofNat_of_zero_le v0
  obtain ⟨y1,rfl⟩:=Int.eq_ofNat_of_zero_le v1
  obtain ⟨y2,rfl⟩:=Int.eq_ofNat_of_zero_le v2
  obtain ⟨y3,rfl⟩:=Int.eq_ofNat_of_zero_le v3
  obtain ⟨y4,rfl⟩:=Int.eq_ofNat_of_zero_le v4
  obtain ⟨y5,rfl⟩:=Int.eq_ofNat_of_zero_le v5
  obtain ⟨y6,rfl⟩:=Int.eq_ofNat_of_zero_le v6
  obtain ⟨y7,rfl⟩:=Int.eq_ofNat_of_zero_le v7
  have e:(16*(16*(16*(16*(16*(16*(16*(16*(0:Int)+y0)+y1)+y2)+y3)+y4)+y5)+y6)+y7).toNat=16*(16*(16*(16*(16*(16*(16*y0+y1)+y2)+y3)+y4)+y5)+y6)+y7:=by omega
  rw [e]
  unfold hexL
  simp only [Int.toNat_natCast] at k0 k1 k2 k3 k4 k5 k6 k7
  generalize hN:16*(16*(16*(16*(16*(16*(16*y0+y1)+y2)+y3)+y4)+y5)+y6)+y7=N
  rw [show N / 268435456 % 16=y0 by omega,show N / 16777216 % 16=y1 by omega,show N / 1048576 % 16=y2 by omega,show N / 65536 % 16=y3 by omega,show N / 4096 % 16=y4 by omega,show N / 256 % 16=y5 by omega,show N / 16 % 16=y6 by omega,show N % 16=y7 by omega]
  rw [k0,k1,k2,k3,k4,k5,k6,k7]
theorem zkm (l:List UInt8) (h:zc3 l=true):hexS (zbd l)=l:=by
 have hp:l.length=8∧zb7 l≠-1:=of_decide_eq_true h
 have h2:=zpg l hp.1 hp.2
 rw [(zgk l hp.1 hp.2).2,zej _ h2.2.1 h2.2.2]
 exact h2.1
end
section
def zaj (l:List UInt8):List UInt8:=hexL l.length++hexL (zbx l).toNat++l
def zdJ (l:List UInt8):List UInt8:=if l.length≤20000 then zaj l else []
theorem zbY (l:List UInt8) (h:l.length≤20000):zdJ l=zaj l:=if_pos h
theorem znL (l:List UInt8) (h:20000<l.length):zdJ l=[]:=if_neg (by omega)
def zaU (l:List UInt8):Bool :=
 decide (16≤l.length∧zc3 (l.take 8)=true∧zc3 ((l.drop 8).take 8)=true∧zbd (l.take 8)≤20000∧16+zbd (l.take 8)≤(l.length:Int) ∧
  zbx ((l.drop 16).take (zbd (l.take 8)).toNat)=zbd ((l.drop 8).take 8))
def zap (l:List UInt8):List UInt8:=if zaU l=true then (l.drop 16).take (zbd (l.take 8)).toNat else []
def zc8 (l:List UInt8):Int:=if zaU l=true then 16+zbd (l.take 8) else 0
theorem zcw (l:List UInt8) (h:¬(16≤l.length∧zc3 (l.take 8)=true∧zc3 ((l.drop 8).take 8)=true∧zbd (l.take 8)≤20000∧16+zbd (l.take 8)≤(l.length:Int) ∧
 zbx ((l.drop 16).take (zbd (l.take 8)).toNat)=zbd ((l.drop 8).take 8))):zap l=[]∧zc8 l=0∧zaU l=false:=by
 have hb:zaU l=false:=decide_eq_false h
 unfold zap zc8
 rw [hb];simp
theorem zeo (l:List UInt8) (h:16≤l.length∧zc3 (l.take 8)=true∧zc3 ((l.drop 8).take 8)=true∧zbd (l.take 8)≤20000∧16+zbd (l.take 8)≤(l.length:Int) ∧
 zbx ((l.drop 16).take (zbd (l.take 8)).toNat)=zbd ((l.drop 8).take 8)):zap l=(l.drop 16).take (zbd (l.take 8)).toNat∧zc8 l=16+zbd (l.take 8)∧zaU l=true:=by
 have hb:zaU l=true:=decide_eq_true h
 unfold zap zc8
 rw [hb];simp
theorem zel (l:List UInt8):0≤zbd l∧zbd l≤4294967295:=by
 unfold zbd
 split
 ·
  rename_i h
  have:=zgl l (by omega)
  omega
 ·
  omega
def zo0 (l:List UInt8):Bool:=zaU l && decide (zc8 l=(l.length:Int))
def unframedT (l:List UInt8):List UInt8:=if zo0 l=true then zap l else []
end
section
theorem zd9 (n:Nat):(hexL n).length=8:=rfl
theorem zaW (l:List UInt8):(zaj l).length=16+l.length:=by
 unfold zaj;rw [List.length_append,List.length_append,zd9,zd9]
theorem zja (l:List UInt8):(zaj l).take 8=hexL l.length:=by
 unfold zaj
 rw [List.append_assoc]
 exact List.take_left' (zd9 _)
theorem zpl (l:List UInt8):((zaj l).drop 8).take 8=hexL (zbx l).toNat:=by
 unfold zaj
 rw [List.append_assoc,List.drop_left' (zd9 _)]
 exact List.take_left' (zd9 _)
theorem zlU (l:List UInt8):(zaj l).drop 16=l:=by
 unfold zaj
 exact List.drop_left' (by rw [List.length_append,zd9,zd9])
theorem zkn (n:Nat) (h:n≤4294967295):zc3 (hexL n)=true∧zbd (hexL n)=(n:Int):=by
 have e:=zh3 n h
 have hne:zb7 (hexL n)≠-1:=by rw [e];omega
 have hy:=zgk (hexL n) (zd9 n) hne
 exact ⟨hy.1,by rw [hy.2,e]⟩
theorem hexL_inj (m n:Nat) (hm:m≤4294967295) (hn:n≤4294967295) (h:hexL m=hexL n):m=n:=by
 have e1:=zh3 m hm
 have e2:=zh3 n hn
 rw [h,e2] at e1
 omega
theorem hash_nat (l:List UInt8):(zbx l).toNat≤4294967295∧((zbx l).toNat:Int)=zbx l:=by
 have:=zff l
 omega
theorem zfY (l:List UInt8) (hl:l.length≤20000) (r:List UInt8):zaU (zaj l++r)=true∧zap (zaj l++r)=l∧zc8 (zaj l++r)=16+(l.length:Int):=by
 have hlen:=zaW l
 have t8:(zaj l++r).take 8=hexL l.length:=by
  rw [List.take_append_of_le_length (by omega)];exact zja l
 have t16:((zaj l++r).drop 8).take 8=hexL (zbx l).toNat:=by
  rw [List.drop_append_of_le_length (by omega),List.take_append_of_le_length (by rw [List.length_drop];omega)];exact zpl l
 have tr:(zaj l++r).drop 16=l++r:=by
  rw [List.drop_append_of_le_length (by omega),zlU]
 have h1:=zkn l.length (by omega)
 have hn:=hash_nat l
 have h2:=zkn (zbx l).toNat hn.1
 have hy:=zeo (zaj l++r) (by
  rw [t8,t16,tr,h1.1,h1.2,h2.1,h2.2,List.length_append,hlen]
  refine ⟨by omega,rfl,rfl,by omega,by omega,?_⟩
  rw [Int.toNat_natCast,List.take_left' rfl,hn.2])
 refine ⟨hy.2.2,?_,?_⟩
 ·
  rw [hy.1,t8,tr,h1.2,Int.toNat_natCast,List.take_left' rfl]
 ·
  rw [hy.2.1,t8,h1.2]
theorem zen (t:List UInt8) (h:zaU t=true):(zap t).length≤20000∧zc8 t=16+((zap t).length:Int)∧t=zaj (zap t)++t.drop (16+(zap t).length):=by
 have hp:=of_decide_eq_true h
 have hy:=zeo t hp
 obtain ⟨h16,b1,b2,hn,hle,hh⟩:=hp
 have nb:=zel (t.take 8)
 have e1:=zkm _ b1
 have e2:=zkm _ b2
 rw [zej _ nb.1 nb.2] at e1
 have hb:=zel ((t.drop 8).take 8)
 rw [zej _ hb.1 hb.2] at e2
 obtain ⟨k,hk⟩:=Int.eq_ofNat_of_zero_le nb.1
 rw [hk] at e1 hn hle hh
 have hyT:=hy.1
 have hyN:=hy.2.1
 rw [hk] at hyT hyN
 rw [Int.toNat_natCast] at hyT e1 hh
 have hlen:(zap t).length=k:=by rw [hyT,List.length_take,List.length_drop];omega
 refine ⟨by omega,by rw [hyN,hlen],?_⟩
 have e3:t=t.take 8++((t.drop 8).take 8++((t.drop 16).take k++t.drop (16+k))):=by
  have d16:t.drop 16=(t.drop 8).drop 8:=by rw [List.drop_drop]
  have dk:t.drop (16+k)=(t.drop 16).drop k:=by rw [List.drop_drop]
  rw [dk,List.take_append_drop,d16,List.take_append_drop,List.take_append_drop]
 have hh2:(zbx (zap t)).toNat=(zbd ((t.drop 8).take 8)).toNat:=by rw [hyT,hh]
 unfold zaj
 rw [hlen,hh2,e1,e2,hyT,List.append_assoc,List.append_assoc]
 exact e3
end
end Go.Proofs.YtdbljnddkbpanaaGreatDoor
