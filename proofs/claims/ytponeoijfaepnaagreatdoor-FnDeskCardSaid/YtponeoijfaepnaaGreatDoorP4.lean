/-
  Parts of one proof, one behind the other: Math8, Math8R, MathF, MathH, MathX, Math2, Math2F, Math18.
-/
import Derived.Test.YtponeoijfaepnaaGreatDoorP3
namespace Go.Proofs.YtponeoijfaepnaaGreatDoor
open Go.RowKit
theorem ziq:∀ x:List UInt8,Op.bytesLess x x=false
 | []=>rfl
 | a :: r=>by simp [Op.bytesLess,ziq r]
theorem zeX:∀ {x y z:List UInt8},Op.bytesLess x y=true→Op.bytesLess y z=true→Op.bytesLess x z=true
 | x,y,[],_,h=>by cases y<;>simp [Op.bytesLess] at h
 | [],y,c :: z,_,_=>rfl
 | a :: x,[],c :: z,h,_=>by simp [Op.bytesLess] at h
 | a :: x,b :: y,c :: z,h,k=>by
  simp only [Op.bytesLess,Bool.or_eq_true,decide_eq_true_eq,Bool.and_eq_true,beq_iff_eq] at h k ⊢;rcases h with h | ⟨rfl,h⟩
  ·
   rcases k with k | ⟨rfl,k⟩
   ·exact Or.inl (UInt8.lt_trans h k)
   ·exact Or.inl h
  ·
   rcases k with k | ⟨rfl,k⟩
   ·exact Or.inl k
   ·exact Or.inr ⟨rfl,zeX h k⟩
theorem zkI:∀ {x y:List UInt8},Op.bytesLess x y=false→Op.bytesLess y x=false→x=y
 | [],[],_,_=>rfl
 | [],b :: y,h,_=>by simp [Op.bytesLess] at h
 | a :: x,[],_,k=>by simp [Op.bytesLess] at k
 | a :: x,b :: y,h,k=>by
  simp only [Op.bytesLess,Bool.or_eq_false_iff,decide_eq_false_iff_not,Bool.and_eq_false_iff,beq_eq_false_iff_ne] at h k
  have hab:a=b:=by have h1:=h.1;have h2:=k.1;rw [UInt8.lt_iff_toNat_lt] at h1 h2;exact UInt8.toNat_inj.1 (by omega)
  subst hab;rw [zkI (h.2.resolve_left (by simp)) (k.2.resolve_left (by simp))]
theorem leT_no {a b:List UInt8}:leT b a=false↔Op.bytesLess a b=true:=by
 unfold leT;rw [Bool.or_eq_false_iff,beq_eq_false_iff_ne];constructor
 ·
  rintro ⟨h,hne⟩;rcases hx:Op.bytesLess a b with _ | _
  ·exact absurd (zkI h hx) hne
  ·rfl
 ·
  intro h;refine ⟨?_,fun e=>?_⟩
  ·
   rcases hx:Op.bytesLess b a with _ | _
   ·rfl
   ·have:=zeX h hx;rw [ziq] at this;cases this
  ·subst e;rw [ziq] at h;cases h
def Rise (ts:List (List UInt8)):Prop:=ts.Pairwise (fun a b=>Op.bytesLess a b=true)
theorem Rise.nodup {ts:List (List UInt8)} (h:Rise ts):ts.Nodup:=h.imp (fun {a b} hab e=>by subst e;rw [ziq] at hab;cases hab)
theorem znV {ts:List (List UInt8)} (h:∀ i,i+1<ts.length→Op.bytesLess (ts.getD i []) (ts.getD (i+1) [])=true):Rise ts:=by
 have hd:∀ d i,i+d+1<ts.length→Op.bytesLess (ts.getD i []) (ts.getD (i+d+1) [])=true:=by
  intro d
  induction d with
  | zero=>intro i hi;exact h i hi
  | succ d ih=>intro i hi;exact zeX (ih i (by omega)) (h (i+d+1) (by omega))
 refine List.pairwise_iff_getElem.2 (fun i j hi hj hij=>?_);have hh:=hd (j-i-1) i (by omega);rw [show i+(j-i-1)+1=j by omega] at hh
 simpa [List.getD,hi,hj] using hh
theorem rise_of {ts:List (List UInt8)} (h:zfl ts=true):Rise ts:=by
 unfold zfl at h;exact znV (fun i hi=>leT_no.1 ((of_decide_eq_true h) i (by omega)))
def za4 (ps:List Pk):List (List UInt8):=ps.map (·.1)
def pj8 (ps:List Pk) (i:Nat):Prop:=pkgB (ps.getD i pk0)=true∧(0<i→leT (ps.getD i pk0).1 (ps.getD (i-1) pk0).1=false)
instance (ps:List Pk) (i:Nat):Decidable (pj8 ps i):=by unfold pj8;infer_instance
def zaK (ps:List Pk):Bool:=decide (∀ i,i<ps.length→pj8 ps i) && inB (ps.length:Int) 1 8
theorem zg9 {ps:List Pk} {i:Nat} (hi:i<ps.length) (h:¬pj8 ps i):zaK ps=false:=by unfold zaK;rw [decide_eq_false (fun g=>h (g i hi))];rfl
theorem zjh {ps:List Pk} (h:∀ i,i<ps.length→pj8 ps i):zaK ps=inB (ps.length:Int) 1 8:=by unfold zaK;rw [decide_eq_true h];rfl
theorem zaf {ps:List Pk} (h:zaK ps=true):Rise (za4 ps)∧(1≤ps.length∧ps.length≤8)∧∀ p∈ps,pkgB p=true:=by
 unfold zaK at h;rw [Bool.and_eq_true,decide_eq_true_eq] at h;have hn:1≤(ps.length:Int)∧(ps.length:Int)≤8:=by have:=h.2;unfold inB at this;exact of_decide_eq_true this
 refine ⟨znV (fun i hi=>?_),by omega,fun p hp=>?_⟩
 ·
  have hi2:i+1<ps.length:=by simpa [za4] using hi
  have h1:=(h.1 (i+1) hi2).2 (by omega)
  have e:∀ j,(za4 ps).getD j []=(ps.getD j pk0).1:=fun j=>by
   unfold za4;rw [List.getD_eq_getElem?_getD,List.getD_eq_getElem?_getD,List.getElem?_map];cases ps[j]?<;>rfl
  rw [e,e];exact leT_no.1 h1
 ·
  obtain ⟨i,hi,rfl⟩:=List.mem_iff_getElem.1 hp;have h1:=(h.1 i hi).1
  simpa [List.getD,hi] using h1
def zc8 (s:List UInt8):List Pk→Nat→Int
 | [],_=>-1
 | p :: r,k=>if p.1=s then (k:Int) else zc8 s r (k+1)
def at8 (ps:List Pk) (s:List UInt8):Int:=zc8 s ps 0
theorem zhX {ps:List Pk} {k:Nat} (hk:k<ps.length) (s:List UInt8):zc8 s (ps.drop k) k=if (ps.getD k pk0).1=s then (k:Int) else zc8 s (ps.drop (k+1)) (k+1):=by
 rw [List.drop_eq_getElem_cons hk,zc8];have:ps.getD k pk0=ps[k]:=by rw [List.getD_eq_getElem?_getD,List.getElem?_eq_getElem hk];rfl
 rw [this]
theorem zkc (s:List UInt8):∀ (ps:List Pk) (k:Nat),(s∈za4 ps∧0≤zc8 s ps k∧(k:Int)≤zc8 s ps k∧zc8 s ps k<k+ps.length)∨(¬s∈za4 ps∧zc8 s ps k=-1)
 | [],k=>Or.inr ⟨by simp [za4],rfl⟩
 | p :: r,k=>by
  rw [zc8];by_cases h:p.1=s
  ·rw [if_pos h];exact Or.inl ⟨by simp [za4,h],by omega,by omega,by simp;omega⟩
  ·
   rw [if_neg h];rcases zkc s r (k+1) with ⟨h1,h2,h3,h4⟩ | ⟨h1,h2⟩
   ·exact Or.inl ⟨by simp only [za4,List.map_cons,List.mem_cons];exact Or.inr h1,h2,by omega,by simp;omega⟩
   ·exact Or.inr ⟨by simp only [za4,List.map_cons,List.mem_cons];rintro (e | e);exact h e.symm;exact h1 e,h2⟩
theorem zdB (ps:List Pk) (s:List UInt8):0≤at8 ps s↔s∈za4 ps:=by
 rcases zkc s ps 0 with ⟨h1,h2,_⟩ | ⟨h1,h2⟩
 ·exact ⟨fun _=>h1,fun _=>h2⟩
 ·unfold at8;exact ⟨fun h=>by omega,fun h=>absurd h h1⟩
def zd6 (ps:List Pk) (out:List (List UInt8)) (p:Pk):Prop:=¬p.1∈out∧∀ m∈p.2.1,m∈za4 ps→m∈out
instance (ps:List Pk) (out:List (List UInt8)) (p:Pk):Decidable (zd6 ps out p):=by unfold zd6;infer_instance
def zd3 (ps:List Pk) (out:List (List UInt8)):Option Pk:=ps.find? (fun p=>decide (zd6 ps out p))
def zbP (ps:List Pk):Nat→List (List UInt8)→List (List UInt8)
 | 0,out=>out
 | n+1,out=>match zd3 ps out with
  | none=>out
  | some p=>zbP ps n (out++[p.1])
def zaz (ps:List Pk):List (List UInt8):=zbP ps (ps.length+1) []
theorem zmX {ps:List Pk} {out:List (List UInt8)} (h:zd3 ps out=none):∀ p∈ps,¬zd6 ps out p:=fun p hp hf=>by
 unfold zd3 at h;rw [List.find?_eq_none] at h;exact h p hp (decide_eq_true hf)
theorem zhD {ps:List Pk} {out:List (List UInt8)} {p:Pk} (h:zd3 ps out=some p):p∈ps∧zd6 ps out p :=
 ⟨List.mem_of_find?_eq_some h,of_decide_eq_true (List.find?_some (p:=fun p=>decide (zd6 ps out p)) h)⟩
structure Or8 (ps:List Pk) (out:List (List UInt8)):Prop where
 nd:out.Nodup
 sub:∀ x∈out,x∈za4 ps
 need:∀ p∈ps,p.1∈out→∀ m∈p.2.1,m∈za4 ps→m∈out.takeWhile (fun x=>decide (x≠p.1))
theorem zkC (ps:List Pk):Or8 ps []:=⟨List.nodup_nil,fun x hx=>by simp at hx,fun p _ h=>by simp at h⟩
theorem Or8.len {ps:List Pk} {out:List (List UInt8)} (h:Or8 ps out):out.length≤ps.length:=by
 have:=h.nd.length_le_of_subset (fun x hx=>h.sub x hx)
 simpa [za4] using this
theorem znF {out:List (List UInt8)} {x n:List UInt8} (h:x∈out):(out++[n]).takeWhile (fun y=>decide (y≠x))=out.takeWhile (fun y=>decide (y≠x)):=by
 induction out with
 | nil=>simp at h
 | cons a r ih =>
  by_cases e:a=x
  ·subst e;simp [List.takeWhile]
  ·
   have h2:x∈r:=by
    rcases List.mem_cons.1 h with h | h
    ·exact absurd h.symm e
    ·exact h
   simp only [List.cons_append,List.takeWhile_cons];rw [if_pos (by simpa using e),if_pos (by simpa using e),ih h2]
theorem zlA {out:List (List UInt8)} {x:List UInt8} (h:¬x∈out):out.takeWhile (fun y=>decide (y≠x))=out:=by
 induction out with
 | nil=>rfl
 | cons a r ih =>
  simp only [List.mem_cons,not_or] at h;rw [List.takeWhile_cons,if_pos (by simpa using fun e=>h.1 e.symm),ih h.2]
theorem Or8.step {ps:List Pk} (hn:(za4 ps).Nodup) {out:List (List UInt8)} (h:Or8 ps out) {p:Pk} (hp:zd3 ps out=some p):Or8 ps (out++[p.1]):=by
 obtain ⟨hm,hf⟩:=zhD hp;refine ⟨List.nodup_append.2 ⟨h.nd,by simp,fun a ha b hb=>by rw [List.mem_singleton] at hb;subst hb;intro e;subst e;exact hf.1 ha⟩,fun x hx=>?_,fun q hq hqo m hmq hmn=>?_⟩
 ·
  rw [List.mem_append,List.mem_singleton] at hx;rcases hx with hx | rfl
  ·exact h.sub x hx
  ·exact List.mem_map.2 ⟨p,hm,rfl⟩
 ·
  by_cases hqi:q.1∈out
  ·rw [znF hqi];exact h.need q hq hqi m hmq hmn
  ·
   rw [List.mem_append,List.mem_singleton] at hqo;have e:q.1=p.1:=hqo.resolve_left hqi
   have hqp:q=p:=by
    obtain ⟨i,hi,rfl⟩:=List.mem_iff_getElem.1 hq;obtain ⟨j,hj,rfl⟩:=List.mem_iff_getElem.1 hm
    have hij:i=j:=by
     have h1:(za4 ps)[i]'(by simpa [za4] using hi)=(za4 ps)[j]'(by simpa [za4] using hj):=by simpa [za4] using e
     exact (List.getElem_inj hn).1 h1
    subst hij;rfl
   subst hqp
   have e2:(out++[q.1]).takeWhile (fun y=>decide (y≠q.1))=out:=by have:=zlA hqi;rw [List.takeWhile_append,this];simp
   rw [e2];exact hf.2 m hmq hmn
theorem zgw {ps:List Pk} (hn:(za4 ps).Nodup):∀ (n:Nat) (out:List (List UInt8)),Or8 ps out→ps.length<n+out.length→Or8 ps (zbP ps n out)∧zd3 ps (zbP ps n out)=none
 | 0,out,h,hl=>by have:=h.len;omega
 | n+1,out,h,hl=>by
  rw [zbP];rcases hx:zd3 ps out with _ | p
  ·exact ⟨h,hx⟩
  ·exact zgw hn n (out++[p.1]) (h.step hn hx) (by rw [List.length_append,List.length_singleton];omega)
theorem zbJ {ps:List Pk} (h:zaK ps=true):Or8 ps (zaz ps)∧zd3 ps (zaz ps)=none :=
 zgw (zaf h).1.nodup _ _ (zkC ps) (by simp)
theorem zfK {ps:List Pk} {out:List (List UInt8)} (n:Nat) (h:zd3 ps out=none):zbP ps n out=out:=by
 cases n with
 | zero=>rfl
 | succ n=>rw [zbP,h]
theorem zfJ {ps:List Pk} {out:List (List UInt8)} {p:Pk} (n:Nat) (h:zd3 ps out=some p):zbP ps (n+1) out=zbP ps n (out++[p.1]):=by rw [zbP,h]
def low8 (s:List UInt8):List (List UInt8)→Nat
 | []=>0
 | x :: r=>if Op.bytesLess x s=true then low8 s r+1 else 0
theorem zou (s:List UInt8):∀ ts,low8 s ts≤ts.length
 | []=>Nat.le_refl _
 | x :: r=>by unfold low8;split<;>simp;exact zou s r
theorem zkJ (s:List UInt8):∀ (ts:List (List UInt8)) (k:Nat),(∀ i,i<k→Op.bytesLess (ts.getD i []) s=true)→k≤ts.length→(k=ts.length∨Op.bytesLess (ts.getD k []) s=false)→low8 s ts=k
 | [],k,_,h,_=>by simp at h;subst h;rfl
 | x :: r,0,_,_,h=>by
  rcases h with h | h
  ·simp at h
  ·unfold low8;rw [if_neg (by simpa using h)]
 | x :: r,k+1,h1,h2,h3=>by
  have h0:=h1 0 (by omega);unfold low8;rw [if_pos (by simpa using h0)];rw [zkJ s r k (fun i hi=>by simpa using h1 (i+1) (by omega)) (by simpa using h2) (by rcases h3 with h | h;exact Or.inl (by simpa using h);exact Or.inr (by simpa using h))]
def put8 (ts:List (List UInt8)) (s:List UInt8):List (List UInt8):=if ts[low8 s ts]?=some s then ts else ts.take (low8 s ts)++s :: ts.drop (low8 s ts)
theorem zcf {ts:List (List UInt8)} {s x:List UInt8}:x∈put8 ts s↔x=s∨x∈ts:=by
 unfold put8
 split
 ·rename_i h;exact ⟨Or.inr,fun g=>g.elim (fun e=>by rw [e];exact List.mem_of_getElem? h) id⟩
 ·
  have e:=List.take_append_drop (low8 s ts) ts;rw [List.mem_append,List.mem_cons];constructor
  ·
   rintro (h | h | h)
   ·exact Or.inr (List.mem_of_mem_take h)
   ·exact Or.inl h
   ·exact Or.inr (List.mem_of_mem_drop h)
  ·
   rintro (h | h)
   ·exact Or.inr (Or.inl h)
   ·
    rw [←e,List.mem_append] at h;rcases h with h | h
    ·exact Or.inl h
    ·exact Or.inr (Or.inr h)
theorem zjg {s:List UInt8}:∀ {ts:List (List UInt8)},Rise ts→Rise (put8 ts s)
 | [],_=>by simp [put8,low8,Rise]
 | x :: r,h=>by
  have hx:=List.pairwise_cons.1 h;by_cases hl:Op.bytesLess x s=true
  ·
   have ih:=zjg (s:=s) (ts:=r) hx.2
   have e:put8 (x :: r) s=x :: put8 r s:=by
    unfold put8;rw [show low8 s (x :: r)=low8 s r+1 by rw [low8,if_pos hl]];rw [List.getElem?_cons_succ]
    split
    ·rfl
    ·rfl
   rw [e];refine List.pairwise_cons.2 ⟨fun y hy=>?_,ih⟩;rcases zcf.1 hy with rfl | hy
   ·exact hl
   ·exact hx.1 y hy
  ·
   have hl0:low8 s (x :: r)=0:=by rw [low8,if_neg hl]
   unfold put8;rw [hl0];simp only [List.getElem?_cons_zero,Option.some.injEq,List.take_zero,List.drop_zero,List.nil_append]
   split
   ·exact h
   ·
    rename_i hne
    have hsx:Op.bytesLess s x=true:=by
     rcases hb:Op.bytesLess s x with _ | _
     ·exact absurd (zkI (by simpa using hl) hb) hne
     ·rfl
    refine List.pairwise_cons.2 ⟨fun y hy=>?_,h⟩;rcases List.mem_cons.1 hy with rfl | hy
    ·exact hsx
    ·exact zeX hsx (hx.1 y hy)
theorem put8_len (ts:List (List UInt8)) (s:List UInt8):ts.length≤(put8 ts s).length∧(put8 ts s).length≤ts.length+1:=by
 unfold put8;have h:=zou s ts
 split
 ·omega
 ·rw [List.length_append,List.length_cons,List.length_take,List.length_drop];omega
def in8 (ps:List Pk) (o:List (List UInt8)) (m:List UInt8):List (List UInt8):=if m∈za4 ps then put8 o m else o
def zdg (ps:List Pk) (o ms:List (List UInt8)):List (List UInt8):=ms.foldl (in8 ps) o
def zdF (ps:List Pk) (o:List (List UInt8)) (p:Pk):List (List UInt8):=if p.1∈o then zdg ps o p.2.1 else o
def zd9 (ps qs:List Pk) (o:List (List UInt8)):List (List UInt8):=qs.foldl (zdF ps) o
def zcr (ps:List Pk):Nat→List (List UInt8)→List (List UInt8)
 | 0,o=>o
 | n+1,o=>if (zd9 ps ps o).length=o.length then zd9 ps ps o else zcr ps n (zd9 ps ps o)
def zcw (ps:List Pk) (s:List UInt8):List (List UInt8):=zcr ps (ps.length+1) [s]
structure Re8 (ps:List Pk) (s:List UInt8) (o:List (List UInt8)):Prop where
 rise:Rise o
 sub:∀ x∈o,x∈za4 ps
 self:s∈o
 why:∀ x∈o,x=s∨∃ p∈ps,p.1∈o∧x∈p.2.1
theorem Re8.len {ps:List Pk} {s:List UInt8} {o:List (List UInt8)} (h:Re8 ps s o):o.length≤ps.length:=by
 have:=h.rise.nodup.length_le_of_subset (fun x hx=>h.sub x hx)
 simpa [za4] using this
theorem Re8.put {ps:List Pk} {s:List UInt8} {o:List (List UInt8)} (h:Re8 ps s o) {p:Pk} (hp:p∈ps) (hpo:p.1∈o) {m:List UInt8} (hm:m∈p.2.1):Re8 ps s (in8 ps o m):=by
 unfold in8
 split
 ·
  rename_i hn;refine ⟨zjg h.rise,fun x hx=>?_,zcf.2 (Or.inr h.self),fun x hx=>?_⟩
  ·
   rcases zcf.1 hx with rfl | hx
   ·exact hn
   ·exact h.sub x hx
  ·
   rcases zcf.1 hx with rfl | hx
   ·exact Or.inr ⟨p,hp,zcf.2 (Or.inr hpo),hm⟩
   ·
    rcases h.why x hx with e | ⟨q,hq,hqo,hxq⟩
    ·exact Or.inl e
    ·exact Or.inr ⟨q,hq,zcf.2 (Or.inr hqo),hxq⟩
 ·exact h
theorem zoD {ps:List Pk} {o:List (List UInt8)} {m x:List UInt8} (h:x∈o):x∈in8 ps o m:=by
 unfold in8
 split
 ·exact zcf.2 (Or.inr h)
 ·exact h
theorem ze4 {ps:List Pk} {x:List UInt8}:∀ (ms o:List (List UInt8)),x∈o→x∈zdg ps o ms
 | [],_,h=>h
 | m :: r,o,h=>ze4 r (in8 ps o m) (zoD h)
theorem zhH {ps:List Pk} {x:List UInt8} (hx:x∈za4 ps):∀ (ms o:List (List UInt8)),x∈ms→x∈zdg ps o ms
 | m :: r,o,h=>by
  rcases List.mem_cons.1 h with rfl | h
  ·refine ze4 r (in8 ps o x) ?_;unfold in8;rw [if_pos hx];exact zcf.2 (Or.inl rfl)
  ·exact zhH hx r (in8 ps o m) h
theorem Re8.inner {ps:List Pk} {s:List UInt8} {p:Pk} (hp:p∈ps):∀ (ms o:List (List UInt8)),Re8 ps s o→p.1∈o→(∀ m∈ms,m∈p.2.1)→Re8 ps s (zdg ps o ms)
 | [],_,h,_,_=>h
 | m :: r,o,h,hpo,hm=>Re8.inner hp r (in8 ps o m) (h.put hp hpo (hm m List.mem_cons_self)) (zoD hpo) (fun x hx=>hm x (List.mem_cons_of_mem _ hx))
theorem Re8.pass {ps:List Pk} {s:List UInt8} {o:List (List UInt8)} (h:Re8 ps s o) {p:Pk} (hp:p∈ps):Re8 ps s (zdF ps o p):=by
 unfold zdF
 split
 ·rename_i hpo;exact Re8.inner hp _ _ h hpo (fun m hm=>hm)
 ·exact h
theorem zjk {ps:List Pk} {o:List (List UInt8)} {p:Pk} {x:List UInt8} (h:x∈o):x∈zdF ps o p:=by
 unfold zdF
 split
 ·exact ze4 _ _ h
 ·exact h
theorem zdG {ps:List Pk} {x:List UInt8}:∀ (qs:List Pk) (o:List (List UInt8)),x∈o→x∈zd9 ps qs o
 | [],_,h=>h
 | p :: r,o,h=>zdG r (zdF ps o p) (zjk h)
theorem Re8.step {ps:List Pk} {s:List UInt8}:∀ (qs:List Pk) (o:List (List UInt8)),(∀ q∈qs,q∈ps)→Re8 ps s o→Re8 ps s (zd9 ps qs o)
 | [],_,_,h=>h
 | p :: r,o,hq,h=>Re8.step r (zdF ps o p) (fun q hqr=>hq q (List.mem_cons_of_mem _ hqr)) (h.pass (hq p List.mem_cons_self))
theorem zj0 {ps:List Pk} {x:List UInt8} (hx:x∈za4 ps) {p:Pk} (hxp:x∈p.2.1):∀ (qs:List Pk) (o:List (List UInt8)),p∈qs→p.1∈o→x∈zd9 ps qs o
 | q :: r,o,hp,hpo=>by
  rcases List.mem_cons.1 hp with rfl | hp
  ·refine zdG r (zdF ps o p) ?_;unfold zdF;rw [if_pos hpo];exact zhH hx _ _ hxp
  ·exact zj0 hx hxp r (zdF ps o q) hp (zjk hpo)
theorem zlJ {α:Type} [DecidableEq α] {a b:List α} (ha:a.Nodup) (hs:∀ x∈a,x∈b) (hl:b.length=a.length):∀ x∈b,x∈a:=fun x hx=>by
 by_cases h:x∈a
 ·exact h
 ·
  have h1:(x :: a).Nodup:=List.nodup_cons.2 ⟨h,ha⟩
  have:=h1.length_le_of_subset (fun y hy=>by
   rcases List.mem_cons.1 hy with rfl | hy
   ·exact hx
   ·exact hs y hy)
  simp at this;omega
def Shut8 (ps:List Pk) (o:List (List UInt8)):Prop:=∀ p∈ps,p.1∈o→∀ m∈p.2.1,m∈za4 ps→m∈o
theorem shut8_of {ps:List Pk} {s:List UInt8} {o:List (List UInt8)} (h:Re8 ps s o) (hl:(zd9 ps ps o).length=o.length):Shut8 ps (zd9 ps ps o):=fun p hp hpo m hm hn=>by
 have hb:=zlJ h.rise.nodup (fun x hx=>zdG ps o hx) hl;exact zj0 hn hm ps o hp (hb _ hpo)
theorem zgv {ps:List Pk} {s:List UInt8}:∀ (n:Nat) (o:List (List UInt8)),Re8 ps s o→ps.length<n+o.length→Re8 ps s (zcr ps n o)∧Shut8 ps (zcr ps n o)
 | 0,o,h,hl=>by have:=h.len;omega
 | n+1,o,h,hl=>by
  rw [zcr];have h2:=Re8.step ps o (fun q hq=>hq) h
  split
  ·rename_i e;exact ⟨h2,shut8_of h e⟩
  ·rename_i e;have hle:=h.rise.nodup.length_le_of_subset (fun x hx=>zdG (ps:=ps) ps o hx);exact zgv n _ h2 (by omega)
theorem znZ {ps:List Pk} {s:List UInt8} (h:s∈za4 ps):Re8 ps s [s] :=
 ⟨List.pairwise_singleton _ _,fun x hx=>by rw [List.mem_singleton] at hx;rw [hx];exact h,List.mem_singleton.2 rfl,fun x hx=>Or.inl (List.mem_singleton.1 hx)⟩
theorem ze0 {ps:List Pk} {s:List UInt8} (h:s∈za4 ps):Re8 ps s (zcw ps s)∧Shut8 ps (zcw ps s):=zgv _ _ (znZ h) (by simp only [List.length_singleton];omega)
def znb (ps:List Pk) (s:List UInt8):Bool:=zaK ps && decide (0≤at8 ps s)
def zd4 (ps:List Pk) (s:List UInt8):List (List UInt8):=(zaz ps).filter (fun x=>decide (x≠s∧x∈zcw ps s))
def zgD (ps:List Pk) (s:List UInt8):List (List UInt8):=if znb ps s=true then zd4 ps s else []
section
def hvN (n:Nat):Int:=if 48≤n∧n≤57 then (n:Int)-48 else if 97≤n∧n≤102 then (n:Int)-87 else -1
def hv (c:UInt8):Int:=hvN c.toNat
theorem hv_all:∀ n:Nat,n<256→Lib.indexByte [48,49,50,51,52,53,54,55,56,57,97,98,99,100,101,102] (UInt8.ofNat n)=hvN n:=by decide +kernel
theorem hv_idx (c:UInt8):Lib.indexByte [48,49,50,51,52,53,54,55,56,57,97,98,99,100,101,102] ((c.toNat:Int).toNat.toUInt8)=hv c:=by
 have h:=hv_all c.toNat c.toNat_lt
 simpa [hv] using h
theorem zhl (c:UInt8):-1≤hv c∧hv c≤15:=by
 unfold hv hvN;split<;>(try split)<;>omega
def zaH (n:Int) (c:UInt8):Int:=if n=-1∨hv c<0 then -1 else 16*n+hv c
theorem zle (n:Int) (c:UInt8) (h:0≤n) (h1:48≤c.toNat) (h2:c.toNat≤57):zaH n c=16*n+((c.toNat:Int)-48):=by
 have e:hv c=(c.toNat:Int)-48:=by unfold hv hvN;rw [if_pos ⟨h1,h2⟩]
 unfold zaH;rw [if_neg (by omega),e]
theorem zld (n:Int) (c:UInt8) (h:0≤n) (h1:97≤c.toNat) (h2:c.toNat≤102):zaH n c=16*n+((c.toNat:Int)-87):=by
 have e:hv c=(c.toNat:Int)-87:=by unfold hv hvN;rw [if_neg (by omega),if_pos ⟨h1,h2⟩]
 unfold zaH;rw [if_neg (by omega),e]
theorem zjN (n:Int) (c:UInt8) (h:c.toNat<48∨(57<c.toNat∧c.toNat<97)∨102<c.toNat):zaH n c=-1:=by
 have e:hv c=-1:=by unfold hv hvN;rw [if_neg (by omega),if_neg (by omega)]
 unfold zaH;rw [if_pos (by omega)]
def zb6 (l:List UInt8):Int:=l.foldl zaH 0
theorem zf7 (c:UInt8):zaH (-1) c=-1:=by simp [zaH]
theorem zni (l:List UInt8):l.foldl zaH (-1)=-1:=by
 induction l with
 | nil=>rfl
 | cons c r ih=>rw [List.foldl_cons,zf7,ih]
theorem zne (l:List UInt8) (c:UInt8):zb6 (l++[c])=zaH (zb6 l) c:=by
 unfold zb6;rw [List.foldl_append];rfl
theorem zhN (s:ByteArray) (k:Nat) (h:k<s.size):zb6 (s.data.toList.take (k+1))=zaH (zb6 (s.data.toList.take k)) s[k]:=by
 rw [ziY s k h,zne]
theorem zlm (l:List UInt8) (m:Nat) (n:Int) (h0:-1≤n) (h1:n<16 ^ m):-1≤l.foldl zaH n∧l.foldl zaH n<16 ^ (m+l.length):=by
 induction l generalizing n m with
 | nil=>exact ⟨h0,h1⟩
 | cons c r ih =>
  have hb:=zhl c;have e:(16:Int) ^ (m+1)=16*16 ^ m:=by rw [Int.pow_succ];omega
  have hp:(0:Int)<16 ^ m:=Int.pow_pos (by decide)
  have hs:-1≤zaH n c∧zaH n c<16 ^ (m+1):=by
   unfold zaH
   split
   ·omega
   ·rw [e];omega
  have h:=ih (m+1) (zaH n c) hs.1 hs.2;rw [List.foldl_cons,List.length_cons,show m+(r.length+1)=m+1+r.length by omega];exact h
theorem fromL_bd (l:List UInt8):-1≤zb6 l∧zb6 l<16 ^ l.length:=by
 have h:=zlm l 0 0 (by decide) (by decide);rw [Nat.zero_add] at h;exact h
theorem zgd (l:List UInt8) (h:l.length≤8):-1≤zb6 l∧zb6 l≤4294967295:=by
 have hb:=fromL_bd l;have hn:16 ^ l.length≤16 ^ 8:=Nat.pow_le_pow_right (by decide) h;have:(16:Int) ^ l.length≤16 ^ 8:=by exact_mod_cast hn
 omega
theorem zli (s:ByteArray) (k:Nat) (h1:zb6 (s.data.toList.take k)=-1):zb6 s.data.toList=-1:=by
 have e:s.data.toList=s.data.toList.take k++s.data.toList.drop k:=(List.take_append_drop k _).symm;rw [e];unfold zb6 at *;rw [List.foldl_append,h1,zni]
def zc4 (l:List UInt8):Bool:=decide (l.length=8∧zb6 l≠-1)
def zbg (l:List UInt8):Int:=if l.length=8∧zb6 l≠-1 then zb6 l else 0
theorem ziD (l:List UInt8) (h:l.length≠8∨zb6 l=-1):zc4 l=false∧zbg l=0:=by
 unfold zc4 zbg;have:¬(l.length=8∧zb6 l≠-1):=by rcases h with h | h<;>simp [h]
 rw [if_neg this];simp [this]
theorem ziC (l:List UInt8) (h:l.length=8) (h1:zb6 l≠-1):zc4 l=true∧zbg l=zb6 l:=by
 unfold zc4 zbg;have:l.length=8∧zb6 l≠-1:=⟨h,h1⟩;rw [if_pos this];simp [this]
end
section

end
section
theorem hexD_hvN:∀ n:Nat,n<256→hvN n=-1∨hexD (hvN n).toNat=UInt8.ofNat n:=by decide +kernel
theorem zdQ (c:UInt8) (h:0≤hv c):hexD (hv c).toNat=c:=by
 rcases hexD_hvN c.toNat c.toNat_lt with e | e
 ·unfold hv at h;omega
 ·unfold hv;rw [e];simp
theorem zbG (n:Int) (c:UInt8) (h:zaH n c≠-1):n≠-1∧0≤hv c∧zaH n c=16*n+hv c:=by
 unfold zaH at h ⊢
 split at h
 ·exact absurd rfl h
 ·rename_i hc;rw [if_neg hc];exact ⟨fun e=>hc (Or.inl e),by omega,rfl⟩
theorem zoO (l:List UInt8) (h8:l.length=8) (h:zb6 l≠-1):hexL (zb6 l).toNat=l∧0≤zb6 l∧zb6 l≤4294967295:=by
 match l,h8 with
 | [a,b,c,d,e,f,g,i],_ =>
  unfold zb6 at h ⊢;simp only [List.foldl_cons,List.foldl_nil] at h ⊢;obtain ⟨h7,v7,e7⟩:=zbG _ _ h;obtain ⟨h6,v6,e6⟩:=zbG _ _ h7;obtain ⟨h5,v5,e5⟩:=zbG _ _ h6;obtain ⟨h4,v4,e4⟩:=zbG _ _ h5;obtain ⟨h3,v3,e3⟩:=zbG _ _ h4;obtain ⟨h2,v2,e2⟩:=zbG _ _ h3;obtain ⟨h1,v1,e1⟩:=zbG _ _ h2;obtain ⟨_,v0,e0⟩:=zbG _ _ h1;rw [e7,e6,e5,e4,e3,e2,e1,e0];have b0:=(zhl a).2;have b1:=(zhl b).2;have b2:=(zhl c).2;have b3:=(zhl d).2;have b4:=(zhl e).2;have b5:=(zhl f).2;have b6:=(zhl g).2;have b7:=(zhl i).2;have k0:=zdQ a v0;have k1:=zdQ b v1;have k2:=zdQ c v2;have k3:=zdQ d v3;have k4:=zdQ e v4;have k5:=zdQ f v5;have k6:=zdQ g v6;have k7:=zdQ i v7;clear h h1 h2 h3 h4 h5 h6 h7 e0 e1 e2 e3 e4 e5 e6 e7;refine ⟨?_,by omega,by omega⟩;generalize hv a=x0 at *;generalize hv b=x1 at *;generalize hv c=x2 at *;generalize hv d=x3 at *;generalize hv e=x4 at *;generalize hv f=x5 at *;generalize hv g=x6 at *;generalize hv i=x7 at *;obtain ⟨y0,rfl⟩:=Int.eq_ofNat_of_zero_le v0;obtain ⟨y1,rfl⟩:=Int.eq_ofNat_of_zero_le v1;obtain ⟨y2,rfl⟩:=Int.eq_ofNat_of_zero_le v2;obtain ⟨y3,rfl⟩:=Int.eq_ofNat_of_zero_le v3;obtain ⟨y4,rfl⟩:=Int.eq_ofNat_of_zero_le v4;obtain ⟨y5,rfl⟩:=Int.eq_ofNat_of_zero_le v5;obtain ⟨y6,rfl⟩:=Int.eq_ofNat_of_zero_le v6;obtain ⟨y7,rfl⟩:=Int.eq_ofNat_of_zero_le v7;have e:(16*(16*(16*(16*(16*(16*(16*(16*(0:Int)+y0)+y1)+y2)+y3)+y4)+y5)+y6)+y7).toNat=16*(16*(16*(16*(16*(16*(16*y0+y1)+y2)+y3)+y4)+y5)+y6)+y7:=by omega
  rw [e];unfold hexL;simp only [Int.toNat_natCast] at k0 k1 k2 k3 k4 k5 k6 k7;generalize hN:16*(16*(16*(16*(16*(16*(16*y0+y1)+y2)+y3)+y4)+y5)+y6)+y7=N;rw [show N / 268435456 % 16=y0 by omega,show N / 16777216 % 16=y1 by omega,show N / 1048576 % 16=y2 by omega,show N / 65536 % 16=y3 by omega,show N / 4096 % 16=y4 by omega,show N / 256 % 16=y5 by omega,show N / 16 % 16=y6 by omega,show N % 16=y7 by omega];rw [k0,k1,k2,k3,k4,k5,k6,k7]
theorem zjO (l:List UInt8) (h:zc4 l=true):hexS (zbg l)=l:=by
 have hp:l.length=8∧zb6 l≠-1:=of_decide_eq_true h;have h2:=zoO l hp.1 hp.2;rw [(ziC l hp.1 hp.2).2,ze6 _ h2.2.1 h2.2.2];exact h2.1
end
section
def zbH (l:List UInt8):List UInt8:=hexL l.length++hexL (zbZ l).toNat++l
def zd7 (l:List UInt8):List UInt8:=if l.length≤20000 then zbH l else []
theorem zcd (l:List UInt8) (h:l.length≤20000):zd7 l=zbH l:=if_pos h
theorem znh (l:List UInt8) (h:20000<l.length):zd7 l=[]:=if_neg (by omega)
def zb1 (l:List UInt8):Bool :=
 decide (16≤l.length∧zc4 (l.take 8)=true∧zc4 ((l.drop 8).take 8)=true∧zbg (l.take 8)≤20000∧16+zbg (l.take 8)≤(l.length:Int) ∧
  zbZ ((l.drop 16).take (zbg (l.take 8)).toNat)=zbg ((l.drop 8).take 8))
def zax (l:List UInt8):List UInt8:=if zb1 l=true then (l.drop 16).take (zbg (l.take 8)).toNat else []
def zcn (l:List UInt8):Int:=if zb1 l=true then 16+zbg (l.take 8) else 0
theorem zco (l:List UInt8) (h:¬(16≤l.length∧zc4 (l.take 8)=true∧zc4 ((l.drop 8).take 8)=true∧zbg (l.take 8)≤20000∧16+zbg (l.take 8)≤(l.length:Int) ∧
 zbZ ((l.drop 16).take (zbg (l.take 8)).toNat)=zbg ((l.drop 8).take 8))):zax l=[]∧zcn l=0∧zb1 l=false:=by
 have hb:zb1 l=false:=decide_eq_false h;unfold zax zcn;rw [hb];simp
theorem zfA (l:List UInt8) (h:16≤l.length∧zc4 (l.take 8)=true∧zc4 ((l.drop 8).take 8)=true∧zbg (l.take 8)≤20000∧16+zbg (l.take 8)≤(l.length:Int) ∧
 zbZ ((l.drop 16).take (zbg (l.take 8)).toNat)=zbg ((l.drop 8).take 8)):zax l=(l.drop 16).take (zbg (l.take 8)).toNat∧zcn l=16+zbg (l.take 8)∧zb1 l=true:=by
 have hb:zb1 l=true:=decide_eq_true h;unfold zax zcn;rw [hb];simp
theorem ze8 (l:List UInt8):0≤zbg l∧zbg l≤4294967295:=by
 unfold zbg
 split
 ·rename_i h;have:=zgd l (by omega);omega
 ·omega
end
section
theorem zm4 (n:Nat):(hexL n).length=8:=rfl
theorem zcQ (l:List UInt8):(zbH l).length=16+l.length:=by
 unfold zbH;rw [List.length_append,List.length_append,zm4,zm4]
theorem zf9 (t:List UInt8) (h:zb1 t=true):(zax t).length≤20000∧zcn t=16+((zax t).length:Int)∧t=zbH (zax t)++t.drop (16+(zax t).length):=by
 have hp:=of_decide_eq_true h;have hy:=zfA t hp;obtain ⟨h16,b1,b2,hn,hle,hh⟩:=hp;have nb:=ze8 (t.take 8);have e1:=zjO _ b1;have e2:=zjO _ b2;rw [ze6 _ nb.1 nb.2] at e1;have hb:=ze8 ((t.drop 8).take 8);rw [ze6 _ hb.1 hb.2] at e2;obtain ⟨k,hk⟩:=Int.eq_ofNat_of_zero_le nb.1;rw [hk] at e1 hn hle hh;have hyT:=hy.1;have hyN:=hy.2.1;rw [hk] at hyT hyN;rw [Int.toNat_natCast] at hyT e1 hh;have hlen:(zax t).length=k:=by rw [hyT,List.length_take,List.length_drop];omega
 refine ⟨by omega,by rw [hyN,hlen],?_⟩
 have e3:t=t.take 8++((t.drop 8).take 8++((t.drop 16).take k++t.drop (16+k))):=by
  have d16:t.drop 16=(t.drop 8).drop 8:=by rw [List.drop_drop]
  have dk:t.drop (16+k)=(t.drop 16).drop k:=by rw [List.drop_drop]
  rw [dk,List.take_append_drop,d16,List.take_append_drop,List.take_append_drop]
 have hh2:(zbZ (zax t)).toNat=(zbg ((t.drop 8).take 8)).toNat:=by rw [hyT,hh]
 unfold zbH;rw [hlen,hh2,e1,e2,hyT,List.append_assoc,List.append_assoc];exact e3
end
abbrev Ta:=List UInt8 × List Int × Int × Int × Int × Int
abbrev Dk:=List Ta × Int × Int × List UInt8
def ta0:Ta:=([],[],0,0,0,0)
def dk0:Dk:=([],0,0,[])
def zbi (k:Int):Bool:=inB k 0 2147483646
def zbl (own:Int) (ns:List Int) (i:Nat):Prop:=0≤ns.getD i 0∧ns.getD i 0<own∧(0<i→ns.getD (i-1) 0<ns.getD i 0)
instance (own:Int) (ns:List Int) (i:Nat):Decidable (zbl own ns i):=by unfold zbl;infer_instance
def zcL (own:Int) (ns:List Int):Bool:=decide (∀ i,i<ns.length→zbl own ns i)
def zcv (t:Ta):Bool :=
 if t.2.2.1=0 then decide (t.2.2.2.1=0∧t.2.2.2.2.1=0∧t.2.2.2.2.2=0)
 else if t.2.2.1=1 then inB t.2.2.2.1 0 3 && inB t.2.2.2.2.1 0 1000000 && decide (t.2.2.2.2.2=0)
 else if t.2.2.1=2 then decide (t.2.2.2.1=0∧t.2.2.2.2.1=0) && zbi t.2.2.2.2.2
 else false
def zc1 (own:Int) (t:Ta):Bool:=zcL own t.2.1 && zcv t
def zcA (ts:List Ta) (i:Nat):Prop:=zaE (ts.getD i ta0).1=true∧zc1 (i:Int) (ts.getD i ta0)=true∧∀ k,k<i→(ts.getD k ta0).1≠(ts.getD i ta0).1
instance (ts:List Ta) (i:Nat):Decidable (zcA ts i):=by unfold zcA;infer_instance
def zac (d:Dk):Bool:=decide (1≤d.1.length∧d.1.length≤8) && inB d.2.1 1 1000 && inB d.2.2.1 0 1000000 && decide (d.2.2.2.length≤60000) && decide (∀ i,i<d.1.length→zcA d.1 i)
structure znt (d:Dk):Prop where
 n:1≤d.1.length∧d.1.length≤8
 e:1≤d.2.1∧d.2.1≤1000
 t:0≤d.2.2.1∧d.2.2.1≤1000000
 j:d.2.2.2.length≤60000
 one:∀ i,i<d.1.length→zcA d.1 i
theorem zao {d:Dk}:zac d=true↔znt d:=by
 unfold zac inB;simp only [Bool.and_eq_true,decide_eq_true_eq];exact ⟨fun ⟨⟨⟨⟨h1,h2⟩,h3⟩,h4⟩,h5⟩=>⟨h1,h2,h3,h4,h5⟩,fun h=>⟨⟨⟨⟨h.n,h.e⟩,h.t⟩,h.j⟩,h.one⟩⟩
theorem zjv {own:Int} {ns:List Int} {i:Nat} (hi:i<ns.length) (h:¬zbl own ns i):zcL own ns=false:=decide_eq_false (fun e=>h (e i hi))
theorem zfr {own:Int} {ns:List Int} (h:∀ i,i<ns.length→zbl own ns i):zcL own ns=true:=decide_eq_true h
def zbn (ts:List Ta) (t:Ta):Bool:=decide (∀ i,i<t.2.1.length→(ts.getD (t.2.1.getD i 0).toNat ta0).2.2.1=2)
theorem zoS {ts:List Ta} {t:Ta} {i:Nat} (hi:i<t.2.1.length) (h:(ts.getD (t.2.1.getD i 0).toNat ta0).2.2.1≠2):zbn ts t=false:=decide_eq_false (fun e=>h (e i hi))
theorem znf {ts:List Ta} {t:Ta} (h:∀ i,i<t.2.1.length→(ts.getD (t.2.1.getD i 0).toNat ta0).2.2.1=2):zbn ts t=true:=decide_eq_true h
def zcq (d:Dk) (i:Nat):Prop:=(d.1.getD i ta0).2.2.1≠2∧zbn d.1 (d.1.getD i ta0)=true∧¬((d.1.getD i ta0).2.2.1=1∧d.2.2.1<(d.1.getD i ta0).2.2.2.2.1)
instance (d:Dk) (i:Nat):Decidable (zcq d i):=by unfold zcq;infer_instance
def zfL (d:Dk):Nat→Nat→Option Nat
 | 0,_=>none
 | k+1,i=>if zcq d i then some i else zfL d k (i+1)
def zdE (d:Dk):Option Nat:=zfL d d.1.length 0
def zbT (d:Dk) (worker:Int) (t:Ta):Ta:=(t.1,t.2.1,1,worker,(if d.2.2.1+10≤1000000 then d.2.2.1+10 else 1000000),t.2.2.2.2.2)
def zbm (d:Dk) (worker:Int):Dk × Int :=
 if inB worker 0 3=true then
  match zdE d with
  | some i=>((d.1.set i (zbT d worker (d.1.getD i ta0)),d.2),(i:Int))
  | none=>(d,-1)
 else (d,-1)
def zbd (d:Dk) (worker:Int):Dk × Int:=if zac d=true then zbm d worker else (dk0,-1)
theorem zdx {d:Dk}:∀ {k i j:Nat},zfL d k i=some j→i≤j∧j<i+k∧zcq d j∧∀ q,i≤q→q<j→¬zcq d q
 | 0,_,_,h=>by cases h
 | k+1,i,j,h=>by
  unfold zfL at h
  split at h
  ·rename_i hc;injection h with h;subst h;exact ⟨Nat.le_refl _,by omega,hc,fun q h1 h2=>by omega⟩
  ·
   rename_i hc;obtain ⟨h1,h2,h3,h4⟩:=zdx h;refine ⟨by omega,by omega,h3,fun q hq hqj=>?_⟩;rcases Nat.lt_or_ge i q with g | g
   ·exact h4 q (by omega) hqj
   ·
    obtain rfl:q=i:=by omega
    exact hc
theorem zgF {d:Dk}:∀ {k i j:Nat},i≤j→j<i+k→zcq d j→(∀ q,i≤q→q<j→¬zcq d q)→zfL d k i=some j
 | 0,_,_,h1,h2,_,_=>by omega
 | k+1,i,j,h1,h2,h3,h4=>by
  unfold zfL;rcases Nat.lt_or_ge i j with g | g
  ·rw [if_neg (h4 i (Nat.le_refl _) g)];exact zgF (by omega) (by omega) h3 (fun q a b=>h4 q (by omega) b)
  ·
   obtain rfl:j=i:=by omega
   rw [if_pos h3]
theorem zd5 {d:Dk}:∀ {k i:Nat},(∀ q,i≤q→q<i+k→¬zcq d q)→zfL d k i=none
 | 0,_,_=>rfl
 | k+1,i,h=>by
  unfold zfL;rw [if_neg (h i (Nat.le_refl _) (by omega))];exact zd5 (fun q a b=>h q (by omega) (by omega))
def zaO (d:Dk) (n:Int):Dk × Bool:=if zac d=true then (if inB n 0 (1000000-d.2.2.1)=true then ((d.1,d.2.1,d.2.2.1+n,d.2.2.2),true) else (d,false)) else (dk0,false)
def zg8 (d:Dk):Bool:=decide (∀ i,i<d.1.length→(d.1.getD i ta0).2.2.1=2)
def zdC (d:Dk):Bool:=zac d && zg8 d
theorem zbM (ts:List Ta) (i k:Nat) (t:Ta) (hi:i<ts.length):(ts.set i t).getD k ta0=if k=i then t else ts.getD k ta0:=by
 simp only [List.getD_eq_getElem?_getD,List.getElem?_set];by_cases h:i=k
 ·subst h;simp [hi]
 ·rw [if_neg h,if_neg (fun e=>h e.symm)]
theorem zmd {d:Dk} (h:znt d) {i:Nat} (hi:i<d.1.length) {t:Ta} (hn:t.1=(d.1.getD i ta0).1) (hne:t.2.1=(d.1.getD i ta0).2.1) (hs:zcv t=true) {e n:Int} {j:List UInt8} (he:1≤e∧e≤1000) (ht:0≤n∧n≤1000000) (hj:j.length≤60000):znt (d.1.set i t,e,n,j):=by
 refine ⟨by simp only [List.length_set];exact h.n,he,ht,hj,fun k hk=>?_⟩;simp only [List.length_set] at hk;obtain ⟨h1,h2,h3⟩:=h.one k hk
 have hnm:∀ q,((d.1.set i t).getD q ta0).1=(d.1.getD q ta0).1:=fun q=>by
  rw [zbM _ _ _ _ hi]
  split
  ·rename_i e;rw [e];exact hn
  ·rfl
 refine ⟨by rw [hnm];exact h1,?_,fun q hq=>by rw [hnm,hnm];exact h3 q hq⟩;rw [zbM _ _ _ _ hi]
 split
 ·rename_i e;subst e;unfold zc1 at h2 ⊢;rw [Bool.and_eq_true] at h2 ⊢;rw [hne];exact ⟨h2.1,hs⟩
 ·exact h2
theorem zox {d:Dk} {worker:Int} (h:zac d=true):zac (zbd d worker).1=true:=by
 unfold zbd;rw [if_pos h];unfold zbm
 split
 ·
  rename_i hw;have hp:=zao.1 h
  split
  ·
   rename_i i hi;obtain ⟨_,h2,h3,_⟩:=zdx hi;rw [Nat.zero_add] at h2;obtain ⟨ho,hk,_⟩:=hp.one i h2;unfold zc1 at hk;rw [Bool.and_eq_true] at hk;have hst:=hk.2
   suffices hs:zcv (zbT d worker (d.1.getD i ta0))=true by
    exact zao.2 (zmd (e:=d.2.1) (n:=d.2.2.1) (j:=d.2.2.2) hp h2 (t:=zbT d worker (d.1.getD i ta0)) rfl rfl hs hp.e hp.t hp.j)
   have hnow:=hp.t;unfold zcv zbT at *;simp only at hst ⊢;rw [if_neg (by omega),if_pos trivial]
   have hkey:(d.1.getD i ta0).2.2.2.2.2=0:=by
    unfold zcq at h3
    split at hst
    ·exact (of_decide_eq_true hst).2.2
    ·
     split at hst
     ·rw [Bool.and_eq_true] at hst;exact of_decide_eq_true hst.2
     ·
      split at hst
      ·rename_i e;exact absurd e h3.1
      ·cases hst
   rw [Bool.and_eq_true,Bool.and_eq_true];refine ⟨⟨hw,?_⟩,decide_eq_true hkey⟩;unfold inB;rw [decide_eq_true_eq]
   split<;>omega
  ·exact h
 ·exact h
end Go.Proofs.YtponeoijfaepnaaGreatDoor
