/-
  Parts of one proof, one behind the other: Own, RegT, Tk, TkR, HexOf, WordS, TextS, TextS2.
-/
import Derived.Test.YtdbljnddkbpanaaGreatDoorP1
import Derived.Test.YtdbljnddkbpanaaGreatDoorRows
import Derived.WalkKit
import Derived.WalkLawsBesides
import Derived.Laws.OwnMore
import Derived.Laws.IdiomStrings
import Derived.Maps.AppendAt
import Derived.OpenShut
import Derived.Handy
import Derived.Deep.RegionHeld
import Derived.RegionTactic
import Derived.OrdersHeld
namespace Go.Proofs.YtdbljnddkbpanaaGreatDoor
open Go.RowKit
def strV (ls:List (List UInt8)):List Value:=ls.map (fun l=>Value.string ⟨l.toArray⟩)
theorem zjB (o:List (List UInt8)) (t:List UInt8):strV o++[.string ⟨t.toArray⟩]=strV (o++[t]):=by simp [strV]
theorem strV_len (o:List (List UInt8)):(strV o).length=o.length:=by simp [strV]
theorem zo7 (ls:List (List UInt8)) (j:Nat) (h:j<ls.length):(strV ls)[j]?=some (.string ⟨ls[j].toArray⟩):=by
 simp [strV,List.getElem?_eq_getElem h]
theorem zo6 (ls:List (List UInt8)) (m:Nat):(strV ls).take m=strV (ls.take m):=by simp [strV,List.map_take]
theorem zlp:(Tryz.prog.info? 9).map (fun i=>(i.zero,i.size,i.bytes))=some (some (.string ⟨#[]⟩),1,16):=by kernel_rfl
theorem zdA {w1:World} {B:Nat} {v':Value} {o:List (List UInt8)} {t:List UInt8} (hown':w1.ownsRow B 9 1 v' (o.length+1) (strV o++[.string ⟨t.toArray⟩])) :
 w1.ownsRow B 9 1 v' (o++[t]).length (strV (o++[t])):=by
 rw [←zjB,List.length_append,List.length_singleton]
 exact hown'
theorem zdk {w:World} {base e size n:Nat} {v:Value} {xs:List Value} (h:w.ownsRow base e size v n xs) (hv:v≠.slice none 0 0):∃ g cp,v=.slice (some ⟨g,0,none⟩) n cp:=by
 obtain ⟨_,⟨e,_⟩ | ⟨g,cap,cur,rfl,_⟩⟩:=h
 ·
  exact absurd e hv
 ·
  exact ⟨g,cap,rfl⟩
theorem zd4 {w w':World} {base e size n:Nat} {v:Value} {xs:List Value} (h:w.ownsRow base e size v n xs) (hg:w.grownBy w' none):w'.ownsRow base e size v n xs:=by
 refine h.kept hg ?_
 rcases hv:v.ownBlock with _ | g
 ·
  exact Or.inl rfl
 ·
  exact Or.inr (by simp)
theorem za6 {w w':World} {base e size n:Nat} {v:Value} {xs:List Value} (h:w.ownsRow base e size v n xs) (hb:Below w.heap.size w w'):w'.ownsRow base e size v n xs :=
 zd4 h ⟨hb.os,hb.tape,hb.output,hb.size,fun k hk _=>hb.block k hk⟩
theorem zb4 {w:World} {base e size n:Nat} {v:Value} {xs:List Value} (h:w.ownsRow base e size v n xs):(v=.slice none 0 0∧n=0∧xs=[])∨∃ g cp,v=.slice (some ⟨g,0,none⟩) n cp:=by
 have h0:=h.1
 obtain ⟨_,⟨e,hn⟩ | ⟨g,cap,cur,rfl,_⟩⟩:=h
 ·
  refine Or.inl ⟨e,hn,List.eq_nil_of_length_eq_zero ?_⟩
  rw [h0,hn,Nat.zero_mul]
 ·
  exact Or.inr ⟨g,cap,rfl⟩
theorem zle {w:World} {base e g n cp:Nat} {xs:List Value} (h:w.ownsRow base e 1 (.slice (some ⟨g,0,none⟩) n cp) n xs):n≤cp∧cp≤maxLen:=by
 rcases h.2 with ⟨h',_⟩ | ⟨g',cap',cur,h',hb,hg,hnc,hcm,hcs,htake⟩
 ·
  simp at h'
 ·
  simp only [Value.slice.injEq,Option.some.injEq,Addr.mk.injEq,and_true,true_and] at h'
  obtain ⟨rfl,rfl⟩:=h'
  exact ⟨hnc,hcm⟩
theorem zaw {w:World} {base e size n:Nat} {v:Value} {xs:List Value} (h:w.ownsRow base e size v n xs) (hn:n≠0):∃ g cp,v=.slice (some ⟨g,0,none⟩) n cp:=by
 rcases zb4 h with ⟨_,h0,_⟩ | h1
 ·
  exact absurd h0 hn
 ·
  exact h1
theorem own_take {w:World} {base e g n cp:Nat} {xs:List Value} (h:w.ownsRow base e 1 (.slice (some ⟨g,0,none⟩) n cp) n xs) (m:Nat) (hm:m≤n):w.ownsRow base e 1 (.slice (some ⟨g,0,none⟩) m cp) m (xs.take m):=by
 have h0:=h.1
 rcases h.2 with ⟨h',_⟩ | ⟨g',cap',cur,h',hb,hg,hnc,hcm,hcs,htake⟩
 ·
  simp at h'
 ·
  simp only [Value.slice.injEq,Option.some.injEq,Addr.mk.injEq,and_true,true_and] at h'
  obtain ⟨rfl,rfl⟩:=h'
  refine ⟨by rw [List.length_take];omega,.inr ⟨g,cp,cur,rfl,hb,hg,by omega,hcm,hcs,?_⟩⟩
  rw [←htake,List.take_take]
  congr 1
  omega
theorem zfn {w:World} {base g cp n:Nat} {ls:List (List UInt8)} (h:w.ownsRow base 9 1 (.slice (some ⟨g,0,none⟩) n cp) n (strV ls)) (hn:ls.length=n) (j:Nat) (hj:j<n) :
 w.cell? ⟨g,j,none⟩=some (.string ⟨(ls.getD j []).toArray⟩):=by
 rw [h.cellAt j (by omega),zo7 ls j (by omega),List.getD_eq_getElem?_getD,List.getElem?_eq_getElem (by omega)];rfl
theorem zbU (a b:List UInt8):(⟨a.toArray⟩++⟨b.toArray⟩:ByteArray)=⟨(a++b).toArray⟩:=zpQ (by simp)
theorem zbL (l:List UInt8) (i j:Nat):(⟨l.toArray⟩:ByteArray).extract i j=⟨((l.drop i).take (j-i)).toArray⟩:=by
 apply zpQ
 rw [ByteArray.data_extract,Array.toList_extract,List.extract_eq_take_drop]
theorem zeG {a b:List UInt8} {m n:Int} {c d:Bool} (h:a=b) (k:m=n) (j:c=d):Ending.returned (.tuple #[.string ⟨a.toArray⟩,.int .i64 m,.bool c])=.returned (.tuple #[.string ⟨b.toArray⟩,.int .i64 n,.bool d]):=by rw [h,k,j]
theorem zgB {a b:List UInt8} {c d:Bool} (h:a=b) (j:c=d):Ending.returned (.tuple #[.string ⟨a.toArray⟩,.bool c])=.returned (.tuple #[.string ⟨b.toArray⟩,.bool d]):=by rw [h,j]
theorem zmk {a b:List UInt8} (h:a=b):Ending.returned (.string ⟨a.toArray⟩)=.returned (.string ⟨b.toArray⟩):=by rw [h]
theorem Below.by {w w':World} (h:Below w.heap.size w w'):w.grownBy w' none:=⟨h.os,h.tape,h.output,h.size,fun k hk _=>h.block k hk⟩
theorem zaI {w:World} {base b2 e size n:Nat} {v:Value} {xs:List Value} (h:w.ownsRow base e size v n xs) (hb:b2≤base):w.ownsRow b2 e size v n xs:=by
 refine ⟨h.1,?_⟩
 rcases h.2 with h' | ⟨g,cap,cur,hv,hg,r⟩
 ·
  exact Or.inl h'
 ·
  exact Or.inr ⟨g,cap,cur,hv,Nat.le_trans hb hg,r⟩
theorem zam (w:World) (B o:Nat) (v:Value):w.grownBy (w.setCell ⟨B,o,none⟩ v) (some B) :=
 ⟨rfl,rfl,rfl,by simp,fun k _ hne=>Below.heap_setCell w _ v k (fun e=>hne (by rw [e]))⟩
def Src (w:World) (x:Value) (m size:Nat) (news:List Value):Prop :=
 news.length=m*size∧(∀ u∈news,u.oneCell'=true)∧((x=.slice none 0 0∧m=0)∨∃ ad c,x=.slice (some ad) m c∧∀ j u,news[j]?=some u→w.cell? (ad.add j)=some u)
theorem zaE {P:Program} (w:World) (base:Nat) (t ty e:TypeId) (i:TypeInfo) (z:Value) (size bytes:Nat) (ht:P.underlying t=some (.slice e)) (hi:P.info? e=some i) (hz:i.zero=some z)
 (hsize:i.size=size) (hby:i.bytes=bytes) (hzs:z.cells.size=size) (hsz:0<size)
 (v:Value) (n:Nat) (xs:List Value) (hown:w.ownsRow base e size v n xs) (x:Value) (m:Nat) (news:List Value) (hsrc:Src w x m size news)
 (h63:n+m≤maxLen) (hbytes:(n+m)*bytes≤140737488355328) (hbase:base≤w.heap.size) :
 ∃ v' w',(Builtin.append_ #[t,t] ty #[v,x]).run P w=.ok v' w'∧w'.ownsRow base e size v' (n+m) (xs++news)∧w.grownBy w' v.ownBlock∧(v'=.slice none 0 0→v=.slice none 0 0):=by
 obtain ⟨hl,h1,⟨rfl,rfl⟩ | ⟨ad,c,rfl,hc⟩⟩:=hsrc
 ·
  have hn:news=[]:=List.eq_nil_of_length_eq_zero (by omega)
  subst hn
  exact ⟨v,w,run_append_owned_none (P:=P) (w:=w) base t ty e i size ht hi v n xs hown,by simpa using hown,World.grownBy.refl w _,fun h=>h⟩
 ·
  obtain ⟨v',w',hr,h2,h3,h4⟩:=run_append_own (P:=P) w base t ty e i z size bytes ht hi hz hsize hby hzs hsz v n xs hown ad m c news hl hc h1 h63 hbytes hbase
  exact ⟨v',w',hr,h2,h3,fun h=>(h4.1 h).1⟩
theorem zcQ {P:Program} {w w':World} {ops:Array Oper} {o:Oper} {a:Act} {K:Act→World→Prop} {Q:Exit→Act→World→Prop} {E:Prop} (hgd:o.guard=none) (s x:Operand) (t:TypeId)
 (ho:o.op=.call { callee:=.builtin .append,args:=#[s,x],argTypes:=#[t,t] }) (v u v':Value) (hs:a.eval s=v) (hx:a.eval x=u)
 (hrun:(Builtin.append_ #[t,t] o.type #[v,u]).run P w=.ok v' w') (h:K (a.put o.dst v') w') :
 if Region.wanted o (yielded ops a.tmps)=true then Oper.wp P o a w K Q else E:=by
 have hw:Region.wanted o (yielded ops a.tmps)=true:=by simp [Region.wanted,hgd]
 rw [if_pos hw]
 unfold Oper.wp
 simp [execOp,ho,resolve,invoke,builtin,hs,hx,hrun,Result.andThen]
 exact h
theorem za0 {P:Program} {w w':World} {ops:Array Oper} {rest:List Oper} {o:Oper} {a:Act} {Q:Exit→Act→World→Prop} (hgd:o.guard=none) (s x:Operand) (t:TypeId)
 (ho:o.op=.call { callee:=.builtin .append,args:=#[s,x],argTypes:=#[t,t] }) (v u v':Value) (hs:a.eval s=v) (hx:a.eval x=u)
 (hrun:(Builtin.append_ #[t,t] o.type #[v,u]).run P w=.ok v' w') (h:wpList P ops Q rest (a.put o.dst v') w'):wpList P ops Q (o :: rest) a w:=by
 refine wpList_plain hgd fun K hK=>?_
 unfold Oper.wp
 simp [execOp,ho,resolve,invoke,builtin,hs,hx,hrun,Result.andThen]
 exact hK _ _ h
section
variable {P:Program} {ops:Array Oper} {Q:Exit→Act→World→Prop} {md:Region.Mode} {S:World→Prop} {E:List Nat}
def Till (P:Program) (md:Region.Mode) (ops:Array Oper) (Q:Exit→Act→World→Prop) (E:List Nat) (S:World→Prop):Nat→Array Bool→Act→World→Prop
 | 0=>fun listed a w=>Region.ready md ops listed=[]∧Q .normal a w
 | k+1=>fun listed a w=>(Region.ready md ops listed=[]→Q .normal a w) ∧
  ∀ i,i∈Region.ready md ops listed→wpOp P ops Q i (fun b v=>(i ∉ E→S v)∧Till P md ops Q E S k (listed.setIfInBounds i true) b v) a w
theorem Till.any:∀ (k:Nat) {listed:Array Bool} {a:Act} {w:World},Till P md ops Q E S k listed a w→wpAny P md ops Q k listed a w
 | 0,_,_,_,h=>h
 | k+1,_,_,_,h=>⟨h.1,fun i hi=>wpOp_mono (fun _ _ x=>Till.any k x.2) (h.2 i hi)⟩
theorem Till.done {listed:Array Bool} {a:Act} {w:World} (hr:Region.ready md ops listed=[]) (h:Q .normal a w):∀ k,Till P md ops Q E S k listed a w
 | 0=>⟨hr,h⟩
 | _+1=>⟨fun _=>h,fun i hi=>by rw [hr] at hi;cases hi⟩
def zaO (md:Region.Mode) (ops:Array Oper) (listed:Array Bool):Prop:=∀ j o,ops[j]?=some o→listed.getD j false=true→∀ e∈o.after,Region.binds md e=true→listed.getD e.on false=true
theorem zaO.start (n:Nat):zaO md ops (Array.replicate n false):=fun j o _ h=>by
 rw [Array.getD_eq_getD_getElem?] at h
 simp only [Array.getElem?_replicate] at h
 split at h<;>cases h
theorem zaO.set {listed:Array Bool} {i:Nat} (h:zaO md ops listed) (hi:i∈Region.ready md ops listed):zaO md ops (listed.setIfInBounds i true):=fun j o ho hj e he hb=>by
 refine getD_set_true ?_
 rcases Nat.decEq i j with hne | heq
 ·
  rw [getD_set_ne false hne] at hj
  exact h j o ho hj e he hb
 ·
  subst heq
  obtain ⟨_,p,hp,hall⟩:=mem_ready.1 hi
  rw [ho] at hp
  injection hp with hp
  subst hp
  exact hall e he hb
def zhJ (md:Region.Mode) (ops:Array Oper):Nat→Nat→Nat→Bool
 | 0,_,_=>false
 | k+1,m,i=>match ops[m]? with
  | some o=>o.after.any (fun e=>Region.binds md e && (e.on==i || zhJ md ops k e.on i))
  | none=>false
theorem zfJ {listed:Array Bool} (h:zaO md ops listed) {i:Nat}:∀ (k m:Nat),(∀ o,ops[m]?=some o→∀ e∈o.after,Region.binds md e=true→listed.getD e.on false=true)→zhJ md ops k m i=true→listed.getD i false=true
 | 0,_,_,hw=>by cases hw
 | k+1,m,hd,hw=>by
  unfold zhJ at hw
  cases ho:ops[m]? with
  | none=>rw [ho] at hw;cases hw
  | some o =>
   rw [ho] at hw
   simp only [Array.any_eq_true'] at hw
   obtain ⟨e,he,h2⟩:=hw
   rw [Bool.and_eq_true,Bool.or_eq_true] at h2
   have hl:=hd o ho e he h2.1
   rcases h2.2 with h3 | h3
   ·
    rw [←beq_iff_eq.1 h3];exact hl
   ·
    exact zfJ h k e.on (fun p hp f hf hb=>h e.on p hp hl f hf hb) h3
theorem Till.first {i:Nat} {o:Oper} {v:Value} {d:Nat} (ho:ops[i]?=some o) (hE:E.all (fun m=>zhJ md ops d m i)=true) (hsel:∀ (j:Nat) (p:Oper) cs b,ops[j]?=some p→p.op≠.select cs b)
 (hQ:∀ c a w,Q (.panic c) (a.put o.dst v) w→Q (.panic c) a w):∀ (k:Nat) (listed:Array Bool) (a:Act) (w:World),zaO md ops listed →
  (∀ j p,ops[j]?=some p→j≠i→listed.getD j true=false→(∀ e∈p.after,Region.binds md e=true→e.on≠i)→o.apart ops p=true) →
  i∈Region.ready md ops listed→YieldsIf P ops S o v a→S w →
  Till P md ops Q E S k (listed.setIfInBounds i true) (a.put o.dst v) w→Till P md ops Q E S (k+1) listed a w:=by
 intro k
 induction k with
 | zero =>
  intro listed a w hsh hfree hr hy hS H
  refine ⟨fun h=>(by rw [h] at hr;cases hr),fun j hj=>?_⟩
  rcases Nat.decEq j i with hne | heq
  ·
   have hji:j∈Region.ready md ops (listed.setIfInBounds i true):=ready_mono hj hne
   rw [H.1] at hji
   cases hji
  ·
   subst heq
   exact hy.wpOp ho hS ⟨fun _=>hS,H⟩
 | succ k ih =>
  intro listed a w hsh hfree hr hy hS H
  refine ⟨fun h=>(by rw [h] at hr;cases hr),fun j hj=>?_⟩
  rcases Nat.decEq j i with hne | heq
  ·
   have hji:j∈Region.ready md ops (listed.setIfInBounds i true):=ready_mono hj hne
   obtain ⟨hun,p,hp,hall⟩:=mem_ready.1 hj
   have h0:listed.getD i true=false:=(mem_ready.1 hr).1
   have h0f:listed.getD i false=false:=by
    rcases Nat.lt_or_ge i listed.size with hl | hl
    ·
     simp [hl] at h0 ⊢;exact h0
    ·
     simp [Array.getElem?_eq_none hl] at h0
   have hnot:∀ e∈p.after,Region.binds md e=true→e.on≠i:=fun e he hb hei=>by
    have h1:=hall e he hb
    rw [hei,h0f] at h1
    cases h1
   have hjE:j ∉ E:=fun hjE=>by
    have h1:=zfJ hsh d j (fun q hq e he hb=>by rw [hp] at hq;injection hq with hq;subst hq;exact hall e he hb) (List.all_eq_true.1 hE j hjE)
    rw [h0f] at h1
    cases h1
   have h2:=wpOp_putIf hp (hfree j p hp hne hun hnot) (fun cs b=>hsel i o cs b ho) (fun cs b=>hsel j p cs b hp) hQ hy (H.2 j hji)
   have hfree':∀ q r,ops[q]?=some r→q≠i→(listed.setIfInBounds j true).getD q true=false→(∀ e∈r.after,Region.binds md e=true→e.on≠i)→o.apart ops r=true:=fun q r hq hqi hqu hqn=>by
    refine hfree q r hq hqi ?_ hqn
    rcases Nat.decEq j q with hjq | hjq
    ·
     rw [getD_set_ne true hjq] at hqu;exact hqu
    ·
     subst hjq;exact hun
   refine wpOp_mono (fun b u h3=>⟨h3.2.1,ih (listed.setIfInBounds j true) b u (hsh.set hj) hfree' (ready_mono hr (Ne.symm hne)) h3.1 (h3.2.1 hjE) ?_⟩) h2
   rw [Array.setIfInBounds_comm _ _ hne]
   exact h3.2.2
  ·
   subst heq
   exact hy.wpOp ho hS ⟨fun _=>hS,H⟩
theorem Till.region {id:Nat} {a:Act} {w:World} (hm:P.follows .mixedOrders=true) (hS:S w.drew) (h:S w.drew→zaO .any ops (Array.replicate ops.size false)→Till P .any ops Q E S ops.size (Array.replicate ops.size false) a w.drew):(Code.region id ops true).wp P Q a w :=
 wp_region_any hm (Till.any _ (h hS (zaO.start _)))
theorem Till.take {i:Nat} {o:Oper} {v:Value} {d k:Nat} {listed:Array Bool} {a:Act} {w:World} (ho:ops[i]?=some o) (hs:Region.noSelect ops=true) (hf:Region.free md ops listed i=true) (hr:(Region.ready md ops listed).contains i=true) (hE:E.all (fun m=>zhJ md ops d m i)=true)
 (hQ:∀ c a w,Q (.panic c) (a.put o.dst v) w→Q (.panic c) a w) (hy:YieldsIf P ops S o v a) (hS:S w) (hsh:zaO md ops listed)
 (h:zaO md ops (listed.setIfInBounds i true)→Till P md ops Q E S k (listed.setIfInBounds i true) (a.put o.dst v) w):Till P md ops Q E S (k+1) listed a w :=
 Till.first ho hE (Region.noSelect_spec hs) hQ k listed a w hsh (Region.free_spec ho hf) (by simpa using hr) hy hS (h (hsh.set (by simpa using hr)))
theorem Till.one {i:Nat} {o:Oper} {k:Nat} {listed:Array Bool} {a:Act} {w:World} (hr:Region.ready md ops listed=[i]) (ho:ops[i]?=some o) (hsh:zaO md ops listed)
 (h:∀ K':Act→World→Prop,Shut (∀ b v,S v→(S v→zaO md ops (listed.setIfInBounds i true)→Till P md ops Q E S k (listed.setIfInBounds i true) b v)→K' b v)→if Region.wanted o (yielded ops a.tmps)=true then Oper.wp P o a w K' Q else K' (a.put o.dst undef) w):Till P md ops Q E S (k+1) listed a w:=by
 have hi:i∈Region.ready md ops listed:=by rw [hr];exact List.mem_singleton_self i
 refine ⟨fun h0=>(by rw [h0] at hi;cases hi),fun j hj=>?_⟩
 rw [hr] at hj
 obtain rfl:=List.mem_singleton.1 hj
 exact wpOp_step ho (fun K' hK=>h K' (fun b v hS hW=>hK b v ⟨fun _=>hS,hW hS (hsh.set hi)⟩))
theorem Till.last {i:Nat} {o:Oper} {k:Nat} {listed:Array Bool} {a:Act} {w:World} (hr:Region.ready md ops listed=[i]) (ho:ops[i]?=some o) (hiE:i∈E)
 (h:∀ K':Act→World→Prop,Shut (∀ b v,Till P md ops Q E S k (listed.setIfInBounds i true) b v→K' b v)→if Region.wanted o (yielded ops a.tmps)=true then Oper.wp P o a w K' Q else K' (a.put o.dst undef) w):Till P md ops Q E S (k+1) listed a w:=by
 have hi:i∈Region.ready md ops listed:=by rw [hr];exact List.mem_singleton_self i
 refine ⟨fun h0=>(by rw [h0] at hi;cases hi),fun j hj=>?_⟩
 rw [hr] at hj
 obtain rfl:=List.mem_singleton.1 hj
 exact wpOp_step ho (fun K' hK=>h K' (fun b v hW=>hK b v ⟨fun hn=>absurd hiE hn,hW⟩))
end
structure Tks (l:List (Nat × Nat)) (p:Prop):Prop where
 out:p
theorem tkO (l:List (Nat × Nat)) {p:Prop} (h:Tks l p):p:=h.out
theorem tkZ {p:Prop} (h:p):Tks [] p:=⟨h⟩
section
variable {P:Program} {ops:Array Oper} {Q:Exit→Act→World→Prop} {md:Region.Mode} {S:World→Prop} {E:List Nat}
theorem tkY {i t:Nat} {l:List (Nat × Nat)} (v:Value) {fuel:Nat} {listed:Array Bool} {a:Act} {w:World} {o1 o2 o3 o4 o5} (hi:ops[i]?=some ⟨some t,o1,o2,o3,o4,o5⟩) (hw:Region.wanted ⟨some t,o1,o2,o3,o4,o5⟩ (yielded ops a.tmps)=true)
 (hy:∀ w,S w→(execOp a.eval ⟨some t,o1,o2,o3,o4,o5⟩).run P w=.ok (.value v) w) (h:Tks l (wpAnyH P md ops Q S fuel (listed.setIfInBounds i true) (a.put (some t) v) w))
 (hs:Region.noSelect ops=true:=by kernel_rfl) (hf:Region.free md ops listed i=true:=by kernel_rfl) (hr:(Region.ready md ops listed).contains i=true:=by kernel_rfl)
 (hQ:∀ c a w,Q (.panic c) (a.put (some t) v) w→Q (.panic c) a w:=by exact fun _ _ _ h=>h) (hS:S w:=by assumption):Tks ((i,t) :: l) (wpAnyH P md ops Q S (fuel+1) listed a w) :=
 ⟨wpAnyH_take hi hs hf hr hQ (Or.inl ⟨hw,hy⟩) hS h.out⟩
theorem tkN {i t:Nat} {l:List (Nat × Nat)} {fuel:Nat} {listed:Array Bool} {a:Act} {w:World} {o1 o2 o3 o4 o5} (hi:ops[i]?=some ⟨some t,o1,o2,o3,o4,o5⟩) (hw:Region.wanted ⟨some t,o1,o2,o3,o4,o5⟩ (yielded ops a.tmps)=false)
 (h:Tks l (wpAnyH P md ops Q S fuel (listed.setIfInBounds i true) (a.put (some t) undef) w))
 (hs:Region.noSelect ops=true:=by kernel_rfl) (hf:Region.free md ops listed i=true:=by kernel_rfl) (hr:(Region.ready md ops listed).contains i=true:=by kernel_rfl)
 (hQ:∀ c a w,Q (.panic c) (a.put (some t) undef) w→Q (.panic c) a w:=by exact fun _ _ _ h=>h) (hS:S w:=by assumption):Tks ((i,t) :: l) (wpAnyH P md ops Q S (fuel+1) listed a w) :=
 ⟨wpAnyH_take hi hs hf hr hQ (Or.inr ⟨hw,rfl⟩) hS h.out⟩
theorem zR (i:Nat) {fuel:Nat} {listed:Array Bool} {a:Act} {w:World} {o:Oper} (ho:ops[i]?=some o)
 (h:∀ K':Act→World→Prop,Shut (∀ a w,S w→(S w→wpAnyH P md ops Q S fuel (listed.setIfInBounds i true) a w)→K' a w)→if Region.wanted o (yielded ops a.tmps)=true then Oper.wp P o a w K' Q else K' (a.put o.dst undef) w)
 (hr:Region.ready md ops listed=[i]:=by kernel_rfl):wpAnyH P md ops Q S (fuel+1) listed a w :=
 wpAnyH_ready hr (by simp) (AllReadyH.cons ho h AllReadyH.nil)
end
theorem zP:(∀ (a:Act) (d:Option Tmp) (v:Value),a.put d v=match d with | some k=>{ a with tmps:=a.tmps.setIfInBounds k v } | none=>a)∧(∀ (l:List Value) (i:Nat) (a:Value),l.toArray.setIfInBounds i a=(l.set i a).toArray)∧(∀ (a b:Value) (l:List Value),(a :: l).set 0 b=b :: l)∧(∀ (a b:Value) (l:List Value) (n:Nat),(a :: l).set (n+1) b=a :: l.set n b) :=
 ⟨fun _ d _=>by cases d<;>rfl,fun _ _ _=>List.setIfInBounds_toArray ..,fun _ _ _=>List.set_cons_zero ..,fun _ _ _ _=>List.set_cons_succ ..⟩
theorem zA {α:Type} (l:List α) (i:Nat) (a:α):l.toArray.setIfInBounds i a=(l.set i a).toArray:=List.setIfInBounds_toArray ..
theorem zC {α:Type} (a b:α) (l:List α) (n:Nat):(a :: l).set (n+1) b=a :: l.set n b:=List.set_cons_succ ..
section
variable {P:Program} {ops:Array Oper} {Q:Exit→Act→World→Prop} {md:Region.Mode} {S:World→Prop} {E:List Nat}
theorem tlY {i t:Nat} {l:List (Nat × Nat)} (v:Value) {k:Nat} {listed:Array Bool} {a:Act} {w:World} {o1 o2 o3 o4 o5} (hi:ops[i]?=some ⟨some t,o1,o2,o3,o4,o5⟩) (hw:Region.wanted ⟨some t,o1,o2,o3,o4,o5⟩ (yielded ops a.tmps)=true)
 (hy:∀ w,S w→(execOp a.eval ⟨some t,o1,o2,o3,o4,o5⟩).run P w=.ok (.value v) w) (h:zaO md ops (listed.setIfInBounds i true)→Tks l (Till P md ops Q E S k (listed.setIfInBounds i true) (a.put (some t) v) w))
 (hs:Region.noSelect ops=true:=by kernel_rfl) (hf:Region.free md ops listed i=true:=by kernel_rfl) (hr:(Region.ready md ops listed).contains i=true:=by kernel_rfl) (hE:E.all (fun m=>zhJ md ops 30 m i)=true:=by kernel_rfl)
 (hQ:∀ c a w,Q (.panic c) (a.put (some t) v) w→Q (.panic c) a w:=by exact fun _ _ _ h=>h) (hS:S w:=by assumption) (hsh:zaO md ops listed:=by assumption):Tks ((i,t) :: l) (Till P md ops Q E S (k+1) listed a w) :=
 ⟨Till.take hi hs hf hr hE hQ (Or.inl ⟨hw,hy⟩) hS hsh (fun e=>(h e).out)⟩
end
theorem back8 (b0 b1 b2 b3 b4 b5 b6 b7:UInt8) (w:World) :
 (convert 22 9 (.slice (some ⟨w.heap.size,0,none⟩) 8 8)).run Tryz.prog (w.alloc (.cells #[.int .u8 b0.toNat,.int .u8 b1.toNat,.int .u8 b2.toNat,.int .u8 b3.toNat,.int .u8 b4.toNat,.int .u8 b5.toNat,.int .u8 b6.toNat,.int .u8 b7.toNat] 5)) =
  .ok (.string ⟨#[b0,b1,b2,b3,b4,b5,b6,b7]⟩) (w.alloc (.cells #[.int .u8 b0.toNat,.int .u8 b1.toNat,.int .u8 b2.toNat,.int .u8 b3.toNat,.int .u8 b4.toNat,.int .u8 b5.toNat,.int .u8 b6.toNat,.int .u8 b7.toNat] 5)):=by
 have h:=run_convert_bytes_back (P:=Tryz.prog) (w.alloc (.cells #[.int .u8 b0.toNat,.int .u8 b1.toNat,.int .u8 b2.toNat,.int .u8 b3.toNat,.int .u8 b4.toNat,.int .u8 b5.toNat,.int .u8 b6.toNat,.int .u8 b7.toNat] 5)) 22 9 5 ⟨w.heap.size,0,none⟩ 8 [b0,b1,b2,b3,b4,b5,b6,b7] Tryz.underlying22 Tryz.underlying5 Tryz.underlying9 (by
  intro j hj
  have hj':j<8:=by simpa using hj
  match j,hj' with
  | 0,_=>simp [Addr.add,go_sem]
  | 1,_=>simp [Addr.add,go_sem]
  | 2,_=>simp [Addr.add,go_sem]
  | 3,_=>simp [Addr.add,go_sem]
  | 4,_=>simp [Addr.add,go_sem]
  | 5,_=>simp [Addr.add,go_sem]
  | 6,_=>simp [Addr.add,go_sem]
  | 7,_=>simp [Addr.add,go_sem])
 exact h
set_option maxHeartbeats 400000 in
set_option maxRecDepth 100000 in
theorem zjK (n:Int) (w:World) (h0:0≤n) (h1:n≤4294967295) :
 Calls Tryz.prog 39 #[.int .i64 n] w fun e w'=>e=.returned (.string ⟨(hexL n.toNat).toArray⟩)∧Below w.heap.size w w':=by
 have hmk:∀ w,(Instr.makeSlice 22 (.int .i64 8) (.int .i64 8)).run Tryz.prog w=.ok (.slice (some ⟨w.heap.size,0,none⟩) 8 8) (w.alloc (.cells #[.int .u8 0,.int .u8 0,.int .u8 0,.int .u8 0,.int .u8 0,.int .u8 0,.int .u8 0,.int .u8 0] 5)):=fun _=>by kernel_rfl
 have hD:∀ (m:Int) (h:m.toNat<(ByteArray.mk #[48,49,50,51,52,53,54,55,56,57,97,98,99,100,101,102]).size),(ByteArray.mk #[48,49,50,51,52,53,54,55,56,57,97,98,99,100,101,102])[m.toNat]=hexD m.toNat:=zph
 have hback:=back8
 go_enter Tryz.func39,Tryz.ntmps39
 go_wp2
 go_rounds 9
 go_ret
 exact ⟨zgA (hexW n h0),(Below.refl _ _).alloc (Nat.le_refl _) _⟩
set_option maxHeartbeats 400000 in
set_option maxRecDepth 100000 in
theorem zlB (n:Int) (p:Nat) (w:World) (h0:0≤n) (h1:n≤4294967295) (hp:p<8) :
 Calls Tryz.prog 114 #[.int .i64 n,.int .i64 p] w fun e w'=>e=.returned (.int .u8 (hexD (n.toNat / 16 ^ p % 16)).toNat)∧w'=w:=by
 have hD:∀ (m:Int) (h:m.toNat<(ByteArray.mk #[48,49,50,51,52,53,54,55,56,57,97,98,99,100,101,102]).size),(ByteArray.mk #[48,49,50,51,52,53,54,55,56,57,97,98,99,100,101,102])[m.toNat]=hexD m.toNat:=zph
 have hA:=and15
 match p,hp with
 | 0,_ | 1,_ | 2,_ | 3,_ | 4,_ | 5,_ | 6,_ | 7,_ =>
  go_enter Tryz.func114,Tryz.ntmps114
  go_wp2
  go_ret
  refine ⟨zdV (congrArg (fun k:Nat=>(((hexD k).toNat:Nat):Int)) ?_),rfl⟩
  omega
theorem zki (n p:Int) (w:World) (h0:0≤n) (h1:n≤4294967295) (hp0:0≤p) (hp:p<8) :
 Calls Tryz.prog 114 #[.int .i64 n,.int .i64 p] w fun e w'=>e=.returned (.int .u8 (hexD (n.toNat / 16 ^ p.toNat % 16)).toNat)∧w'=w:=by
 obtain ⟨k,rfl⟩:=Int.eq_ofNat_of_zero_le hp0
 exact zlB n k w h0 h1 (by omega)
set_option maxHeartbeats 1000000 in
set_option maxRecDepth 100000 in
theorem zlA (n:Int) (w:World) (h0:0≤n) (h1:n≤4294967295) :
 Calls Tryz.prog 113 #[.int .i64 8,.func (.func 114) #[.int .i64 n] #[]] w fun e w'=>e=.returned (.string ⟨(hexL n.toNat).toArray⟩)∧Below w.heap.size w w':=by
 have hmk:∀ w,(Instr.makeSlice 22 (.int .i64 8) (.int .i64 8)).run Tryz.prog w=.ok (.slice (some ⟨w.heap.size,0,none⟩) 8 8) (w.alloc (.cells #[.int .u8 0,.int .u8 0,.int .u8 0,.int .u8 0,.int .u8 0,.int .u8 0,.int .u8 0,.int .u8 0] 5)):=fun _=>by kernel_rfl
 have hback:=back8
 go_enter Tryz.func113,Tryz.ntmps113
 go_wp2
 refine wp_loop_rounds 9 ?_
 repeat (rw [rounds_succ];go_wp2_with (go_at_call 114;refine (zki _ _ _ h0 h1 (by omega) (by omega)).mono ?_;rintro e w' ⟨rfl,rfl⟩))
 go_ret
 refine ⟨zgA ?_,(Below.refl _ _).alloc (Nat.le_refl _) _⟩
 rfl
set_option maxHeartbeats 400000 in
set_option maxRecDepth 100000 in
theorem zc0 (x lo hi:Int) (w:World) :
 Calls Tryz.prog 38 #[.int .i64 x,.int .i64 lo,.int .i64 hi] w fun e w'=>e=.returned (.bool (inB x lo hi))∧w'=w:=by
 by_cases h1:lo≤x
 ·
  by_cases h2:x≤hi
  ·
   have hB:Hid (inB x lo hi=true):=zdG x lo hi h1 h2
   go_enter Tryz.func38,Tryz.ntmps38
   go_wp2
   go_ret
   exact ⟨by rw [hB.out];rfl,rfl⟩
  ·
   have hB:Hid (inB x lo hi=false):=zcv x lo hi (Or.inr (by omega))
   go_enter Tryz.func38,Tryz.ntmps38
   go_wp2
   go_ret
   exact ⟨by rw [hB.out];rfl,rfl⟩
 ·
  have hB:Hid (inB x lo hi=false):=zcv x lo hi (Or.inl (by omega))
  go_enter Tryz.func38,Tryz.ntmps38
  go_wp2
  go_ret
  exact ⟨by rw [hB.out];rfl,rfl⟩
set_option maxHeartbeats 400000 in
set_option maxRecDepth 100000 in
theorem zpa (n:Int) (w:World) :
 Calls Tryz.prog 88 #[.int .i64 n] w fun e w'=>e=.returned (.string ⟨(hexS n).toArray⟩)∧Below w.heap.size w w':=by
 have hmf:∀ (fn:Fn) (first cap:Array Value) (w:World),(Instr.makeFunc fn first cap).run Tryz.prog w=.ok (.func fn first cap) w:=fun _ _ _ _=>rfl
 rcases (show n<0∨4294967295<n∨(0≤n∧n≤4294967295) by omega) with h | h | ⟨h0,h1⟩
 ·
  have hS:Hid (hexS n=[]):=zpf n (Or.inl h)
  go_enter Tryz.func88,Tryz.ntmps88
  go_wp2
  go_ret
  exact ⟨zgA (by rw [hS.out]),Below.refl _ _⟩
 ·
  have hS:Hid (hexS n=[]):=zpf n (Or.inr h)
  go_enter Tryz.func88,Tryz.ntmps88
  go_wp2
  go_ret
  exact ⟨zgA (by rw [hS.out]),Below.refl _ _⟩
 ·
  have hS:Hid (hexS n=hexL n.toNat):=zej n h0 h1
  go_enter Tryz.func88,Tryz.ntmps88
  go_wp2_with (go_at_call 113;refine (zlA _ _ h0 h1).mono ?_;rintro e w' ⟨rfl,hb⟩)
  go_ret
  exact ⟨zgA (by rw [hS.out]),by assumption⟩
set_option maxHeartbeats 400000 in
set_option maxRecDepth 100000 in
theorem zn8 (n:Int) (w:World):Calls Tryz.prog 170 #[.int .i64 n] w fun e w'=>e=.returned (.bool (inB n (-2147483648) 2147483647))∧w'=w:=by
 go_enter Tryz.func170,Tryz.ntmps170
 go_wp2_with (go_at_call 38;refine (zc0 _ _ _ _).mono ?_;rintro e w' ⟨rfl,rfl⟩)
 go_ret
 exact ⟨rfl,rfl⟩
theorem zhV {m n:Int} {c d:Bool} (h:m=n) (j:c=d):Ending.returned (.tuple #[.int .i64 m,.bool c])=.returned (.tuple #[.int .i64 n,.bool d]):=by rw [h,j]
set_option maxHeartbeats 2000000 in
set_option maxRecDepth 100000 in
theorem zoa (l:List UInt8) (b:UInt8) (c:Int) (w:World) (hc:c=(b.toNat:Int)) (hl:l.length≤1048576) :
 Calls Tryz.prog 58 #[.string ⟨l.toArray⟩,.int .u8 c] w fun e w'=>∃ g cp,e=.returned (.slice (some ⟨g,0,none⟩) (za3 b l).length cp)∧w'.ownsRow w.heap.size 9 1 (.slice (some ⟨g,0,none⟩) (za3 b l).length cp) (za3 b l).length (strV (za3 b l))∧Below w.heap.size w w':=by
 obtain ⟨i0,hi,hz0,hz1,hz2⟩:=info_parts zlp
 have hext:=zbL
 have hown0:=(World.ownsRow_lit (base:=w.heap.size) (e:=9) (size:=1) w #[] 0 (Nat.le_refl _) (by decide) rfl)
 have HC:Hid (c=(b.toNat:Int)):=hc
 clear hc
 go_enter Tryz.func58,Tryz.ntmps58
 go_wp2
 go_loopw [5,6,7] (fun v fr ix wr=>∃ (o:List (List UInt8)) (f i g cp:Nat),v=.slice (some ⟨g,0,none⟩) o.length cp∧fr=.int .i64 f∧ix=.int .i64 i∧o.length≤i∧i≤l.length+1∧Hid ((i≤l.length∧f≤i∧o++zan b ((l.drop f).take (i-f)) (l.drop i)=za3 b l)∨(i=l.length+1∧o=za3 b l))∧wr.ownsRow w.heap.size 9 1 v o.length (strV o)∧Below w.heap.size w wr) (fun _ _ ix _=>l.length+1-(intOf ix).toNat)
 case atStart=>exact ⟨[],0,0,w.heap.size,0,rfl,rfl,rfl,by simp,by omega,(Or.inl ⟨by omega,by omega,by simp [za3]⟩:_∨_),hown0,(Below.refl _ _).alloc (Nat.le_refl _) _⟩
 case round =>
  obtain ⟨o,f,i,g,cp,rfl,rfl,rfl,hoi,hil,HG,hown,hb⟩:=hrel
  clear hown0
  by_cases hlt:(i:Int)≤(l.length:Int)
  ·
   obtain ⟨_,hfi,hg⟩:i≤l.length∧f≤i∧o++zan b ((l.drop f).take (i-f)) (l.drop i)=za3 b l:=by
    rcases HG.out with h | h
    ·
     exact h
    ·
     omega
   have HE:Hid (o++zan b ((l.drop f).take (i-f)) (l.drop i)=za3 b l):=hg
   clear hg HG
   have hfi1:(f:Int)≤(i:Int):=by omega
   have hf0:(0:Int)≤(f:Int):=by omega
   by_cases hend:i=l.length
   ·
    subst hend
    have HF:Hid (o++[(l.drop f).take (l.length-f)]=za3 b l):=zjF b l o _ HE.out
    have htk:List.take (l.length-f) (List.drop f l)=List.drop f l:=List.take_of_length_le (by rw [List.length_drop];omega)
    rw [htk] at HF
    clear HE
    go_wp2_with (at_builtin;refine wpList_append_own _ rfl _ _ 35 rfl w.heap.size 9 i0 (.string ⟨#[]⟩) 1 16 Tryz.underlying35 hi hz0 hz1 hz2 rfl (by decide) _ _ _ rfl (hown.alloc _) ⟨wr.heap.size,0,none⟩ 1 1 [.string ⟨(l.drop f).toArray⟩] rfl rfl ?c1 ?c2 ?c3 ?c4 ?c5 ?_)
    first | (case c1=>exact cell_one_new _ _ _) | skip
    first | (case c2=>first | rfl | (intro u hu;simp at hu;subst hu;rfl)) | skip
    first | (case c3=>unfold maxLen;omega) | skip
    first | (case c4=>omega) | skip
    first | (case c5=>have:=hb.size;simp;try omega) | skip
    intro v' w3 hown3 hgrow3 hnil3
    have hown4:=zdA hown3
    have hv':v'≠.slice none 0 0:=hnil3
    obtain ⟨g',cp',hv⟩:=zdk hown4 hv'
    have hb3:Below w.heap.size w w3:=(hb.alloc hb.size _).grown hgrow3 (by have:=hb.size;simp;omega) (fun k e=>(hown.lt k e).1)
    clear hown3 hgrow3 hnil3 hown hb hv'
    go_wp2
    go_roundw
    case rel=>exact ⟨o++[l.drop f],l.length+1,l.length+1,g',cp',hv,by go_num,by go_num,by rw [List.length_append,List.length_singleton];omega,by omega,(Or.inr ⟨rfl,HF.out⟩:_∨_),hown4,hb3⟩
    case measure=>simp [intOf]
   ·
    have de:((i:Int)==(l.length:Int))=false:=beq_eq_false_iff_ne.2 (by omega)
    have hil2:i<l.length:=by omega
    have hil3:(i:Int)<(l.length:Int):=by omega
    obtain ⟨x,hx⟩:∃ x,l[i]=x:=⟨_,rfl⟩
    by_cases hxb:x=b
    ·
     have HF:Hid ((o++[(l.drop f).take (i-f)])++zan b [] (l.drop (i+1))=za3 b l):=zjE b l o _ i hil2 (by rw [hx];exact hxb) HE.out
     have dx:((((⟨l.toArray⟩:ByteArray)[i]'(by show i<l.toArray.size;simpa using hil2)).toNat:Int)==c)=true:=by show ((l[i].toNat:Int)==c)=true;rw [hx,hxb,HC.out];simp
     clear HE hx hxb hend
     go_wp2_with (at_builtin;refine wpList_append_own _ rfl _ _ 35 rfl w.heap.size 9 i0 (.string ⟨#[]⟩) 1 16 Tryz.underlying35 hi hz0 hz1 hz2 rfl (by decide) _ _ _ rfl (hown.alloc _) ⟨wr.heap.size,0,none⟩ 1 1 [.string ⟨((l.drop f).take (i-f)).toArray⟩] rfl rfl ?c1 ?c2 ?c3 ?c4 ?c5 ?_)
     first | (case c1=>exact cell_one_new _ _ _) | skip
     first | (case c2=>first | rfl | (intro u hu;simp at hu;subst hu;rfl)) | skip
     first | (case c3=>unfold maxLen;omega) | skip
     first | (case c4=>omega) | skip
     first | (case c5=>have:=hb.size;simp;try omega) | skip
     intro v' w3 hown3 hgrow3 hnil3
     have hown4:=zdA hown3
     have hv':v'≠.slice none 0 0:=hnil3
     obtain ⟨g',cp',hv⟩:=zdk hown4 hv'
     have hb3:Below w.heap.size w w3:=(hb.alloc hb.size _).grown hgrow3 (by have:=hb.size;simp;omega) (fun k e=>(hown.lt k e).1)
     clear hown3 hgrow3 hnil3 hown hb hv'
     go_wp2
     go_roundw
     case rel=>exact ⟨o++[(l.drop f).take (i-f)],i+1,i+1,g',cp',hv,by go_num,by go_num,by rw [List.length_append,List.length_singleton];omega,by omega,(Or.inl ⟨by omega,by omega,by rw [Nat.sub_self,List.take_zero];exact HF.out⟩:_∨_),hown4,hb3⟩
     case measure=>simp [intOf];omega
    ·
     have HF:Hid (o++zan b ((l.drop f).take (i+1-f)) (l.drop (i+1))=za3 b l):=by
      have:=zhN b l o _ i hil2 (by rw [hx];exact hxb) HE.out
      rw [zjf l f i hfi hil2]
      exact this
     have dx:((((⟨l.toArray⟩:ByteArray)[i]'(by show i<l.toArray.size;simpa using hil2)).toNat:Int)==c)=false:=by show ((l[i].toNat:Int)==c)=false;rw [hx,HC.out];exact beq_eq_false_iff_ne.2 (fun e=>hxb (UInt8.toNat_inj.1 (by omega)))
     clear HE hx hxb hend
     go_wp2
     go_roundw
     case rel=>exact ⟨o,f,i+1,g,cp,rfl,rfl,by go_num,by omega,by omega,(Or.inl ⟨by omega,by omega,HF.out⟩:_∨_),hown,hb⟩
     case measure=>simp [intOf];omega
  ·
   have HF:Hid (o=za3 b l):=by
    rcases HG.out with h | h
    ·
     omega
    ·
     exact h.2
   go_wp2
   go_ret
   exact ⟨g,cp,by rw [←HF.out];rfl,by rw [←HF.out];exact hown,hb⟩
set_option maxHeartbeats 1000000 in
set_option maxRecDepth 100000 in
theorem zcg (l:List UInt8) (w:World) (hl:l.length≤1048576) :
 Calls Tryz.prog 64 #[.string ⟨l.toArray⟩] w fun e w'=>e=.returned (.bool (zaF l))∧w'=w:=by
 go_enter Tryz.func64,Tryz.ntmps64
 go_wp2
 go_loop [3] (fun ix=>∃ k:Nat,k≤l.length∧ix=.int .i64 k∧Hid (∀ j (hj:j<l.length),j<k→97≤l[j].toNat∧l[j].toNat≤122)) (fun ix=>l.length-(intOf ix).toNat)
 case atStart=>exact ⟨0,Nat.zero_le _,rfl,(fun j _ h=>by omega:∀ j (hj:j<l.length),j<0→_)⟩
 case round =>
  obtain ⟨k,hk,rfl,HK⟩:=hrel
  by_cases hkl:(k:Int)<(l.length:Int)
  ·
   have hk2:k<l.length:=by omega
   obtain ⟨x,hx⟩:∃ x:UInt8,l[k]=x:=⟨_,rfl⟩
   have hxb:(⟨l.toArray⟩:ByteArray)[k]'(by show k<l.toArray.size;simpa using hk2)=x:=hx
   by_cases h1:(x.toNat:Int)<97
   ·
    have HF:Hid (zaF l=false):=zgi l k hk2 (by rw [hx];omega)
    clear hx
    go_wp2
    go_ret
    exact ⟨by rw [HF.out];rfl,rfl⟩
   ·
    by_cases h2:122<(x.toNat:Int)
    ·
     have HF:Hid (zaF l=false):=zgi l k hk2 (by rw [hx];omega)
     clear hx
     go_wp2
     go_ret
     exact ⟨by rw [HF.out];rfl,rfl⟩
    ·
     have HS:Hid (∀ j (hj:j<l.length),j<k+1→97≤l[j].toNat∧l[j].toNat≤122):=fun j hj hjk=>by
      by_cases e:j=k
      ·
       subst e;rw [hx];omega
      ·
       exact HK.out j hj (by omega)
     clear hx
     go_wp2
     go_round
     case rel=>exact ⟨k+1,by omega,by go_num,HS⟩
     case measure=>simp [intOf];omega
  ·
   have HF:Hid (zaF l=inB (l.length:Int) 1 8):=zk5 l (fun j hj=>HK.out j hj (by omega))
   go_wp2_with (go_at_call 38;refine (zc0 _ _ _ _).mono ?_;rintro e w' ⟨rfl,rfl⟩)
   go_ret
   exact ⟨by rw [HF.out];rfl,rfl⟩
end Go.Proofs.YtdbljnddkbpanaaGreatDoor
