/-
  Parts of one proof, one behind the other: Math1, Math4, Math5, Math5N, Math5J, Math6, Math6R, Math6P, MathT.
-/
import Derived.WalkKit
import Derived.IntWalk
import Derived.Laws.Bits128
namespace Go.Proofs.YtdbljnddkbpanaaGreatDoor
open Go.RowKit
def zbK (h:Int) (b:UInt8):Int:=(1000003*h+(b.toNat:Int)+1) % 2147483647
def zbx (l:List UInt8):Int:=l.foldl zbK 17
theorem w64 (n:Int) (h:-9223372036854775808≤n∧n≤9223372036854775807):wrap64 n=n:=by unfold wrap64;omega
theorem stepW (h:Int) (b:UInt8) (h0:0≤h∧h<2147483647):((wrap64 (wrap64 (1000003*h+wrap64 (b.toNat:Int))+1)).tmod 2147483647)=zbK h b:=by
 have hb:=b.toNat_lt
 rw [w64 (b.toNat:Int) (by omega),w64 (1000003*h+(b.toNat:Int)) (by omega),w64 _ (by omega),Int.tmod_eq_emod_of_nonneg (by omega)]
 rfl
theorem zlP (h:Int) (b:UInt8):0≤zbK h b∧zbK h b<2147483647:=by
 unfold zbK;omega
theorem foldl_bd (l:List UInt8) (h:Int) (h0:0≤h∧h<2147483647):0≤l.foldl zbK h∧l.foldl zbK h<2147483647:=by
 induction l generalizing h with
 | nil=>exact h0
 | cons b r ih=>exact ih _ (zlP h b)
theorem zff (l:List UInt8):0≤zbx l∧zbx l<2147483647:=foldl_bd l 17 (by omega)
theorem znG (l:List UInt8) (c:UInt8):zbx (l++[c])=zbK (zbx l) c:=by
 unfold zbx;rw [List.foldl_append];rfl
theorem zjz (s:ByteArray) (k:Nat) (h:k<s.size):s.data.toList.take (k+1)=s.data.toList.take k++[s[k]]:=by
 rw [List.take_succ_eq_append_getElem (by simpa using h)];rfl
theorem zic (s:ByteArray) (k:Nat) (h:k<s.size):zbx (s.data.toList.take (k+1))=zbK (zbx (s.data.toList.take k)) s[k]:=by
 rw [zjz s k h,znG]
theorem zdV {k:IntKind} {a b:Int} (h:a=b):Ending.returned (.int k a)=.returned (.int k b):=by rw [h]
def hexDs:List UInt8:=[48,49,50,51,52,53,54,55,56,57,97,98,99,100,101,102]
def hexD (n:Nat):UInt8:=hexDs.getD n 0
theorem zph (m:Int) (h:m.toNat<(ByteArray.mk #[48,49,50,51,52,53,54,55,56,57,97,98,99,100,101,102]).size):(ByteArray.mk #[48,49,50,51,52,53,54,55,56,57,97,98,99,100,101,102])[m.toNat]=hexD m.toNat:=by
 have h':m.toNat<16:=h
 generalize m.toNat=k at *
 unfold hexD hexDs
 rw [List.getD_eq_getElem?_getD,List.getElem?_eq_getElem (by simpa using h')]
 rfl
def hexL (n:Nat):List UInt8:=[hexD (n / 268435456 % 16),hexD (n / 16777216 % 16),hexD (n / 1048576 % 16),hexD (n / 65536 % 16),hexD (n / 4096 % 16),hexD (n / 256 % 16),hexD (n / 16 % 16),hexD (n % 16)]
theorem hexW (n:Int) (h0:0≤n):#[hexD (n / 16 / 16 / 16 / 16 / 16 / 16 / 16 % 16).toNat,hexD (n / 16 / 16 / 16 / 16 / 16 / 16 % 16).toNat,hexD (n / 16 / 16 / 16 / 16 / 16 % 16).toNat,hexD (n / 16 / 16 / 16 / 16 % 16).toNat,hexD (n / 16 / 16 / 16 % 16).toNat,hexD (n / 16 / 16 % 16).toNat,hexD (n / 16 % 16).toNat,hexD (n % 16).toNat]=(hexL n.toNat).toArray:=by
 unfold hexL
 rw [show (n / 16 / 16 / 16 / 16 / 16 / 16 / 16 % 16).toNat=n.toNat / 268435456 % 16 by omega,show (n / 16 / 16 / 16 / 16 / 16 / 16 % 16).toNat=n.toNat / 16777216 % 16 by omega,
  show (n / 16 / 16 / 16 / 16 / 16 % 16).toNat=n.toNat / 1048576 % 16 by omega,show (n / 16 / 16 / 16 / 16 % 16).toNat=n.toNat / 65536 % 16 by omega,
  show (n / 16 / 16 / 16 % 16).toNat=n.toNat / 4096 % 16 by omega,show (n / 16 / 16 % 16).toNat=n.toNat / 256 % 16 by omega,
  show (n / 16 % 16).toNat=n.toNat / 16 % 16 by omega,show (n % 16).toNat=n.toNat % 16 by omega]
theorem zgA {a b:Array UInt8} (h:a=b):Ending.returned (.string ⟨a⟩)=.returned (.string ⟨b⟩):=by rw [h]
theorem and15 (n:Int):bits .and .i64 n 15=n % 16:=by
 have h15:(BitVec.ofInt 64 15).toNat=2 ^ 4-1:=by decide
 have key:(BitVec.ofInt 64 n &&& BitVec.ofInt 64 15).toNat=(n % ((2 ^ 64:Nat):Int)).toNat % 2 ^ 4:=by
  rw [BitVec.toNat_and,BitVec.toNat_ofInt,h15,Nat.and_two_pow_sub_one_eq_mod]
 show IntKind.i64.wrap ((BitVec.ofInt 64 n &&& BitVec.ofInt 64 15).toNat:Nat)=n % 16
 rw [key,IntKind.wrap_i64]
 omega
theorem and255 (n:Int):bits .and .i64 n 255=n % 256:=by
 have h15:(BitVec.ofInt 64 255).toNat=2 ^ 8-1:=by decide
 have key:(BitVec.ofInt 64 n &&& BitVec.ofInt 64 255).toNat=(n % ((2 ^ 64:Nat):Int)).toNat % 2 ^ 8:=by
  rw [BitVec.toNat_and,BitVec.toNat_ofInt,h15,Nat.and_two_pow_sub_one_eq_mod]
 show IntKind.i64.wrap ((BitVec.ofInt 64 n &&& BitVec.ofInt 64 255).toNat:Nat)=n % 256
 rw [key,IntKind.wrap_i64]
 omega
def hexS (n:Int):List UInt8:=if 0≤n∧n≤4294967295 then hexL n.toNat else []
theorem zej (n:Int) (h0:0≤n) (h1:n≤4294967295):hexS n=hexL n.toNat:=if_pos ⟨h0,h1⟩
theorem zpf (n:Int) (h:n<0∨4294967295<n):hexS n=[]:=if_neg (by omega)
def inB (x lo hi:Int):Bool:=decide (lo≤x∧x≤hi)
theorem zdG (x lo hi:Int) (h1:lo≤x) (h2:x≤hi):inB x lo hi=true:=decide_eq_true ⟨h1,h2⟩
theorem zcv (x lo hi:Int) (h:x<lo∨hi<x):inB x lo hi=false:=decide_eq_false (by omega)
def zda (l:List UInt8) (at_ to:Int):List UInt8:=if (0≤at_∧at_<l.length)∧(0≤to∧to≤255) then l.set at_.toNat (UInt8.ofNat to.toNat) else l
theorem zkX (l:List UInt8) (at_ to:Int) (h0:0≤at_) (h1:at_<l.length) (h2:0≤to) (h3:to≤255):zda l at_ to=l.set at_.toNat (UInt8.ofNat to.toNat):=if_pos ⟨⟨h0,h1⟩,h2,h3⟩
theorem zmW (l:List UInt8) (at_ to:Int) (h:at_<0∨(l.length:Int)≤at_∨to<0∨255<to):zda l at_ to=l:=if_neg (by omega)
def wrapW (n:Int):Int:=(n+2147483648) % 4294967296-2147483648
def doneV (kind a b:Int):Int :=
 if (-2147483648≤a∧a≤2147483647)∧(-2147483648≤b∧b≤2147483647) then
  (if kind=3 then wrapW (a+b) else if kind=4 then wrapW (a-b) else if kind=5 then wrapW (a*b) else if kind=6∧b≠0 then wrapW (a.tdiv b) else 0)
 else 0
def doneB (kind a b:Int):Bool :=
 decide (((-2147483648≤a∧a≤2147483647)∧(-2147483648≤b∧b≤2147483647))∧(kind=3∨kind=4∨kind=5∨kind=6∧b≠0))
def zan (b:UInt8):List UInt8→List UInt8→List (List UInt8)
 | cur,[]=>[cur]
 | cur,c :: r=>if c=b then cur :: zan b [] r else zan b (cur++[c]) r
def za3 (b:UInt8) (l:List UInt8):List (List UInt8):=zan b [] l
theorem zn7 (b:UInt8) (l:List UInt8):∀ cur,zan b cur l≠[]:=by
 induction l with
 | nil=>intro cur;simp [zan]
 | cons c r ih=>intro cur;rw [zan];split<;>simp [ih]
theorem zfL (b:UInt8) (l:List UInt8):∀ cur,(zan b cur l).flatten.length≤cur.length+l.length:=by
 induction l with
 | nil=>intro cur;simp [zan]
 | cons c r ih =>
  intro cur
  rw [zan]
  split
  ·
   have:=ih [];rw [List.flatten_cons,List.length_append];simp at this ⊢;omega
  ·
   have:=ih (cur++[c]);rw [List.length_append] at this;simp at this ⊢;omega
def zd7 (b:UInt8):List (List UInt8)→List UInt8
 | []=>[]
 | [x]=>x
 | x :: y :: r=>x++[b]++zd7 b (y :: r)
theorem zbB (b:UInt8) (x:List UInt8) (r:List (List UInt8)) (h:r≠[]):zd7 b (x :: r)=x++[b]++zd7 b r:=by
 cases r with
 | nil=>exact absurd rfl h
 | cons y q=>rfl
theorem zfQ (b:UInt8) (l:List UInt8):∀ cur,zd7 b (zan b cur l)=cur++l:=by
 induction l with
 | nil=>intro cur;simp [zan,zd7]
 | cons c r ih =>
  intro cur
  rw [zan]
  split
  ·
   rename_i h
   rw [zbB b cur _ (zn7 b r []),ih,h]
   simp
  ·
   rw [ih];simp
def termJ (ls:List (List UInt8)):List UInt8:=(ls.map (·++[10])).flatten
def linesL (l:List UInt8):List (List UInt8):=if (za3 10 l).getLastD []=[] then (za3 10 l).dropLast else za3 10 l
def zbh (l:List UInt8):List (List UInt8):=if l=[] then [] else za3 32 l
theorem zjE (b:UInt8) (l:List UInt8) (out:List (List UInt8)) (cur:List UInt8) (i:Nat) (hi:i<l.length) (he:l[i]=b) (h:out++zan b cur (l.drop i)=za3 b l):(out++[cur])++zan b [] (l.drop (i+1))=za3 b l:=by
 rw [List.drop_eq_getElem_cons hi,zan,if_pos he] at h
 rw [←h];simp
theorem zhN (b:UInt8) (l:List UInt8) (out:List (List UInt8)) (cur:List UInt8) (i:Nat) (hi:i<l.length) (he:¬l[i]=b) (h:out++zan b cur (l.drop i)=za3 b l):out++zan b (cur++[l[i]]) (l.drop (i+1))=za3 b l:=by
 rw [List.drop_eq_getElem_cons hi,zan,if_neg he] at h
 exact h
theorem zjF (b:UInt8) (l:List UInt8) (out:List (List UInt8)) (cur:List UInt8) (h:out++zan b cur (l.drop l.length)=za3 b l):out++[cur]=za3 b l:=by
 rw [List.drop_length,zan] at h
 exact h
theorem zjf (l:List UInt8) (f i:Nat) (hf:f≤i) (hi:i<l.length):(l.drop f).take (i+1-f)=(l.drop f).take (i-f)++[l[i]]:=by
 have hlt:i-f<(l.drop f).length:=by rw [List.length_drop];omega
 rw [show i+1-f=i-f+1 by omega,List.take_succ_eq_append_getElem hlt,List.getElem_drop]
 congr 2
 congr 1
 omega
def zaF (l:List UInt8):Bool:=decide (1≤l.length∧l.length≤8) && l.all (fun c=>decide (97≤c.toNat∧c.toNat≤122))
theorem zgi (l:List UInt8) (k:Nat) (hk:k<l.length) (h:¬(97≤l[k].toNat∧l[k].toNat≤122)):zaF l=false:=by
 unfold zaF
 have:l.all (fun c=>decide (97≤c.toNat∧c.toNat≤122))=false:=by
  rw [List.all_eq_false]
  exact ⟨l[k],List.getElem_mem hk,by simpa using h⟩
 rw [this,Bool.and_false]
theorem zk5 (l:List UInt8) (h:∀ k (hk:k<l.length),97≤l[k].toNat∧l[k].toNat≤122):zaF l=inB (l.length:Int) 1 8:=by
 have:l.all (fun c=>decide (97≤c.toNat∧c.toNat≤122))=true:=by
  rw [List.all_eq_true]
  intro c hc
  obtain ⟨k,hk,rfl⟩:=List.getElem_of_mem hc
  exact decide_eq_true (h k hk)
 unfold zaF inB
 rw [this,Bool.and_true]
 exact decide_eq_decide.2 (by omega)
theorem zmd {motive:List UInt8→Prop} (nil:motive []) (snoc:∀ l c,motive l→motive (l++[c])) (l:List UInt8):motive l:=by
 have h:∀ r:List UInt8,motive r.reverse:=by
  intro r
  induction r with
  | nil=>exact nil
  | cons c r ih=>rw [List.reverse_cons];exact snoc _ _ ih
 have:=h l.reverse
 rwa [List.reverse_reverse] at this
def zc9 (n:Nat):UInt8:=UInt8.ofNat (48+n % 10)
theorem zcZ (n:Nat):(zc9 n).toNat=48+n % 10:=by
 unfold zc9
 rw [UInt8.toNat_ofNat']
 omega
def digL (n:Nat):List UInt8:=if n<10 then [zc9 n] else digL (n / 10)++[zc9 n]
termination_by n
decreasing_by omega
theorem zpD (n:Nat):digL n≠[]:=by
 rw [digL]
 split<;>simp
theorem zbk {n:Nat} (h:n<10):digL n=[zc9 n]:=by rw [digL,if_pos h]
theorem zes {n:Nat} (h:10≤n):digL n=digL (n / 10)++[zc9 n]:=by rw [digL,if_neg (by omega)]
def zeN (n:Nat) (s:List UInt8):List UInt8:=if n=0∧s≠[] then s else digL n++s
theorem zhh (n:Nat):zeN n []=digL n:=by simp [zeN]
theorem zkD {s:List UInt8} (h:s≠[]):zeN 0 s=s:=by simp [zeN,h]
theorem zip (n:Nat) (s:List UInt8) (h:s=[]∨n≠0):zeN (n / 10) (zc9 n :: s)=zeN n s:=by
 unfold zeN
 rw [if_neg (c:=n=0∧s≠[]) (by rcases h with h | h<;>simp [h])]
 by_cases hn:n<10
 ·
  rw [if_pos ⟨by omega,by simp⟩,zbk hn];rfl
 ·
  rw [if_neg (by omega),zes (n:=n) (by omega)];simp
theorem zer:∀ (k n:Nat),n<10 ^ (k+1)→(digL n).length≤k+1
 | 0,n,h=>by rw [zbk (by simpa using h)];simp
 | k+1,n,h=>by
  by_cases hn:n<10
  ·
   rw [zbk hn];simp
  ·
   rw [zes (by omega)]
   have:=zer k (n / 10) (by rw [Nat.pow_succ] at h;omega)
   simp;omega
theorem zkC (k N:Nat) (s:List UInt8) (h:zeN k s=digL N) (hN:(N:Int)≤9223372036854775808):s.length≤19:=by
 have h1:(digL N).length≤19:=zer 18 N (by omega)
 rw [←h] at h1
 unfold zeN at h1
 split at h1
 ·
  exact h1
 ·
  rw [List.length_append] at h1;omega
def zbe (c:UInt8):Prop:=48≤c.toNat∧c.toNat≤57
instance (c:UInt8):Decidable (zbe c):=by unfold zbe;infer_instance
def valL (l:List UInt8):Nat:=l.foldl (fun v c=>v*10+(c.toNat-48)) 0
theorem zdQ (l:List UInt8) (c:UInt8):valL (l++[c])=valL l*10+(c.toNat-48):=by simp [valL,List.foldl_append]
theorem zkW (l:List UInt8) (h:∀ c∈l,zbe c):valL l<10 ^ l.length:=by
 induction l using zmd with
 | nil=>simp [valL]
 | snoc l c ih =>
  have h1:=ih (fun x hx=>h x (List.mem_append_left _ hx))
  have h2:=h c (by simp)
  unfold zbe at h2
  rw [zdQ,List.length_append,List.length_singleton,Nat.pow_succ]
  omega
theorem zmH (c:UInt8) (h:zbe c) (v:Nat):zc9 (v*10+(c.toNat-48))=c:=by
 apply UInt8.toNat_inj.1
 rw [zcZ]
 unfold zbe at h
 omega
theorem zkE (l:List UInt8) (hl:l≠[]) (h:∀ c∈l,zbe c) (h0:l.head?=some 48→l.length=1):digL (valL l)=l∧(1<l.length→1≤valL l):=by
 induction l using zmd with
 | nil=>exact absurd rfl hl
 | snoc l c ih =>
  have hc:=h c (by simp)
  have hcb:=hc
  unfold zbe at hcb
  rw [zdQ]
  by_cases e:l=[]
  ·
   subst e
   have:valL []=0:=rfl
   rw [this,Nat.zero_mul,Nat.zero_add,zbk (by omega)]
   refine ⟨?_,by simp⟩
   have:=zmH c hc 0
   rw [Nat.zero_mul,Nat.zero_add] at this
   rw [this];rfl
  ·
   have hd:∀ x∈l,zbe x:=fun x hx=>h x (List.mem_append_left _ hx)
   have hh:l.head?≠some 48:=fun e2=>by
    have:=h0 (by rw [List.head?_append,e2];rfl)
    rw [List.length_append,List.length_singleton] at this
    have:=List.length_pos_iff.2 e
    omega
   obtain ⟨i1,i2⟩:=ih e hd (fun e2=>absurd e2 hh)
   have hv:1≤valL l:=by
    by_cases hl1:1<l.length
    ·
     exact i2 hl1
    ·
     obtain ⟨x,rfl⟩:∃ x,l=[x]:=List.length_eq_one_iff.1 (by have:=List.length_pos_iff.2 e;omega)
     have hx:=hd x (by simp)
     unfold zbe at hx
     have hx2:x.toNat≠48:=fun e3=>hh (by simp;exact UInt8.toNat_inj.1 e3)
     have:valL [x]=x.toNat-48:=by simp [valL]
     omega
   refine ⟨?_,fun _=>by omega⟩
   rw [zes (by omega),zmH c hc,show (valL l*10+(c.toNat-48)) / 10=valL l by omega,i1]
def negB (t:List UInt8):Bool:=t.head?==some 45
def zaG (t:List UInt8):List UInt8:=if negB t=true then t.tail else t
def zex (t:List UInt8):Prop:=(1≤(zaG t).length∧(zaG t).length≤10)∧(∀ c∈zaG t,zbe c)∧¬((zaG t).head?=some 48∧1<t.length)
open Classical in
noncomputable def zaH (t:List UInt8):Bool:=decide (zex t)
noncomputable def zah (t:List UInt8):Int:=if zaH t=true then (if negB t=true then -(valL (zaG t):Int) else (valL (zaG t):Int)) else 0
theorem zdi {t:List UInt8} (h:zex t):zaH t=true:=by simp [zaH,h]
theorem readB_no {t:List UInt8} (h:¬zex t):zaH t=false:=by simp [zaH,h]
theorem zgE {t:List UInt8}:zaH t=true↔zex t:=by unfold zaH;simp
def intL (n:Int):List UInt8:=if n<0 then 45 :: digL n.natAbs else digL n.natAbs
theorem zgf (t:List UInt8):-10000000000<zah t∧zah t<10000000000:=by
 unfold zah
 by_cases h:zaH t=true
 ·
  rw [if_pos h]
  obtain ⟨⟨_,h2⟩,h3,_⟩:=zgE.1 h
  have hv:=zkW _ h3
  have:(10:Nat) ^ (zaG t).length≤10 ^ 10:=Nat.pow_le_pow_right (by omega) h2
  split<;>omega
 ·
  rw [if_neg h];omega
theorem zml (t:List UInt8) (h:zaH t=true):(0≤zah t→digL (zah t).natAbs=t)∧(zah t<0→(45:UInt8) :: digL (zah t).natAbs=t):=by
 have hf:=zgE.1 h
 obtain ⟨⟨h1,h2⟩,h3,h4⟩:=hf
 have hne:zaG t≠[]:=fun e=>by rw [e] at h1;simp at h1
 unfold zah
 rw [if_pos h]
 by_cases hn:negB t=true
 ·
  rw [if_pos hn]
  have hb:zaG t=t.tail:=by unfold zaG;rw [if_pos hn]
  have ht:t=45 :: t.tail:=by
   unfold negB at hn
   cases t with
   | nil=>simp at hn
   | cons x r=>simp at hn;rw [hn];rfl
  have hlen:1<t.length:=by rw [ht,←hb];simp;omega
  have hd:=zkE (zaG t) hne h3 (fun e=>absurd ⟨e,hlen⟩ h4)
  have hpos:1≤valL (zaG t):=by
   by_cases hl1:1<(zaG t).length
   ·
    exact hd.2 hl1
   ·
    obtain ⟨x,hx⟩:∃ x,zaG t=[x]:=List.length_eq_one_iff.1 (by omega)
    rw [hx]
    have hxd:=h3 x (by rw [hx];simp)
    unfold zbe at hxd
    have hx2:x.toNat≠48:=fun e=>h4 ⟨by rw [hx];simp;exact UInt8.toNat_inj.1 e,hlen⟩
    have:valL [x]=x.toNat-48:=by simp [valL]
    omega
  refine ⟨fun h0=>by omega,fun _=>?_⟩
  rw [show (-(valL (zaG t):Int)).natAbs=valL (zaG t) by omega,hd.1,hb,←ht]
 ·
  rw [if_neg hn]
  have hb:zaG t=t:=by unfold zaG;rw [if_neg hn]
  have hd:=zkE (zaG t) hne h3 (fun e=>by rw [hb] at e h1 ⊢;rw [hb] at h4;have:¬1<t.length:=fun x=>h4 ⟨e,x⟩;omega)
  refine ⟨fun _=>?_,fun h0=>by omega⟩
  rw [show ((valL (zaG t):Int)).natAbs=valL (zaG t) by omega,hd.1,hb]
noncomputable def numB (t:List UInt8):Bool:=zaH t && inB (zah t) (-2147483648) 2147483647
noncomputable def numV (t:List UInt8):Int:=if numB t=true then zah t else 0

abbrev Nd:=Int × Int × List UInt8 × List UInt8
def zdC (n:Nd):Prop :=
 (n.1=1∧(-2147483648≤n.2.1∧n.2.1≤2147483647)∧n.2.2.1=[]∧n.2.2.2=[]) ∨
 (n.1=2∧(0≤n.2.1∧n.2.1≤2)∧n.2.2.1=[]∧n.2.2.2=[]) ∨
 ((3≤n.1∧n.1≤7)∧n.2.1=0∧n.2.2.1=[]∧n.2.2.2=[]) ∨
 (n.1=8∧(0≤n.2.1∧n.2.1≤3)∧zaF n.2.2.1=true∧zaF n.2.2.2=true)
instance (n:Nd):Decidable (zdC n):=by unfold zdC;infer_instance
def zaQ (n:Nd):Bool:=decide (zdC n)
theorem zdZ {n:Nd}:zaQ n=true↔zdC n:=by unfold zaQ;simp
theorem zmr {n:Nd} (h:¬zdC n):zaQ n=false:=decide_eq_false h
def zcu (n:Nd):Nat:=if 3≤n.1∧n.1≤6 then 2 else if n.1=7 then 3 else if n.1=8 then n.2.1.toNat else 0
def zbt (n:Nd):Int:=if 3≤n.1∧n.1≤6 then 2 else if n.1=7 then 3 else if n.1=8 then n.2.1 else 0
def zcz (n:Nd):Int:=if zaQ n=true then zbt n else -1
theorem zmv {n:Nd} (h:zaQ n=true):zbt n=(zcu n:Int)∧zcu n≤3:=by
 have hp:=zdZ.1 h
 unfold zdC at hp
 unfold zbt zcu
 rcases hp with ⟨h1,_⟩ | ⟨h1,_⟩ | ⟨h1,_⟩ | ⟨h1,h2,_⟩
 ·
  rw [if_neg (by omega),if_neg (by omega),if_neg (by omega),if_neg (by omega),if_neg (by omega),if_neg (by omega)];omega
 ·
  rw [if_neg (by omega),if_neg (by omega),if_neg (by omega),if_neg (by omega),if_neg (by omega),if_neg (by omega)];omega
 ·
  by_cases e:n.1=7
  ·
   rw [if_neg (by omega),if_pos e,if_neg (by omega),if_pos e];omega
  ·
   rw [if_pos (by omega),if_pos (by omega)];omega
 ·
  rw [if_neg (by omega),if_neg (by omega),if_pos h1,if_neg (by omega),if_neg (by omega),if_pos h1];omega
def zbM:List Nd→Nat→Option Nat
 | _,0=>some 0
 | [],_+1=>none
 | n :: r,o+1=>if zaQ n=true then (zbM r (o+zcu n)).map (·+1) else none
theorem zcP (l:List Nd):zbM l 0=some 0:=by cases l<;>rfl
theorem zcx (o:Nat):zbM [] (o+1)=none:=rfl
theorem zba (n:Nd) (r:List Nd) (o:Nat):zbM (n :: r) (o+1)=if zaQ n=true then (zbM r (o+zcu n)).map (·+1) else none:=rfl
theorem zmF:∀ (l:List Nd) (o d:Nat),zbM l o=some d→d≤l.length
 | l,0,d,h=>by rw [zcP] at h;injection h with h;omega
 | [],o+1,d,h=>by rw [zcx] at h;cases h
 | n :: r,o+1,d,h=>by
  rw [zba] at h
  split at h
  ·
   rw [Option.map_eq_some_iff] at h
   obtain ⟨e,he,rfl⟩:=h
   have:=zmF r _ e he
   simp;omega
  ·
   cases h
def endN (l:List Nd) (k:Nat):Int:=if k<l.length then (match zbM (l.drop k) 1 with | some d=>(k:Int)+d | none=>-1) else -1
def endV (l:List Nd) (a:Int):Int:=if a<0 then -1 else endN l a.toNat
theorem zeq (l:List Nd) (k:Nat):endV l (k:Int)=endN l k:=by unfold endV;rw [if_neg (by omega),Int.toNat_natCast]
theorem zje (l:List Nd) (a:Int) (h:a<0∨(l.length:Int)≤a):endV l a=-1:=by
 unfold endV
 by_cases h0:a<0
 ·
  rw [if_pos h0]
 ·
  rw [if_neg h0];unfold endN;rw [if_neg (by omega)]
def zcc (l:List Nd):Bool:=decide ((1≤l.length∧l.length≤60)∧endV l 0=(l.length:Int))
theorem zpu {l:List Nd} {k o:Nat} (hk:k<l.length) (hn:zaQ l[k]=true):zbM (l.drop k) (o+1)=(zbM (l.drop (k+1)) (o+zcu l[k])).map (·+1):=by
 rw [List.drop_eq_getElem_cons hk,zba,if_pos hn]
theorem end_bad {l:List Nd} {k o:Nat} (hk:k<l.length) (hn:zaQ l[k]=false):zbM (l.drop k) (o+1)=none:=by
 rw [List.drop_eq_getElem_cons hk,zba,if_neg (by rw [hn];simp)]
theorem end_over {l:List Nd} {k o:Nat} (hk:l.length≤k):zbM (l.drop k) (o+1)=none:=by
 rw [List.drop_eq_nil_of_le hk,zcx]
def showN (n:Nd):List UInt8 :=
 if n.1=1 then intL n.2.1
 else if n.1=2 then 36 :: intL n.2.1
 else if n.1=3 then [43]
 else if n.1=4 then [45]
 else if n.1=5 then [42]
 else if n.1=6 then [47]
 else if n.1=7 then [63]
 else (64 :: n.2.2.1)++[46]++n.2.2.2++[47]++intL n.2.1
def showL (l:List Nd):List UInt8:=zd7 32 (l.map showN)
def showT (l:List Nd):List UInt8:=if zcc l=true then showL l else []
theorem zhg (n:Nat):zbe (zc9 n):=by unfold zbe;rw [zcZ];omega
theorem zmI:∀ (k n:Nat),n<10 ^ (k+1)→∀ c∈digL n,zbe c
 | 0,n,h,c,hc=>by
  rw [zbk (by simpa using h)] at hc
  simp at hc;subst hc;exact zhg n
 | k+1,n,h,c,hc=>by
  by_cases hn:n<10
  ·
   rw [zbk hn] at hc;simp at hc;subst hc;exact zhg n
  ·
   rw [zes (by omega)] at hc
   rcases List.mem_append.1 hc with hc | hc
   ·
    exact zmI k (n / 10) (by rw [Nat.pow_succ] at h;omega) c hc
   ·
    simp at hc;subst hc;exact zhg n
theorem zjv:∀ (k n:Nat),n<10 ^ (k+1)→valL (digL n)=n
 | 0,n,h=>by
  have h10:n<10:=by simpa using h
  rw [zbk h10]
  have:valL [zc9 n]=(zc9 n).toNat-48:=by simp [valL]
  rw [this,zcZ];omega
 | k+1,n,h=>by
  by_cases hn:n<10
  ·
   rw [zbk hn]
   have:valL [zc9 n]=(zc9 n).toNat-48:=by simp [valL]
   rw [this,zcZ];omega
  ·
   rw [zes (by omega),zdQ,zjv k (n / 10) (by rw [Nat.pow_succ] at h;omega),zcZ];omega
theorem zkF:∀ (k n:Nat),n<10 ^ (k+1)→(digL n).head?=some 48→n=0
 | 0,n,h,hh=>by
  have h10:n<10:=by simpa using h
  rw [zbk h10] at hh
  simp at hh
  have:=congrArg UInt8.toNat hh
  rw [zcZ] at this
  have h48:(48:UInt8).toNat=48:=rfl
  omega
 | k+1,n,h,hh=>by
  by_cases hn:n<10
  ·
   rw [zbk hn] at hh
   simp at hh
   have:=congrArg UInt8.toNat hh
   rw [zcZ] at this
   have h48:(48:UInt8).toNat=48:=rfl
   omega
  ·
   rw [zes (by omega)] at hh
   have hne:=zpD (n / 10)
   rw [List.head?_append] at hh
   cases hd:(digL (n / 10)).head? with
   | none=>rw [List.head?_eq_none_iff] at hd;exact absurd hd hne
   | some x =>
    rw [hd] at hh
    have:=zkF k (n / 10) (by rw [Nat.pow_succ] at h;omega) (by rw [hd];exact hh)
    omega
theorem zdx (a:Int) (h0:-2147483648≤a) (h1:a≤2147483647):zaH (intL a)=true∧zah (intL a)=a:=by
 have hlt:a.natAbs<10 ^ (9+1):=by omega
 have hdig:=zmI 9 a.natAbs hlt
 have hval:=zjv 9 a.natAbs hlt
 have hlen:=zer 9 a.natAbs hlt
 have hne:=zpD a.natAbs
 have hpos:=List.length_pos_iff.2 hne
 have hhead:=zkF 9 a.natAbs hlt
 by_cases hn:a<0
 ·
  have e:intL a=45 :: digL a.natAbs:=by unfold intL;rw [if_pos hn]
  rw [e]
  have hneg:negB (45 :: digL a.natAbs)=true:=rfl
  have hbody:zaG (45 :: digL a.natAbs)=digL a.natAbs:=by unfold zaG;rw [if_pos hneg];rfl
  have hf:zex (45 :: digL a.natAbs):=⟨by rw [hbody];omega,by rw [hbody];exact hdig,by rw [hbody];intro hx;have:=hhead hx.1;omega⟩
  have hb:=zdi hf
  refine ⟨hb,?_⟩
  unfold zah
  rw [if_pos hb,if_pos hneg,hbody,hval]
  omega
 ·
  have e:intL a=digL a.natAbs:=by unfold intL;rw [if_neg hn]
  rw [e]
  have hneg:negB (digL a.natAbs)=false:=by
   unfold negB
   rw [beq_eq_false_iff_ne]
   intro hx
   have hm:(45:UInt8)∈digL a.natAbs:=List.mem_of_mem_head? (by rw [hx];rfl)
   have:=hdig 45 hm
   unfold zbe at this
   have h45:(45:UInt8).toNat=45:=rfl
   omega
  have hbody:zaG (digL a.natAbs)=digL a.natAbs:=by unfold zaG;rw [if_neg (by rw [hneg];simp)]
  have hf:zex (digL a.natAbs):=⟨by rw [hbody];omega,by rw [hbody];exact hdig,by
   rw [hbody];intro hx
   have h00:=hhead hx.1
   rw [h00,zbk (by omega)] at hx
   simp at hx⟩
  have hb:=zdi hf
  refine ⟨hb,?_⟩
  unfold zah
  rw [if_pos hb,if_neg (by rw [hneg];simp),hbody,hval]
  omega
theorem zn5 (b:UInt8) (l:List UInt8):∀ cur,(∀ c∈l,c≠b)→zan b cur l=[cur++l]:=by
 induction l with
 | nil=>intro cur _;simp [zan]
 | cons c r ih =>
  intro cur h
  rw [zan,if_neg (h c (by simp)),ih _ (fun x hx=>h x (by simp [hx]))]
  simp
theorem zo8 (b:UInt8) (x y:List UInt8):∀ cur,(∀ c∈x,c≠b)→zan b cur (x++b :: y)=(cur++x) :: zan b [] y:=by
 induction x with
 | nil=>intro cur _;simp [zan]
 | cons c r ih =>
  intro cur h
  rw [List.cons_append,zan,if_neg (h c (by simp)),ih _ (fun z hz=>h z (by simp [hz]))]
  simp
theorem zhO (b:UInt8) (ws:List (List UInt8)) (hne:ws≠[]) (h:∀ x∈ws,∀ c∈x,c≠b):za3 b (zd7 b ws)=ws:=by
 unfold za3
 induction ws with
 | nil=>exact absurd rfl hne
 | cons x r ih =>
  by_cases hr:r=[]
  ·
   subst hr
   rw [show zd7 b [x]=x from rfl,zn5 b x [] (h x (by simp))]
   simp
  ·
   rw [zbB b x r hr,List.append_assoc,List.singleton_append,zo8 b x _ [] (h x (by simp)),ih hr (fun y hy=>h y (by simp [hy]))]
   simp
noncomputable def readN (s:List UInt8):Nd :=
 if s=[] then (0,0,[],[])
 else if s.head?=some 36 then (2,zah s.tail,[],[])
 else if s.head?=some 43 then (3,0,[],[])
 else if s.head?=some 42 then (5,0,[],[])
 else if s.head?=some 47 then (6,0,[],[])
 else if s.head?=some 63 then (7,0,[],[])
 else if s.head?=some 64 then
  (if (za3 47 s.tail).length=2∧(za3 46 ((za3 47 s.tail).getD 0 [])).length=2
   then (8,zah ((za3 47 s.tail).getD 1 []),(za3 46 ((za3 47 s.tail).getD 0 [])).getD 0 [],(za3 46 ((za3 47 s.tail).getD 0 [])).getD 1 []) else (0,0,[],[]))
 else if s=[45] then (4,0,[],[])
 else (1,zah s,[],[])
theorem zcr {l:List UInt8} (h:zaF l=true):(1≤l.length∧l.length≤8)∧∀ c∈l,97≤c.toNat∧c.toNat≤122:=by
 unfold zaF at h
 rw [Bool.and_eq_true,List.all_eq_true] at h
 exact ⟨of_decide_eq_true h.1,fun c hc=>of_decide_eq_true (h.2 c hc)⟩
theorem ziA {l:List Nd} (h:zcc l=true):(1≤l.length∧l.length≤60)∧zbM l 1=some l.length:=by
 obtain ⟨h1,h2⟩:=of_decide_eq_true h
 refine ⟨h1,?_⟩
 have e:=zeq l 0
 rw [Int.natCast_zero] at e
 rw [e] at h2
 unfold endN at h2
 rw [if_pos (by omega),List.drop_zero] at h2
 cases hg:zbM l 1 with
 | none=>rw [hg] at h2;simp at h2
 | some d=>rw [hg] at h2;simp at h2;congr 1;omega
noncomputable def readT (s:List UInt8):List Nd:=(za3 32 s).map readN
noncomputable def readOk (s:List UInt8):Bool:=decide (s.length≤2000) && (zcc (readT s) && (showL (readT s)==s))
noncomputable def readTV (s:List UInt8):List Nd:=if readOk s=true then readT s else []
theorem zkz:∀ (l:List Nd) (a b:Nat),zbM l (a+b)=(zbM l a).bind (fun d=>(zbM (l.drop d) b).map (d+·))
 | l,0,b=>by
  rw [Nat.zero_add,zcP]
  simp
 | [],a+1,b=>by
  rw [show a+1+b=(a+b)+1 by omega,zcx,zcx];rfl
 | n :: r,a+1,b=>by
  rw [show a+1+b=(a+b)+1 by omega,zba,zba]
  split
  ·
   rw [show a+b+zcu n=(a+zcu n)+b by omega,zkz r (a+zcu n) b]
   cases zbM r (a+zcu n) with
   | none=>rfl
   | some d =>
    simp only [Option.bind_some,Option.map_some,List.drop_succ_cons,Option.map_map]
    congr 1
    funext x
    simp only [Function.comp]
    omega
  ·
   rfl
def zoA (l:List Nd):Nat→Int→List Int
 | 0,_=>[]
 | k+1,next=>next :: zoA l k (endV l next)
def partsV (l:List Nd) (a:Int):List Int:=if endV l a<0 then [] else zoA l (zcu (l.getD a.toNat (0,0,[],[]))) (a+1)
def chain (l:List Nd):Nat→Int→Int
 | 0,next=>next
 | k+1,next=>chain l k (endV l next)
theorem zfi {l:List Nd} {k d:Nat} (h:zbM (l.drop k) 1=some d) (hk:k<l.length):endN l k=(k:Int)+d:=by
 unfold endN;rw [if_pos hk,h]
theorem zpv {l:List Nd} {o d:Nat} (h:zbM l (o+1)=some d):1≤d∧l≠[]:=by
 cases l with
 | nil=>rw [zcx] at h;cases h
 | cons n r =>
  rw [zba] at h
  split at h
  ·
   rw [Option.map_eq_some_iff] at h
   obtain ⟨e,_,rfl⟩:=h
   exact ⟨by omega,by simp⟩
  ·
   cases h
theorem zkK (l:List Nd):∀ (o k d:Nat),zbM (l.drop k) o=some d→k+d≤l.length→chain l o (k:Int)=((k+d:Nat):Int)
 | 0,k,d,h,_=>by
  rw [zcP] at h
  injection h with h
  subst h
  rfl
 | o+1,k,d,h,hle=>by
  have h2:=zkz (l.drop k) 1 o
  rw [show 1+o=o+1 by omega,h] at h2
  cases he:zbM (l.drop k) 1 with
  | none=>rw [he] at h2;simp at h2
  | some e =>
   rw [he] at h2
   simp only [Option.bind_some] at h2
   cases hf:zbM ((l.drop k).drop e) o with
   | none=>rw [hf] at h2;simp at h2
   | some f =>
    rw [hf] at h2
    simp only [Option.map_some,Option.some.injEq] at h2
    have hk:k<l.length:=by
     have:=(zpv he).2
     rcases Nat.lt_or_ge k l.length with hx | hx
     ·
      exact hx
     ·
      exact absurd (List.drop_eq_nil_of_le hx) this
    rw [chain,zeq,zfi he hk]
    have:=zkK l o (k+e) f (by rw [List.drop_drop] at hf;exact hf) (by omega)
    rw [show ((k:Int)+(e:Int))=((k+e:Nat):Int) by omega,this]
    congr 1
    omega
theorem zhc {l:List Nd} {k:Nat} (h:0≤endV l (k:Int)):k<l.length∧zaQ (l.getD k (0,0,[],[]))=true∧chain l (zcu (l.getD k (0,0,[],[]))) ((k:Int)+1)=endV l (k:Int)∧(k:Int)<endV l (k:Int)∧endV l (k:Int)≤l.length:=by
 rw [zeq] at h ⊢
 unfold endN at h
 by_cases hk:k<l.length
 ·
  rw [if_pos hk] at h
  cases he:zbM (l.drop k) 1 with
  | none=>rw [he] at h;simp at h
  | some d =>
   have hd:l.drop k=l[k] :: l.drop (k+1):=List.drop_eq_getElem_cons hk
   have hg:l.getD k (0,0,[],[])=l[k]:=by simp [List.getD,hk]
   rw [hg]
   have hle:=zmF _ _ _ he
   rw [List.length_drop] at hle
   have he2:=he
   rw [hd,show (1:Nat)=0+1 from rfl,zba] at he2
   split at he2
   ·
    rename_i hn
    rw [Option.map_eq_some_iff] at he2
    obtain ⟨e,hee,rfl⟩:=he2
    have hc:=zkK l (zcu l[k]) (k+1) e (by rw [←hee];congr 1;omega) (by omega)
    rw [zfi he hk]
    refine ⟨hk,hn,?_,by omega,by omega⟩
    rw [show ((k:Int)+1)=((k+1:Nat):Int) by omega,hc]
    omega
   ·
    cases he2
 ·
  rw [if_neg hk] at h;omega
section
theorem ret_str2 {a b:ByteArray} (h:a=b):Ending.returned (.string a)=.returned (.string b):=by rw [h]
theorem zpQ {a b:ByteArray} (h:a.data.toList=b.data.toList):a=b:=by
 cases a;cases b;simp_all
theorem zmV (s:ByteArray) (a t:Int) (h0:0≤a) (h1:a<s.size) (h2:0≤t) (h3:t≤255) :
 s.extract 0 a.toNat++⟨#[UInt8.ofNat t.toNat]⟩++s.extract (a+1).toNat s.size=⟨(zda s.data.toList a t).toArray⟩:=by
 have hl:s.data.toList.length=s.size:=by simp
 rw [zkX _ _ _ h0 (by rw [hl];exact h1) h2 h3]
 obtain ⟨k,rfl⟩:=Int.eq_ofNat_of_zero_le h0
 apply zpQ
 have e:((k:Int)+1).toNat=k+1:=by omega
 rw [e]
 simp only [ByteArray.data_append,ByteArray.data_extract,Array.toList_append,Array.toList_extract,Int.toNat_natCast,List.extract_eq_take_drop,List.drop_zero,Nat.sub_zero]
 rw [List.set_eq_take_append_cons_drop,if_pos (by rw [hl];omega),List.take_of_length_le (l:=List.drop (k+1) s.data.toList) (by simp)]
 simp
end
end Go.Proofs.YtdbljnddkbpanaaGreatDoor
