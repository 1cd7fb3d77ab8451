/-
  Parts of one proof, one behind the other: Math1, Math4, Math5, Math5N, Math5J, Math6, Math6R, Math6P, MathT, Own.
-/
import Derived.WalkKit
import Derived.IntWalk
import Derived.Laws.Bits128
import Derived.Test.YtponeoijfaepnaaGreatDoorRows
import Derived.WalkLawsBesides
import Derived.Laws.OwnMore
import Derived.Laws.IdiomStrings
import Derived.Maps.AppendAt
import Derived.OpenShut
import Derived.Handy
import Derived.Deep.RegionHeld
import Derived.RegionTactic
import Derived.OrdersHeld
import Derived.Laws.Concat
import Derived.Maps.Range
import Derived.Lib.AppendStr
import Derived.Deep.RegionHeld3
import Derived.Lib.Bytealg
import Derived.BigQuiet
import Derived.Deep.Cut
import Derived.Deep.RegionLaw
import Derived.Deep.DrawnRows
import Derived.Laws.IdiomCopy
import Derived.Deep.RegionWith
import Derived.SliceStrings
import Derived.ProofKit
import Derived.ShutString
import Derived.ChangeOld
import Derived.Below
import Derived.Laws.StructEq
import Derived.OneCell
import Derived.Laws.Externs
import Derived.Lib.SmallJoins
import Derived.Deep.CutRange
import Derived.Scope
import Derived.WalkMore
import Derived.Lib.Strings
import Derived.Lib.Walk
import Derived.Lib.BufferWrite
import Derived.Lib.UnsafeStr
import Derived.Lib.Hide
import Derived.Laws.MakeOwn
import Derived.Lib.ItoaNum
import Derived.Lib.Join
import Derived.Shelf.Small.Strs
import Derived.Shelf.Strconv.Itoa0
import Derived.Shelf.Strconv.Itoa1
import Derived.Shelf.LaysM
import Derived.Shelf.Strconv.Itoa2
import Derived.Shelf.Strconv.Itoa3
import Derived.Shelf.Strconv.Itoa4
import Derived.Shelf.Strings.Search1
import Derived.Shelf.Strings.Prefix
import Derived.Test.YtponeoijfaepnaaGreatDoorProg
import Derived.Lib.AppendIntMem
import Derived.Lib.LaidTab
import Derived.LaidEql
import Derived.Stop.Asserts
import Derived.RowKitTokens
import Derived.Deep.Quiet
import Derived.Laws.Rows
import Derived.Laws.CopyOwn
import Derived.Sort.OwnSortedInts
import Derived.RangeFuncNested
import Derived.RangeFuncBound
import Derived.RangeFuncCalls
import Derived.RangeFuncLeaves
import Derived.RangeFuncBox
import Derived.Shelf.Abstract
import Derived.Shelf.RegionOpen
import Derived.OwnWalkIn
import Derived.TacticsInMore
import Derived.LoopNIn
import Derived.LoopIn
import Derived.LaidLaws
import Derived.Stop.LaidErr
import Derived.LaidHandle
namespace Go.Proofs.YtponeoijfaepnaaGreatDoor
open Go.RowKit
def zbL (h:Int) (b:UInt8):Int:=(1000003*h+(b.toNat:Int)+1) % 2147483647
def zbZ (l:List UInt8):Int:=l.foldl zbL 17
theorem w64 (n:Int) (h:-9223372036854775808≤n∧n≤9223372036854775807):wrap64 n=n:=by unfold wrap64;omega
theorem stepW (h:Int) (b:UInt8) (h0:0≤h∧h<2147483647):((wrap64 (wrap64 (1000003*h+wrap64 (b.toNat:Int))+1)).tmod 2147483647)=zbL h b:=by
 have hb:=b.toNat_lt;rw [w64 (b.toNat:Int) (by omega),w64 (1000003*h+(b.toNat:Int)) (by omega),w64 _ (by omega),Int.tmod_eq_emod_of_nonneg (by omega)]
 rfl
theorem zlf (h:Int) (b:UInt8):0≤zbL h b∧zbL h b<2147483647:=by
 unfold zbL;omega
theorem foldl_bd (l:List UInt8) (h:Int) (h0:0≤h∧h<2147483647):0≤l.foldl zbL h∧l.foldl zbL h<2147483647:=by
 induction l generalizing h with
 | nil=>exact h0
 | cons b r ih=>exact ih _ (zlf h b)
theorem zgc (l:List UInt8):0≤zbZ l∧zbZ l<2147483647:=foldl_bd l 17 (by omega)
theorem znc (l:List UInt8) (c:UInt8):zbZ (l++[c])=zbL (zbZ l) c:=by
 unfold zbZ;rw [List.foldl_append];rfl
theorem ziY (s:ByteArray) (k:Nat) (h:k<s.size):s.data.toList.take (k+1)=s.data.toList.take k++[s[k]]:=by
 rw [List.take_succ_eq_append_getElem (by simpa using h)];rfl
theorem zhL (s:ByteArray) (k:Nat) (h:k<s.size):zbZ (s.data.toList.take (k+1))=zbL (zbZ (s.data.toList.take k)) s[k]:=by
 rw [ziY s k h,znc]
theorem zdI {k:IntKind} {a b:Int} (h:a=b):Ending.returned (.int k a)=.returned (.int k b):=by rw [h]
def hexDs:List UInt8:=[48,49,50,51,52,53,54,55,56,57,97,98,99,100,101,102]
def hexD (n:Nat):UInt8:=hexDs.getD n 0
theorem zoP (m:Int) (h:m.toNat<(ByteArray.mk #[48,49,50,51,52,53,54,55,56,57,97,98,99,100,101,102]).size):(ByteArray.mk #[48,49,50,51,52,53,54,55,56,57,97,98,99,100,101,102])[m.toNat]=hexD m.toNat:=by
 have h':m.toNat<16:=h;generalize m.toNat=k at *;unfold hexD hexDs;rw [List.getD_eq_getElem?_getD,List.getElem?_eq_getElem (by simpa using h')]
 rfl
def hexL (n:Nat):List UInt8:=[hexD (n / 268435456 % 16),hexD (n / 16777216 % 16),hexD (n / 1048576 % 16),hexD (n / 65536 % 16),hexD (n / 4096 % 16),hexD (n / 256 % 16),hexD (n / 16 % 16),hexD (n % 16)]
theorem hexW (n:Int) (h0:0≤n):#[hexD (n / 16 / 16 / 16 / 16 / 16 / 16 / 16 % 16).toNat,hexD (n / 16 / 16 / 16 / 16 / 16 / 16 % 16).toNat,hexD (n / 16 / 16 / 16 / 16 / 16 % 16).toNat,hexD (n / 16 / 16 / 16 / 16 % 16).toNat,hexD (n / 16 / 16 / 16 % 16).toNat,hexD (n / 16 / 16 % 16).toNat,hexD (n / 16 % 16).toNat,hexD (n % 16).toNat]=(hexL n.toNat).toArray:=by
 unfold hexL
 rw [show (n / 16 / 16 / 16 / 16 / 16 / 16 / 16 % 16).toNat=n.toNat / 268435456 % 16 by omega,show (n / 16 / 16 / 16 / 16 / 16 / 16 % 16).toNat=n.toNat / 16777216 % 16 by omega,
  show (n / 16 / 16 / 16 / 16 / 16 % 16).toNat=n.toNat / 1048576 % 16 by omega,show (n / 16 / 16 / 16 / 16 % 16).toNat=n.toNat / 65536 % 16 by omega,
  show (n / 16 / 16 / 16 % 16).toNat=n.toNat / 4096 % 16 by omega,show (n / 16 / 16 % 16).toNat=n.toNat / 256 % 16 by omega,
  show (n / 16 % 16).toNat=n.toNat / 16 % 16 by omega,show (n % 16).toNat=n.toNat % 16 by omega]
theorem zgq {a b:Array UInt8} (h:a=b):Ending.returned (.string ⟨a⟩)=.returned (.string ⟨b⟩):=by rw [h]
theorem and15 (n:Int):bits .and .i64 n 15=n % 16:=by
 have h15:(BitVec.ofInt 64 15).toNat=2 ^ 4-1:=by decide
 have key:(BitVec.ofInt 64 n &&& BitVec.ofInt 64 15).toNat=(n % ((2 ^ 64:Nat):Int)).toNat % 2 ^ 4:=by rw [BitVec.toNat_and,BitVec.toNat_ofInt,h15,Nat.and_two_pow_sub_one_eq_mod]
 show IntKind.i64.wrap ((BitVec.ofInt 64 n &&& BitVec.ofInt 64 15).toNat:Nat)=n % 16
 rw [key,IntKind.wrap_i64];omega
theorem and255 (n:Int):bits .and .i64 n 255=n % 256:=by
 have h15:(BitVec.ofInt 64 255).toNat=2 ^ 8-1:=by decide
 have key:(BitVec.ofInt 64 n &&& BitVec.ofInt 64 255).toNat=(n % ((2 ^ 64:Nat):Int)).toNat % 2 ^ 8:=by rw [BitVec.toNat_and,BitVec.toNat_ofInt,h15,Nat.and_two_pow_sub_one_eq_mod]
 show IntKind.i64.wrap ((BitVec.ofInt 64 n &&& BitVec.ofInt 64 255).toNat:Nat)=n % 256
 rw [key,IntKind.wrap_i64];omega
def hexS (n:Int):List UInt8:=if 0≤n∧n≤4294967295 then hexL n.toNat else []
theorem ze6 (n:Int) (h0:0≤n) (h1:n≤4294967295):hexS n=hexL n.toNat:=if_pos ⟨h0,h1⟩
theorem zoN (n:Int) (h:n<0∨4294967295<n):hexS n=[]:=if_neg (by omega)
def inB (x lo hi:Int):Bool:=decide (lo≤x∧x≤hi)
theorem zdO (x lo hi:Int) (h1:lo≤x) (h2:x≤hi):inB x lo hi=true:=decide_eq_true ⟨h1,h2⟩
theorem zcx (x lo hi:Int) (h:x<lo∨hi<x):inB x lo hi=false:=decide_eq_false (by omega)

def zas (b:UInt8):List UInt8→List UInt8→List (List UInt8)
 | cur,[]=>[cur]
 | cur,c :: r=>if c=b then cur :: zas b [] r else zas b (cur++[c]) r
def zaq (b:UInt8) (l:List UInt8):List (List UInt8):=zas b [] l
theorem zmz (b:UInt8) (l:List UInt8):∀ cur,zas b cur l≠[]:=by
 induction l with
 | nil=>intro cur;simp [zas]
 | cons c r ih=>intro cur;rw [zas];split<;>simp [ih]
theorem zj4 (b:UInt8) (l:List UInt8):∀ cur,(zas b cur l).flatten.length≤cur.length+l.length:=by
 induction l with
 | nil=>intro cur;simp [zas]
 | cons c r ih =>
  intro cur;rw [zas]
  split
  ·have:=ih [];rw [List.flatten_cons,List.length_append];simp at this ⊢;omega
  ·have:=ih (cur++[c]);rw [List.length_append] at this;simp at this ⊢;omega
def zdf (b:UInt8):List (List UInt8)→List UInt8
 | []=>[]
 | [x]=>x
 | x :: y :: r=>x++[b]++zdf b (y :: r)
theorem zbE (b:UInt8) (x:List UInt8) (r:List (List UInt8)) (h:r≠[]):zdf b (x :: r)=x++[b]++zdf b r:=by
 cases r with
 | nil=>exact absurd rfl h
 | cons y q=>rfl
theorem zfM (b:UInt8) (l:List UInt8):∀ cur,zdf b (zas b cur l)=cur++l:=by
 induction l with
 | nil=>intro cur;simp [zas,zdf]
 | cons c r ih =>
  intro cur;rw [zas]
  split
  ·rename_i h;rw [zbE b cur _ (zmz b r []),ih,h];simp
  ·rw [ih];simp
theorem znJ (b:UInt8) (l:List UInt8) (out:List (List UInt8)) (cur:List UInt8) (i:Nat) (hi:i<l.length) (he:l[i]=b) (h:out++zas b cur (l.drop i)=zaq b l):(out++[cur])++zas b [] (l.drop (i+1))=zaq b l:=by
 rw [List.drop_eq_getElem_cons hi,zas,if_pos he] at h;rw [←h];simp
theorem zmx (b:UInt8) (l:List UInt8) (out:List (List UInt8)) (cur:List UInt8) (i:Nat) (hi:i<l.length) (he:¬l[i]=b) (h:out++zas b cur (l.drop i)=zaq b l):out++zas b (cur++[l[i]]) (l.drop (i+1))=zaq b l:=by
 rw [List.drop_eq_getElem_cons hi,zas,if_neg he] at h;exact h
theorem znK (b:UInt8) (l:List UInt8) (out:List (List UInt8)) (cur:List UInt8) (h:out++zas b cur (l.drop l.length)=zaq b l):out++[cur]=zaq b l:=by
 rw [List.drop_length,zas] at h;exact h
theorem zmf (l:List UInt8) (f i:Nat) (hf:f≤i) (hi:i<l.length):(l.drop f).take (i+1-f)=(l.drop f).take (i-f)++[l[i]]:=by
 have hlt:i-f<(l.drop f).length:=by rw [List.length_drop];omega
 rw [show i+1-f=i-f+1 by omega,List.take_succ_eq_append_getElem hlt,List.getElem_drop];congr 2
 congr 1
 omega
def zaE (l:List UInt8):Bool:=decide (1≤l.length∧l.length≤8) && l.all (fun c=>decide (97≤c.toNat∧c.toNat≤122))
theorem zgb (l:List UInt8) (k:Nat) (hk:k<l.length) (h:¬(97≤l[k].toNat∧l[k].toNat≤122)):zaE l=false:=by
 unfold zaE
 have:l.all (fun c=>decide (97≤c.toNat∧c.toNat≤122))=false:=by rw [List.all_eq_false];exact ⟨l[k],List.getElem_mem hk,by simpa using h⟩
 rw [this,Bool.and_false]
theorem zjy (l:List UInt8) (h:∀ k (hk:k<l.length),97≤l[k].toNat∧l[k].toNat≤122):zaE l=inB (l.length:Int) 1 8:=by
 have:l.all (fun c=>decide (97≤c.toNat∧c.toNat≤122))=true:=by rw [List.all_eq_true];intro c hc;obtain ⟨k,hk,rfl⟩:=List.getElem_of_mem hc;exact decide_eq_true (h k hk)
 unfold zaE inB;rw [this,Bool.and_true];exact decide_eq_decide.2 (by omega)
theorem zlF {motive:List UInt8→Prop} (nil:motive []) (snoc:∀ l c,motive l→motive (l++[c])) (l:List UInt8):motive l:=by
 have h:∀ r:List UInt8,motive r.reverse:=by
  intro r
  induction r with
  | nil=>exact nil
  | cons c r ih=>rw [List.reverse_cons];exact snoc _ _ ih
 have:=h l.reverse
 rwa [List.reverse_reverse] at this
def zc6 (n:Nat):UInt8:=UInt8.ofNat (48+n % 10)
theorem zcS (n:Nat):(zc6 n).toNat=48+n % 10:=by
 unfold zc6;rw [UInt8.toNat_ofNat'];omega
def digL (n:Nat):List UInt8:=if n<10 then [zc6 n] else digL (n / 10)++[zc6 n]
termination_by n
decreasing_by omega
theorem zp8 (n:Nat):digL n≠[]:=by
 rw [digL]
 split<;>simp
theorem zbj {n:Nat} (h:n<10):digL n=[zc6 n]:=by rw [digL,if_pos h]
theorem zec {n:Nat} (h:10≤n):digL n=digL (n / 10)++[zc6 n]:=by rw [digL,if_neg (by omega)]
def zex (n:Nat) (s:List UInt8):List UInt8:=if n=0∧s≠[] then s else digL n++s
theorem zgY (n:Nat):zex n []=digL n:=by simp [zex]
theorem zk2 {s:List UInt8} (h:s≠[]):zex 0 s=s:=by simp [zex,h]
theorem zhW (n:Nat) (s:List UInt8) (h:s=[]∨n≠0):zex (n / 10) (zc6 n :: s)=zex n s:=by
 unfold zex;rw [if_neg (c:=n=0∧s≠[]) (by rcases h with h | h<;>simp [h])];by_cases hn:n<10
 ·rw [if_pos ⟨by omega,by simp⟩,zbj hn];rfl
 ·rw [if_neg (by omega),zec (n:=n) (by omega)];simp
theorem zeb:∀ (k n:Nat),n<10 ^ (k+1)→(digL n).length≤k+1
 | 0,n,h=>by rw [zbj (by simpa using h)];simp
 | k+1,n,h=>by
  by_cases hn:n<10
  ·rw [zbj hn];simp
  ·rw [zec (by omega)];have:=zeb k (n / 10) (by rw [Nat.pow_succ] at h;omega);simp;omega
theorem zk1 (k N:Nat) (s:List UInt8) (h:zex k s=digL N) (hN:(N:Int)≤9223372036854775808):s.length≤19:=by
 have h1:(digL N).length≤19:=zeb 18 N (by omega);rw [←h] at h1;unfold zex at h1
 split at h1
 ·exact h1
 ·rw [List.length_append] at h1;omega
def zbK (c:UInt8):Prop:=48≤c.toNat∧c.toNat≤57
instance (c:UInt8):Decidable (zbK c):=by unfold zbK;infer_instance
def valL (l:List UInt8):Nat:=l.foldl (fun v c=>v*10+(c.toNat-48)) 0
theorem zeD (l:List UInt8) (c:UInt8):valL (l++[c])=valL l*10+(c.toNat-48):=by simp [valL,List.foldl_append]
theorem zny (l:List UInt8) (h:∀ c∈l,zbK c):valL l<10 ^ l.length:=by
 induction l using zlF with
 | nil=>simp [valL]
 | snoc l c ih =>
  have h1:=ih (fun x hx=>h x (List.mem_append_left _ hx));have h2:=h c (by simp);unfold zbK at h2;rw [zeD,List.length_append,List.length_singleton,Nat.pow_succ];omega
theorem zmb (c:UInt8) (h:zbK c) (v:Nat):zc6 (v*10+(c.toNat-48))=c:=by
 apply UInt8.toNat_inj.1;rw [zcS];unfold zbK at h;omega
theorem zk3 (l:List UInt8) (hl:l≠[]) (h:∀ c∈l,zbK c) (h0:l.head?=some 48→l.length=1):digL (valL l)=l∧(1<l.length→1≤valL l):=by
 induction l using zlF with
 | nil=>exact absurd rfl hl
 | snoc l c ih =>
  have hc:=h c (by simp);have hcb:=hc;unfold zbK at hcb;rw [zeD];by_cases e:l=[]
  ·subst e;have:valL []=0:=rfl;rw [this,Nat.zero_mul,Nat.zero_add,zbj (by omega)];refine ⟨?_,by simp⟩;have:=zmb c hc 0;rw [Nat.zero_mul,Nat.zero_add] at this;rw [this];rfl
  ·
   have hd:∀ x∈l,zbK x:=fun x hx=>h x (List.mem_append_left _ hx)
   have hh:l.head?≠some 48:=fun e2=>by
    have:=h0 (by rw [List.head?_append,e2];rfl);rw [List.length_append,List.length_singleton] at this;have:=List.length_pos_iff.2 e;omega
   obtain ⟨i1,i2⟩:=ih e hd (fun e2=>absurd e2 hh)
   have hv:1≤valL l:=by
    by_cases hl1:1<l.length
    ·exact i2 hl1
    ·
     obtain ⟨x,rfl⟩:∃ x,l=[x]:=List.length_eq_one_iff.1 (by have:=List.length_pos_iff.2 e;omega)
     have hx:=hd x (by simp);unfold zbK at hx;have hx2:x.toNat≠48:=fun e3=>hh (by simp;exact UInt8.toNat_inj.1 e3)
     have:valL [x]=x.toNat-48:=by simp [valL]
     omega
   refine ⟨?_,fun _=>by omega⟩;rw [zec (by omega),zmb c hc,show (valL l*10+(c.toNat-48)) / 10=valL l by omega,i1]
def negB (t:List UInt8):Bool:=t.head?==some 45
def zbv (t:List UInt8):List UInt8:=if negB t=true then t.tail else t
def zf8 (t:List UInt8):Prop:=(1≤(zbv t).length∧(zbv t).length≤10)∧(∀ c∈zbv t,zbK c)∧¬((zbv t).head?=some 48∧1<t.length)
open Classical in
noncomputable def zaX (t:List UInt8):Bool:=decide (zf8 t)
noncomputable def zaC (t:List UInt8):Int:=if zaX t=true then (if negB t=true then -(valL (zbv t):Int) else (valL (zbv t):Int)) else 0
theorem zeJ {t:List UInt8} (h:zf8 t):zaX t=true:=by simp [zaX,h]
theorem readB_no {t:List UInt8} (h:¬zf8 t):zaX t=false:=by simp [zaX,h]
theorem zgu {t:List UInt8}:zaX t=true↔zf8 t:=by unfold zaX;simp
def intL (n:Int):List UInt8:=if n<0 then 45 :: digL n.natAbs else digL n.natAbs
theorem readV_bd (t:List UInt8):-10000000000<zaC t∧zaC t<10000000000:=by
 unfold zaC;by_cases h:zaX t=true
 ·
  rw [if_pos h];obtain ⟨⟨_,h2⟩,h3,_⟩:=zgu.1 h;have hv:=zny _ h3;have:(10:Nat) ^ (zbv t).length≤10 ^ 10:=Nat.pow_le_pow_right (by omega) h2
  split<;>omega
 ·rw [if_neg h];omega
theorem zlO (t:List UInt8) (h:zaX t=true):(0≤zaC t→digL (zaC t).natAbs=t)∧(zaC t<0→(45:UInt8) :: digL (zaC t).natAbs=t):=by
 have hf:=zgu.1 h;obtain ⟨⟨h1,h2⟩,h3,h4⟩:=hf;have hne:zbv t≠[]:=fun e=>by rw [e] at h1;simp at h1
 unfold zaC;rw [if_pos h];by_cases hn:negB t=true
 ·
  rw [if_pos hn];have hb:zbv t=t.tail:=by unfold zbv;rw [if_pos hn]
  have ht:t=45 :: t.tail:=by
   unfold negB at hn;cases t with
   | nil=>simp at hn
   | cons x r=>simp at hn;rw [hn];rfl
  have hlen:1<t.length:=by rw [ht,←hb];simp;omega
  have hd:=zk3 (zbv t) hne h3 (fun e=>absurd ⟨e,hlen⟩ h4)
  have hpos:1≤valL (zbv t):=by
   by_cases hl1:1<(zbv t).length
   ·exact hd.2 hl1
   ·
    obtain ⟨x,hx⟩:∃ x,zbv t=[x]:=List.length_eq_one_iff.1 (by omega)
    rw [hx];have hxd:=h3 x (by rw [hx];simp);unfold zbK at hxd;have hx2:x.toNat≠48:=fun e=>h4 ⟨by rw [hx];simp;exact UInt8.toNat_inj.1 e,hlen⟩
    have:valL [x]=x.toNat-48:=by simp [valL]
    omega
  refine ⟨fun h0=>by omega,fun _=>?_⟩;rw [show (-(valL (zbv t):Int)).natAbs=valL (zbv t) by omega,hd.1,hb,←ht]
 ·
  rw [if_neg hn];have hb:zbv t=t:=by unfold zbv;rw [if_neg hn]
  have hd:=zk3 (zbv t) hne h3 (fun e=>by rw [hb] at e h1 ⊢;rw [hb] at h4;have:¬1<t.length:=fun x=>h4 ⟨e,x⟩;omega);refine ⟨fun _=>?_,fun h0=>by omega⟩;rw [show ((valL (zbv t):Int)).natAbs=valL (zbv t) by omega,hd.1,hb]

abbrev Nd:=Int × Int × List UInt8 × List UInt8
def zdu (n:Nd):Prop :=
 (n.1=1∧(-2147483648≤n.2.1∧n.2.1≤2147483647)∧n.2.2.1=[]∧n.2.2.2=[]) ∨
 (n.1=2∧(0≤n.2.1∧n.2.1≤2)∧n.2.2.1=[]∧n.2.2.2=[]) ∨
 ((3≤n.1∧n.1≤7)∧n.2.1=0∧n.2.2.1=[]∧n.2.2.2=[]) ∨
 (n.1=8∧(0≤n.2.1∧n.2.1≤3)∧zaE n.2.2.1=true∧zaE n.2.2.2=true)
instance (n:Nd):Decidable (zdu n):=by unfold zdu;infer_instance
def zaM (n:Nd):Bool:=decide (zdu n)
theorem zdL {n:Nd}:zaM n=true↔zdu n:=by unfold zaM;simp
theorem zlU {n:Nd} (h:¬zdu n):zaM n=false:=decide_eq_false h
def zct (n:Nd):Nat:=if 3≤n.1∧n.1≤6 then 2 else if n.1=7 then 3 else if n.1=8 then n.2.1.toNat else 0
def zbu (n:Nd):Int:=if 3≤n.1∧n.1≤6 then 2 else if n.1=7 then 3 else if n.1=8 then n.2.1 else 0
def zcs (n:Nd):Int:=if zaM n=true then zbu n else -1
theorem zlX {n:Nd} (h:zaM n=true):zbu n=(zct n:Int)∧zct n≤3:=by
 have hp:=zdL.1 h;unfold zdu at hp;unfold zbu zct;rcases hp with ⟨h1,_⟩ | ⟨h1,_⟩ | ⟨h1,_⟩ | ⟨h1,h2,_⟩
 ·rw [if_neg (by omega),if_neg (by omega),if_neg (by omega),if_neg (by omega),if_neg (by omega),if_neg (by omega)];omega
 ·rw [if_neg (by omega),if_neg (by omega),if_neg (by omega),if_neg (by omega),if_neg (by omega),if_neg (by omega)];omega
 ·
  by_cases e:n.1=7
  ·rw [if_neg (by omega),if_pos e,if_neg (by omega),if_pos e];omega
  ·rw [if_pos (by omega),if_pos (by omega)];omega
 ·rw [if_neg (by omega),if_neg (by omega),if_pos h1,if_neg (by omega),if_neg (by omega),if_pos h1];omega
def zbN:List Nd→Nat→Option Nat
 | _,0=>some 0
 | [],_+1=>none
 | n :: r,o+1=>if zaM n=true then (zbN r (o+zct n)).map (·+1) else none
theorem zcG (l:List Nd):zbN l 0=some 0:=by cases l<;>rfl
theorem zcp (o:Nat):zbN [] (o+1)=none:=rfl
theorem zbb (n:Nd) (r:List Nd) (o:Nat):zbN (n :: r) (o+1)=if zaM n=true then (zbN r (o+zct n)).map (·+1) else none:=rfl
theorem zm8:∀ (l:List Nd) (o d:Nat),zbN l o=some d→d≤l.length
 | l,0,d,h=>by rw [zcG] at h;injection h with h;omega
 | [],o+1,d,h=>by rw [zcp] at h;cases h
 | n :: r,o+1,d,h=>by
  rw [zbb] at h
  split at h
  ·rw [Option.map_eq_some_iff] at h;obtain ⟨e,he,rfl⟩:=h;have:=zm8 r _ e he;simp;omega
  ·cases h
def endN (l:List Nd) (k:Nat):Int:=if k<l.length then (match zbN (l.drop k) 1 with | some d=>(k:Int)+d | none=>-1) else -1
def endV (l:List Nd) (a:Int):Int:=if a<0 then -1 else endN l a.toNat
theorem zea (l:List Nd) (k:Nat):endV l (k:Int)=endN l k:=by unfold endV;rw [if_neg (by omega),Int.toNat_natCast]
theorem ziH (l:List Nd) (a:Int) (h:a<0∨(l.length:Int)≤a):endV l a=-1:=by
 unfold endV;by_cases h0:a<0
 ·rw [if_pos h0]
 ·rw [if_neg h0];unfold endN;rw [if_neg (by omega)]
def zch (l:List Nd):Bool:=decide ((1≤l.length∧l.length≤60)∧endV l 0=(l.length:Int))
theorem zp1 {l:List Nd} {k o:Nat} (hk:k<l.length) (hn:zaM l[k]=true):zbN (l.drop k) (o+1)=(zbN (l.drop (k+1)) (o+zct l[k])).map (·+1):=by
 rw [List.drop_eq_getElem_cons hk,zbb,if_pos hn]
theorem end_bad {l:List Nd} {k o:Nat} (hk:k<l.length) (hn:zaM l[k]=false):zbN (l.drop k) (o+1)=none:=by
 rw [List.drop_eq_getElem_cons hk,zbb,if_neg (by rw [hn];simp)]
theorem end_over {l:List Nd} {k o:Nat} (hk:l.length≤k):zbN (l.drop k) (o+1)=none:=by
 rw [List.drop_eq_nil_of_le hk,zcp]
theorem zgX (n:Nat):zbK (zc6 n):=by unfold zbK;rw [zcS];omega
theorem zmc:∀ (k n:Nat),n<10 ^ (k+1)→∀ c∈digL n,zbK c
 | 0,n,h,c,hc=>by
  rw [zbj (by simpa using h)] at hc;simp at hc;subst hc;exact zgX n
 | k+1,n,h,c,hc=>by
  by_cases hn:n<10
  ·rw [zbj hn] at hc;simp at hc;subst hc;exact zgX n
  ·
   rw [zec (by omega)] at hc;rcases List.mem_append.1 hc with hc | hc
   ·exact zmc k (n / 10) (by rw [Nat.pow_succ] at h;omega) c hc
   ·simp at hc;subst hc;exact zgX n
theorem ziU:∀ (k n:Nat),n<10 ^ (k+1)→valL (digL n)=n
 | 0,n,h=>by
  have h10:n<10:=by simpa using h
  rw [zbj h10];have:valL [zc6 n]=(zc6 n).toNat-48:=by simp [valL]
  rw [this,zcS];omega
 | k+1,n,h=>by
  by_cases hn:n<10
  ·
   rw [zbj hn];have:valL [zc6 n]=(zc6 n).toNat-48:=by simp [valL]
   rw [this,zcS];omega
  ·rw [zec (by omega),zeD,ziU k (n / 10) (by rw [Nat.pow_succ] at h;omega),zcS];omega
theorem zk4:∀ (k n:Nat),n<10 ^ (k+1)→(digL n).head?=some 48→n=0
 | 0,n,h,hh=>by
  have h10:n<10:=by simpa using h
  rw [zbj h10] at hh;simp at hh;have:=congrArg UInt8.toNat hh;rw [zcS] at this;have h48:(48:UInt8).toNat=48:=rfl;omega
 | k+1,n,h,hh=>by
  by_cases hn:n<10
  ·rw [zbj hn] at hh;simp at hh;have:=congrArg UInt8.toNat hh;rw [zcS] at this;have h48:(48:UInt8).toNat=48:=rfl;omega
  ·
   rw [zec (by omega)] at hh;have hne:=zp8 (n / 10);rw [List.head?_append] at hh;cases hd:(digL (n / 10)).head? with
   | none=>rw [List.head?_eq_none_iff] at hd;exact absurd hd hne
   | some x =>
    rw [hd] at hh;have:=zk4 k (n / 10) (by rw [Nat.pow_succ] at h;omega) (by rw [hd];exact hh);omega
theorem zdq (a:Int) (h0:-2147483648≤a) (h1:a≤2147483647):zaX (intL a)=true∧zaC (intL a)=a:=by
 have hlt:a.natAbs<10 ^ (9+1):=by omega
 have hdig:=zmc 9 a.natAbs hlt;have hval:=ziU 9 a.natAbs hlt;have hlen:=zeb 9 a.natAbs hlt;have hne:=zp8 a.natAbs;have hpos:=List.length_pos_iff.2 hne;have hhead:=zk4 9 a.natAbs hlt;by_cases hn:a<0
 ·
  have e:intL a=45 :: digL a.natAbs:=by unfold intL;rw [if_pos hn]
  rw [e];have hneg:negB (45 :: digL a.natAbs)=true:=rfl;have hbody:zbv (45 :: digL a.natAbs)=digL a.natAbs:=by unfold zbv;rw [if_pos hneg];rfl
  have hf:zf8 (45 :: digL a.natAbs):=⟨by rw [hbody];omega,by rw [hbody];exact hdig,by rw [hbody];intro hx;have:=hhead hx.1;omega⟩;have hb:=zeJ hf;refine ⟨hb,?_⟩;unfold zaC;rw [if_pos hb,if_pos hneg,hbody,hval];omega
 ·
  have e:intL a=digL a.natAbs:=by unfold intL;rw [if_neg hn]
  rw [e]
  have hneg:negB (digL a.natAbs)=false:=by unfold negB;rw [beq_eq_false_iff_ne];intro hx;have hm:(45:UInt8)∈digL a.natAbs:=List.mem_of_mem_head? (by rw [hx];rfl);have:=hdig 45 hm;unfold zbK at this;have h45:(45:UInt8).toNat=45:=rfl;omega
  have hbody:zbv (digL a.natAbs)=digL a.natAbs:=by unfold zbv;rw [if_neg (by rw [hneg];simp)]
  have hf:zf8 (digL a.natAbs):=⟨by rw [hbody];omega,by rw [hbody];exact hdig,by
   rw [hbody];intro hx
   have h00:=hhead hx.1;rw [h00,zbj (by omega)] at hx;simp at hx⟩
  have hb:=zeJ hf;refine ⟨hb,?_⟩;unfold zaC;rw [if_pos hb,if_neg (by rw [hneg];simp),hbody,hval];omega
theorem zmw (b:UInt8) (l:List UInt8):∀ cur,(∀ c∈l,c≠b)→zas b cur l=[cur++l]:=by
 induction l with
 | nil=>intro cur _;simp [zas]
 | cons c r ih =>
  intro cur h;rw [zas,if_neg (h c (by simp)),ih _ (fun x hx=>h x (by simp [hx]))];simp
theorem znI (b:UInt8) (x y:List UInt8):∀ cur,(∀ c∈x,c≠b)→zas b cur (x++b :: y)=(cur++x) :: zas b [] y:=by
 induction x with
 | nil=>intro cur _;simp [zas]
 | cons c r ih =>
  intro cur h;rw [List.cons_append,zas,if_neg (h c (by simp)),ih _ (fun z hz=>h z (by simp [hz]))];simp
theorem zht (b:UInt8) (ws:List (List UInt8)) (hne:ws≠[]) (h:∀ x∈ws,∀ c∈x,c≠b):zaq b (zdf b ws)=ws:=by
 unfold zaq
 induction ws with
 | nil=>exact absurd rfl hne
 | cons x r ih =>
  by_cases hr:r=[]
  ·subst hr;rw [show zdf b [x]=x from rfl,zmw b x [] (h x (by simp))];simp
  ·rw [zbE b x r hr,List.append_assoc,List.singleton_append,znI b x _ [] (h x (by simp)),ih hr (fun y hy=>h y (by simp [hy]))];simp
theorem zcl {l:List UInt8} (h:zaE l=true):(1≤l.length∧l.length≤8)∧∀ c∈l,97≤c.toNat∧c.toNat≤122:=by
 unfold zaE at h;rw [Bool.and_eq_true,List.all_eq_true] at h;exact ⟨of_decide_eq_true h.1,fun c hc=>of_decide_eq_true (h.2 c hc)⟩
theorem zi7 {l:List Nd} (h:zch l=true):(1≤l.length∧l.length≤60)∧zbN l 1=some l.length:=by
 obtain ⟨h1,h2⟩:=of_decide_eq_true h;refine ⟨h1,?_⟩;have e:=zea l 0;rw [Int.natCast_zero] at e;rw [e] at h2;unfold endN at h2;rw [if_pos (by omega),List.drop_zero] at h2;cases hg:zbN l 1 with
 | none=>rw [hg] at h2;simp at h2
 | some d=>rw [hg] at h2;simp at h2;congr 1;omega
theorem zjY:∀ (l:List Nd) (a b:Nat),zbN l (a+b)=(zbN l a).bind (fun d=>(zbN (l.drop d) b).map (d+·))
 | l,0,b=>by
  rw [Nat.zero_add,zcG];simp
 | [],a+1,b=>by
  rw [show a+1+b=(a+b)+1 by omega,zcp,zcp];rfl
 | n :: r,a+1,b=>by
  rw [show a+1+b=(a+b)+1 by omega,zbb,zbb]
  split
  ·
   rw [show a+b+zct n=(a+zct n)+b by omega,zjY r (a+zct n) b];cases zbN r (a+zct n) with
   | none=>rfl
   | some d =>
    simp only [Option.bind_some,Option.map_some,List.drop_succ_cons,Option.map_map];congr 1
    funext x
    simp only [Function.comp];omega
  ·rfl
def chain (l:List Nd):Nat→Int→Int
 | 0,next=>next
 | k+1,next=>chain l k (endV l next)
theorem zfc {l:List Nd} {k d:Nat} (h:zbN (l.drop k) 1=some d) (hk:k<l.length):endN l k=(k:Int)+d:=by
 unfold endN;rw [if_pos hk,h]
theorem zp2 {l:List Nd} {o d:Nat} (h:zbN l (o+1)=some d):1≤d∧l≠[]:=by
 cases l with
 | nil=>rw [zcp] at h;cases h
 | cons n r =>
  rw [zbb] at h
  split at h
  ·rw [Option.map_eq_some_iff] at h;obtain ⟨e,_,rfl⟩:=h;exact ⟨by omega,by simp⟩
  ·cases h
theorem zk9 (l:List Nd):∀ (o k d:Nat),zbN (l.drop k) o=some d→k+d≤l.length→chain l o (k:Int)=((k+d:Nat):Int)
 | 0,k,d,h,_=>by
  rw [zcG] at h;injection h with h;subst h
  rfl
 | o+1,k,d,h,hle=>by
  have h2:=zjY (l.drop k) 1 o;rw [show 1+o=o+1 by omega,h] at h2;cases he:zbN (l.drop k) 1 with
  | none=>rw [he] at h2;simp at h2
  | some e =>
   rw [he] at h2;simp only [Option.bind_some] at h2;cases hf:zbN ((l.drop k).drop e) o with
   | none=>rw [hf] at h2;simp at h2
   | some f =>
    rw [hf] at h2;simp only [Option.map_some,Option.some.injEq] at h2
    have hk:k<l.length:=by
     have:=(zp2 he).2;rcases Nat.lt_or_ge k l.length with hx | hx
     ·exact hx
     ·exact absurd (List.drop_eq_nil_of_le hx) this
    rw [chain,zea,zfc he hk];have:=zk9 l o (k+e) f (by rw [List.drop_drop] at hf;exact hf) (by omega);rw [show ((k:Int)+(e:Int))=((k+e:Nat):Int) by omega,this];congr 1
    omega
theorem zgT {l:List Nd} {k:Nat} (h:0≤endV l (k:Int)):k<l.length∧zaM (l.getD k (0,0,[],[]))=true∧chain l (zct (l.getD k (0,0,[],[]))) ((k:Int)+1)=endV l (k:Int)∧(k:Int)<endV l (k:Int)∧endV l (k:Int)≤l.length:=by
 rw [zea] at h ⊢;unfold endN at h;by_cases hk:k<l.length
 ·
  rw [if_pos hk] at h;cases he:zbN (l.drop k) 1 with
  | none=>rw [he] at h;simp at h
  | some d =>
   have hd:l.drop k=l[k] :: l.drop (k+1):=List.drop_eq_getElem_cons hk;have hg:l.getD k (0,0,[],[])=l[k]:=by simp [List.getD,hk]
   rw [hg];have hle:=zm8 _ _ _ he;rw [List.length_drop] at hle;have he2:=he;rw [hd,show (1:Nat)=0+1 from rfl,zbb] at he2
   split at he2
   ·rename_i hn;rw [Option.map_eq_some_iff] at he2;obtain ⟨e,hee,rfl⟩:=he2;have hc:=zk9 l (zct l[k]) (k+1) e (by rw [←hee];congr 1;omega) (by omega);rw [zfc he hk];refine ⟨hk,hn,?_,by omega,by omega⟩;rw [show ((k:Int)+1)=((k+1:Nat):Int) by omega,hc];omega
   ·cases he2
 ·rw [if_neg hk] at h;omega
section
theorem ba_ext {a b:ByteArray} (h:a.data.toList=b.data.toList):a=b:=by
 cases a;cases b;simp_all
end
def strV (ls:List (List UInt8)):List Value:=ls.map (fun l=>Value.string ⟨l.toArray⟩)
theorem ziZ (o:List (List UInt8)) (t:List UInt8):strV o++[.string ⟨t.toArray⟩]=strV (o++[t]):=by simp [strV]
theorem strV_len (o:List (List UInt8)):(strV o).length=o.length:=by simp [strV]
theorem znH (ls:List (List UInt8)) (j:Nat) (h:j<ls.length):(strV ls)[j]?=some (.string ⟨ls[j].toArray⟩):=by
 simp [strV,List.getElem?_eq_getElem h]
theorem znG (ls:List (List UInt8)) (m:Nat):(strV ls).take m=strV (ls.take m):=by simp [strV,List.map_take]
theorem zn1:(Tryz.prog.info? 9).map (fun i=>(i.zero,i.size,i.bytes))=some (some (.string ⟨#[]⟩),1,16):=by kernel_rfl
theorem zeq {w1:World} {B:Nat} {v':Value} {o:List (List UInt8)} {t:List UInt8} (hown':w1.ownsRow B 9 1 v' (o.length+1) (strV o++[.string ⟨t.toArray⟩])) :
 w1.ownsRow B 9 1 v' (o++[t]).length (strV (o++[t])):=by
 rw [←ziZ,List.length_append,List.length_singleton];exact hown'
theorem zeM {w:World} {base e size n:Nat} {v:Value} {xs:List Value} (h:w.ownsRow base e size v n xs) (hv:v≠.slice none 0 0):∃ g cp,v=.slice (some ⟨g,0,none⟩) n cp:=by
 obtain ⟨_,⟨e,_⟩ | ⟨g,cap,cur,rfl,_⟩⟩:=h
 ·exact absurd e hv
 ·exact ⟨g,cap,rfl⟩
theorem zcX {w w':World} {base e size n:Nat} {v:Value} {xs:List Value} (h:w.ownsRow base e size v n xs) (hg:w.grownBy w' none):w'.ownsRow base e size v n xs:=by
 refine h.kept hg ?_;rcases hv:v.ownBlock with _ | g
 ·exact Or.inl rfl
 ·exact Or.inr (by simp)
theorem za5 {w w':World} {base e size n:Nat} {v:Value} {xs:List Value} (h:w.ownsRow base e size v n xs) (hb:Below w.heap.size w w'):w'.ownsRow base e size v n xs :=
 zcX h ⟨hb.os,hb.tape,hb.output,hb.size,fun k hk _=>hb.block k hk⟩
theorem zaR {w:World} {base e size n:Nat} {v:Value} {xs:List Value} (h:w.ownsRow base e size v n xs):(v=.slice none 0 0∧n=0∧xs=[])∨∃ g cp,v=.slice (some ⟨g,0,none⟩) n cp:=by
 have h0:=h.1;obtain ⟨_,⟨e,hn⟩ | ⟨g,cap,cur,rfl,_⟩⟩:=h
 ·refine Or.inl ⟨e,hn,List.eq_nil_of_length_eq_zero ?_⟩;rw [h0,hn,Nat.zero_mul]
 ·exact Or.inr ⟨g,cap,rfl⟩
theorem zkB {w:World} {base e g n cp:Nat} {xs:List Value} (h:w.ownsRow base e 1 (.slice (some ⟨g,0,none⟩) n cp) n xs):n≤cp∧cp≤maxLen:=by
 rcases h.2 with ⟨h',_⟩ | ⟨g',cap',cur,h',hb,hg,hnc,hcm,hcs,htake⟩
 ·simp at h'
 ·simp only [Value.slice.injEq,Option.some.injEq,Addr.mk.injEq,and_true,true_and] at h';obtain ⟨rfl,rfl⟩:=h';exact ⟨hnc,hcm⟩
theorem zaw {w:World} {base e size n:Nat} {v:Value} {xs:List Value} (h:w.ownsRow base e size v n xs) (hn:n≠0):∃ g cp,v=.slice (some ⟨g,0,none⟩) n cp:=by
 rcases zaR h with ⟨_,h0,_⟩ | h1
 ·exact absurd h0 hn
 ·exact h1
theorem own_take {w:World} {base e g n cp:Nat} {xs:List Value} (h:w.ownsRow base e 1 (.slice (some ⟨g,0,none⟩) n cp) n xs) (m:Nat) (hm:m≤n):w.ownsRow base e 1 (.slice (some ⟨g,0,none⟩) m cp) m (xs.take m):=by
 have h0:=h.1;rcases h.2 with ⟨h',_⟩ | ⟨g',cap',cur,h',hb,hg,hnc,hcm,hcs,htake⟩
 ·simp at h'
 ·
  simp only [Value.slice.injEq,Option.some.injEq,Addr.mk.injEq,and_true,true_and] at h';obtain ⟨rfl,rfl⟩:=h';refine ⟨by rw [List.length_take];omega,.inr ⟨g,cp,cur,rfl,hb,hg,by omega,hcm,hcs,?_⟩⟩;rw [←htake,List.take_take];congr 1
  omega
theorem zfh {w:World} {base g cp n:Nat} {ls:List (List UInt8)} (h:w.ownsRow base 9 1 (.slice (some ⟨g,0,none⟩) n cp) n (strV ls)) (hn:ls.length=n) (j:Nat) (hj:j<n) :
 w.cell? ⟨g,j,none⟩=some (.string ⟨(ls.getD j []).toArray⟩):=by
 rw [h.cellAt j (by omega),znH ls j (by omega),List.getD_eq_getElem?_getD,List.getElem?_eq_getElem (by omega)];rfl
theorem zc7 (a b:List UInt8):(⟨a.toArray⟩++⟨b.toArray⟩:ByteArray)=⟨(a++b).toArray⟩:=ba_ext (by simp)
theorem zd1 (l:List UInt8) (i j:Nat):(⟨l.toArray⟩:ByteArray).extract i j=⟨((l.drop i).take (j-i)).toArray⟩:=by
 apply ba_ext;rw [ByteArray.data_extract,Array.toList_extract,List.extract_eq_take_drop]
theorem zem {a b:List UInt8} {m n:Int} {c d:Bool} (h:a=b) (k:m=n) (j:c=d):Ending.returned (.tuple #[.string ⟨a.toArray⟩,.int .i64 m,.bool c])=.returned (.tuple #[.string ⟨b.toArray⟩,.int .i64 n,.bool d]):=by rw [h,k,j]
theorem zgr {a b:List UInt8} {c d:Bool} (h:a=b) (j:c=d):Ending.returned (.tuple #[.string ⟨a.toArray⟩,.bool c])=.returned (.tuple #[.string ⟨b.toArray⟩,.bool d]):=by rw [h,j]
theorem zlM {a b:List UInt8} (h:a=b):Ending.returned (.string ⟨a.toArray⟩)=.returned (.string ⟨b.toArray⟩):=by rw [h]
theorem Below.by {w w':World} (h:Below w.heap.size w w'):w.grownBy w' none:=⟨h.os,h.tape,h.output,h.size,fun k hk _=>h.block k hk⟩
theorem zaD {w:World} {base b2 e size n:Nat} {v:Value} {xs:List Value} (h:w.ownsRow base e size v n xs) (hb:b2≤base):w.ownsRow b2 e size v n xs:=by
 refine ⟨h.1,?_⟩;rcases h.2 with h' | ⟨g,cap,cur,hv,hg,r⟩
 ·exact Or.inl h'
 ·exact Or.inr ⟨g,cap,cur,hv,Nat.le_trans hb hg,r⟩
theorem zae (w:World) (B o:Nat) (v:Value):w.grownBy (w.setCell ⟨B,o,none⟩ v) (some B) :=
 ⟨rfl,rfl,rfl,by simp,fun k _ hne=>Below.heap_setCell w _ v k (fun e=>hne (by rw [e]))⟩
def Src (w:World) (x:Value) (m size:Nat) (news:List Value):Prop :=
 news.length=m*size∧(∀ u∈news,u.oneCell'=true)∧((x=.slice none 0 0∧m=0)∨∃ ad c,x=.slice (some ad) m c∧∀ j u,news[j]?=some u→w.cell? (ad.add j)=some u)
theorem zar {P:Program} (w:World) (base:Nat) (t ty e:TypeId) (i:TypeInfo) (z:Value) (size bytes:Nat) (ht:P.underlying t=some (.slice e)) (hi:P.info? e=some i) (hz:i.zero=some z)
 (hsize:i.size=size) (hby:i.bytes=bytes) (hzs:z.cells.size=size) (hsz:0<size)
 (v:Value) (n:Nat) (xs:List Value) (hown:w.ownsRow base e size v n xs) (x:Value) (m:Nat) (news:List Value) (hsrc:Src w x m size news)
 (h63:n+m≤maxLen) (hbytes:(n+m)*bytes≤140737488355328) (hbase:base≤w.heap.size) :
 ∃ v' w',(Builtin.append_ #[t,t] ty #[v,x]).run P w=.ok v' w'∧w'.ownsRow base e size v' (n+m) (xs++news)∧w.grownBy w' v.ownBlock∧(v'=.slice none 0 0→v=.slice none 0 0):=by
 obtain ⟨hl,h1,⟨rfl,rfl⟩ | ⟨ad,c,rfl,hc⟩⟩:=hsrc
 ·have hn:news=[]:=List.eq_nil_of_length_eq_zero (by omega);subst hn;exact ⟨v,w,run_append_owned_none (P:=P) (w:=w) base t ty e i size ht hi v n xs hown,by simpa using hown,World.grownBy.refl w _,fun h=>h⟩
 ·obtain ⟨v',w',hr,h2,h3,h4⟩:=run_append_own (P:=P) w base t ty e i z size bytes ht hi hz hsize hby hzs hsz v n xs hown ad m c news hl hc h1 h63 hbytes hbase;exact ⟨v',w',hr,h2,h3,fun h=>(h4.1 h).1⟩
theorem zcI {P:Program} {w w':World} {ops:Array Oper} {o:Oper} {a:Act} {K:Act→World→Prop} {Q:Exit→Act→World→Prop} {E:Prop} (hgd:o.guard=none) (s x:Operand) (t:TypeId)
 (ho:o.op=.call { callee:=.builtin .append,args:=#[s,x],argTypes:=#[t,t] }) (v u v':Value) (hs:a.eval s=v) (hx:a.eval x=u)
 (hrun:(Builtin.append_ #[t,t] o.type #[v,u]).run P w=.ok v' w') (h:K (a.put o.dst v') w') :
 if Region.wanted o (yielded ops a.tmps)=true then Oper.wp P o a w K Q else E:=by
 have hw:Region.wanted o (yielded ops a.tmps)=true:=by simp [Region.wanted,hgd]
 rw [if_pos hw];unfold Oper.wp;simp [execOp,ho,resolve,invoke,builtin,hs,hx,hrun,Result.andThen];exact h
theorem za0 {P:Program} {w w':World} {ops:Array Oper} {rest:List Oper} {o:Oper} {a:Act} {Q:Exit→Act→World→Prop} (hgd:o.guard=none) (s x:Operand) (t:TypeId)
 (ho:o.op=.call { callee:=.builtin .append,args:=#[s,x],argTypes:=#[t,t] }) (v u v':Value) (hs:a.eval s=v) (hx:a.eval x=u)
 (hrun:(Builtin.append_ #[t,t] o.type #[v,u]).run P w=.ok v' w') (h:wpList P ops Q rest (a.put o.dst v') w'):wpList P ops Q (o :: rest) a w:=by
 refine wpList_plain hgd fun K hK=>?_
 unfold Oper.wp;simp [execOp,ho,resolve,invoke,builtin,hs,hx,hrun,Result.andThen];exact hK _ _ h
end Go.Proofs.YtponeoijfaepnaaGreatDoor
