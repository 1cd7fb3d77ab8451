/-
  Parts of one proof, one behind the other: LendJ, FrameI, Math6I, Shelf, PowI, RetI, RebI, ErrI.
-/
import Derived.Test.YtdbljnddkbpanaaGreatDoorP34
import Derived.Test.YtdbljnddkbpanaaGreatDoorP19
import Derived.Deep.RegionHeld3
import Derived.Test.YtdbljnddkbpanaaGreatDoorP17
import Derived.Test.YtdbljnddkbpanaaGreatDoorP32
import Derived.Test.YtdbljnddkbpanaaGreatDoorP5
import Derived.Test.YtdbljnddkbpanaaGreatDoorP1
import Derived.Test.YtdbljnddkbpanaaGreatDoorP4
import Derived.Test.YtdbljnddkbpanaaGreatDoorP12
import Derived.Lib.ItoaNum
import Derived.Lib.Join
import Derived.Lib.Bytealg
import Derived.Shelf.Small.Strs
import Derived.Shelf.Strconv.Itoa0
import Derived.Shelf.Strconv.Itoa1
import Derived.Shelf.LaysM
import Derived.Shelf.Strconv.Itoa2
import Derived.Shelf.Strconv.Itoa3
import Derived.Shelf.Strconv.Itoa4
import Derived.Shelf.Strings.Search1
import Derived.Shelf.Strings.Prefix
import Derived.Test.YtdbljnddkbpanaaGreatDoorProg
import Derived.Lib.AppendIntMem
import Derived.Lib.SmallJoins
import Derived.Lib.LaidTab
import Derived.Test.YtdbljnddkbpanaaGreatDoorP8
import Derived.Test.YtdbljnddkbpanaaGreatDoorP18
import Derived.Test.YtdbljnddkbpanaaGreatDoorP33
import Derived.Test.YtdbljnddkbpanaaGreatDoorP2
import Derived.LaidEql
import Derived.Stop.Asserts
import Derived.RowKitTokens
namespace Go.Proofs.YtdbljnddkbpanaaGreatDoor
open Go.RowKit
set_option maxHeartbeats 2000000 in
set_option maxRecDepth 100000 in
theorem zj0 (a na:Option Addr) (len cap nc:Nat) (ts:List Ta) (ns:List Int) (w:World) (hin:zaK w a len ts) (hns:AsIn w na ns) (hnl:ns.length≤1048576) (hlen:len≤1048576) (hnd:∀ q,q<ns.length→0≤ns.getD q 0∧ns.getD q 0<len) :
 Calls Tryz.prog 86 #[.slice a len cap,.slice na ns.length nc] w fun e w'=>e=.returned (.bool (decide (∀ i,i<ns.length→(ts.getD (ns.getD i 0).toNat ta0).2.2.1=2)))∧w'=w:=by
 obtain rfl:ts.length=len:=hin.1
 have HI:Hid (zaK w a ts.length ts):=hin
 have HM:Hid (AsIn w na ns):=hns
 have HD:Hid (∀ q,q<ns.length→0≤ns.getD q 0∧ns.getD q 0<ts.length):=hnd
 have HN:Hid (∀ i,i<ns.length→(ts.getD (ns.getD i 0).toNat ta0).2.2.1≠2→decide (∀ i,i<ns.length→(ts.getD (ns.getD i 0).toNat ta0).2.2.1=2)=false):=fun i hi h=>decide_eq_false (fun e=>h (e i hi))
 have HY:Hid ((∀ i,i<ns.length→(ts.getD (ns.getD i 0).toNat ta0).2.2.1=2)→decide (∀ i,i<ns.length→(ts.getD (ns.getD i 0).toNat ta0).2.2.1=2)=true):=fun h=>decide_eq_true h
 generalize decide (∀ i,i<ns.length→(ts.getD (ns.getD i 0).toNat ta0).2.2.1=2)=res at HN HY ⊢
 clear hin hns hnd
 go_enter Tryz.func86,Tryz.ntmps86
 go_wp2
 go_loopw [9] (fun iv wr=>∃ i:Nat,iv=.int .i64 (i:Int)∧i≤ns.length∧Hid (∀ q,q<i→(ts.getD (ns.getD q 0).toNat ta0).2.2.1=2)∧wr=w) (fun iv _=>ns.length-(intOf iv).toNat)
 case atStart=>exact ⟨0,rfl,Nat.zero_le _,(fun q hq=>absurd hq (Nat.not_lt_zero _)),rfl⟩
 case round =>
  obtain ⟨i,rfl,hi,HA,hwr⟩:=hrel
  obtain rfl:=hwr.symm
  by_cases hlt:(i:Int)<(ns.length:Int)
  ·
   obtain ⟨nb,no,rfl,_,d0⟩:=HM.out i (by omega)
   obtain ⟨h0,h1⟩:=HD.out i (by omega)
   have HNi:Hid (_):=HN.out i (by omega)
   obtain ⟨y,hy⟩:∃ y,ns.getD i 0=y:=⟨_,rfl⟩
   rw [hy] at d0 h0 h1 HNi
   obtain ⟨m,rfl⟩:∃ m:Nat,y=(m:Int):=⟨y.toNat,by omega⟩
   obtain ⟨b,off,rfl,hbl,_,_,c2,_⟩:=HI.out.2 m (by omega)
   rw [Int.toNat_natCast] at HNi
   obtain ⟨x,hx⟩:∃ x,(ts.getD m ta0).2.2.1=x:=⟨_,rfl⟩
   rw [hx] at c2 HNi
   by_cases h2:x=2
   ·
    have HR:Hid (∀ q,q<i+1→(ts.getD (ns.getD q 0).toNat ta0).2.2.1=2):=fun q hq=>by
     rcases Nat.lt_or_ge q i with g | g
     ·
      exact HA.out q g
     ·
      obtain rfl:q=i:=by omega
      rw [hy,Int.toNat_natCast,hx];exact h2
    clear HA hx hy HNi
    subst h2
    go_wp2
    go_roundw
    case rel=>exact ⟨i+1,by go_num,by omega,HR,trivial⟩
    case measure=>simp [intOf];omega
   ·
    have HF:Hid (res=false):=HNi.out h2
    have hxb:(x !=2)=true:=by simp [h2]
    clear HA hx hy HN HY HNi
    go_wp2
    go_ret
    exact ⟨by rw [HF.out];rfl,rfl⟩
  ·
   have HF:Hid (res=true):=HY.out (fun q hq=>HA.out q (by omega))
   clear HA HN HY
   go_wp2
   go_ret
   exact ⟨by rw [HF.out];rfl,rfl⟩
set_option maxHeartbeats 400000 in
set_option maxRecDepth 100000 in
theorem zi9 (l:List UInt8) (w:World) (hl:l.length≤1048576) :
 Calls Tryz.prog 55 #[.string ⟨l.toArray⟩] w fun e w'=>e=.returned (.string ⟨(zdJ l).toArray⟩)∧Below w.heap.size w w':=by
 by_cases h:20000<(l.length:Int)
 ·
  have HS:Hid (zdJ l=[]):=znL l (by omega)
  go_enter Tryz.func55,Tryz.ntmps55
  go_wp2
  go_ret
  exact ⟨zmk (by rw [HS.out]),Below.refl _ _⟩
 ·
  have HS:Hid (zdJ l=zaj l):=zbY l (by omega)
  have hd:=zff l
  go_enter Tryz.func55,Tryz.ntmps55
  go_wp2_with fail
  refine (zi8 _ (hexL l.length) _ (by rw [zej _ (by omega) (by omega),Int.toNat_natCast])).mono ?_
  rintro e w1 ⟨rfl,hb1⟩
  go_wp2_with fail
  refine (zkj l _ hl).mono ?_
  rintro e w2 ⟨rfl,rfl⟩
  go_wp2_with fail
  refine (zi8 _ (hexL (zbx l).toNat) _ (zej _ (by omega) (by omega))).mono ?_
  rintro e w3 ⟨rfl,hb3⟩
  have h8:∀ n,(hexL n).length=8:=fun _=>rfl
  have hcat:=zbU
  go_wp2
  go_ret
  exact ⟨zmk (by rw [HS.out];rfl),hb1.trans (hb3.mono hb1.size)⟩
set_option maxHeartbeats 1000000 in
set_option maxRecDepth 100000 in
theorem zpc (l:List UInt8) (w:World) (hl:l.length≤1048576) :
 Calls Tryz.prog 80 #[.string ⟨l.toArray⟩] w fun e w'=>e=.returned (.tuple #[.string ⟨(zap l).toArray⟩,.bool (zaU l)])∧w'=w:=by
 have hext:=zbL
 have htk:∀ u,List.take (l.length-u) (List.drop u l)=List.drop u l:=fun u=>List.take_of_length_le (by rw [List.length_drop];omega)
 by_cases h16:(l.length:Int)<16
 ·
  have HF:Hid (zap l=[]∧zc8 l=0∧zaU l=false):=zcw l (by omega)
  go_enter Tryz.func80,Tryz.ntmps80
  go_wp2
  go_ret2
  exact ⟨zgB HF.out.1.symm HF.out.2.2.symm,rfl⟩
 ·
  obtain ⟨k,hk⟩:∃ k:Nat,zbd (l.take 8)=(k:Int):=Int.eq_ofNat_of_zero_le (zel (l.take 8)).1
  obtain ⟨h,hh⟩:∃ h:Int,zbd ((l.drop 8).take 8)=h:=⟨_,rfl⟩
  obtain ⟨one,hone⟩:∃ b:Bool,zc3 (l.take 8)=b:=⟨_,rfl⟩
  obtain ⟨two,htwo⟩:∃ b:Bool,zc3 ((l.drop 8).take 8)=b:=⟨_,rfl⟩
  have hkb:(k:Int)≤4294967295:=by rw [←hk];exact (zel (l.take 8)).2
  have HK:Hid (zbd (l.take 8)=(k:Int)):=hk
  have HH:Hid (zbd ((l.drop 8).take 8)=h):=hh
  have H1:Hid (zc3 (l.take 8)=one):=hone
  have H2:Hid (zc3 ((l.drop 8).take 8)=two):=htwo
  clear hk hh hone htwo
  have hdl:(l.drop 16).length=l.length-16:=List.length_drop
  obtain ⟨r,hr⟩:∃ r,l.drop 16=r:=⟨_,rfl⟩
  have hr16:=htk 16
  rw [hr] at hr16
  have HR:Hid (l.drop 16=r):=hr
  have hrl:r.length=l.length-16:=by rw [←hr];exact hdl
  go_enter Tryz.func80,Tryz.ntmps80
  go_wp2_with fail
  refine (zfT (l.take 8) k one _ HK.out H1.out).mono ?_
  rintro e w1 ⟨rfl,rfl⟩
  go_wp2_with fail
  refine (zfT ((l.drop 8).take 8) h two _ HH.out H2.out).mono ?_
  rintro e w2 ⟨rfl,rfl⟩
  by_cases hall:one=true∧two=true∧(k:Int)≤20000∧16+(k:Int)≤(l.length:Int)
  ·
   obtain ⟨rfl,rfl,hk2,hk3⟩:=hall
   have hk4:(k:Int)≤(r.length:Int):=by omega
   go_wp2_with fail
   refine (zkj (r.take k) _ (by have:=List.length_take_le k r;omega)).mono ?_
   rintro e w3 ⟨rfl,rfl⟩
   by_cases hq:zbx (r.take k)=h
   ·
    have HF:Hid (zap l=r.take k∧zc8 l=16+(k:Int)∧zaU l=true):=by
     have:=zeo l (by rw [HK.out,HH.out,H1.out,H2.out,HR.out];exact ⟨by omega,rfl,rfl,hk2,hk3,by simpa using hq⟩)
     rw [HK.out,Int.toNat_natCast,HR.out] at this
     exact this
    have hqb:(zbx (r.take k) !=h)=false:=by rw [hq];simp
    clear hq
    go_wp2
    go_ret2
    exact ⟨zgB HF.out.1.symm HF.out.2.2.symm,rfl⟩
   ·
    have HF:Hid (zap l=[]∧zc8 l=0∧zaU l=false):=zcw l (by
     rw [HK.out,HH.out,H1.out,H2.out,HR.out]
     rintro ⟨_,_,_,_,_,a⟩
     exact hq (by simpa using a))
    have hqb:(zbx (r.take k) !=h)=true:=bne_iff_ne.2 hq
    clear hq
    go_wp2
    go_ret2
    exact ⟨zgB HF.out.1.symm HF.out.2.2.symm,rfl⟩
  ·
   have HF:Hid (zap l=[]∧zc8 l=0∧zaU l=false):=zcw l (by
    rw [HK.out,HH.out,H1.out,H2.out]
    rintro ⟨_,a,b,c,d,_⟩
    exact hall ⟨a,b,c,d⟩)
   rcases one with _ | _
   ·
    go_wp2
    go_ret2
    exact ⟨zgB HF.out.1.symm HF.out.2.2.symm,rfl⟩
   ·
    rcases two with _ | _
    ·
     go_wp2
     go_ret2
     exact ⟨zgB HF.out.1.symm HF.out.2.2.symm,rfl⟩
    ·
     by_cases hk2:20000<(k:Int)
     ·
      go_wp2
      go_ret2
      exact ⟨zgB HF.out.1.symm HF.out.2.2.symm,rfl⟩
     ·
      have hk3:(r.length:Int)<(k:Int):=by
       by_cases h1:(l.length:Int)<16+(k:Int)
       ·
        omega
       ·
        exact absurd ⟨rfl,rfl,by omega,by omega⟩ hall
      clear hall
      go_wp2
      go_ret2
      exact ⟨zgB HF.out.1.symm HF.out.2.2.symm,rfl⟩
theorem zib (l t:List UInt8) (b:Bool) (w:World) (hl:l.length≤1048576) (ht:zap l=t) (hb:zaU l=b) :
 Calls Tryz.prog 80 #[.string ⟨l.toArray⟩] w fun e w'=>e=.returned (.tuple #[.string ⟨t.toArray⟩,.bool b])∧w'=w:=by
 subst ht hb;exact zpc l w hl
inductive Sh where
 | num (a:Int)
 | arg (a:Int)
 | pair (k:Int)
 | cond
 | call (p f:List UInt8) (a:Int)
 | no
def shOf (n:Nd):Sh :=
 if n.1=1 then .num n.2.1
 else if n.1=2 then .arg n.2.1
 else if 3≤n.1∧n.1≤6 then .pair n.1
 else if n.1=7 then .cond
 else if n.1=8 then .call n.2.2.1 n.2.2.2 n.2.1
 else .no
def zaN:Sh→Nd
 | .num a=>(1,a,[],[])
 | .arg a=>(2,a,[],[])
 | .pair k=>(k,0,[],[])
 | .cond=>(7,0,[],[])
 | .call p f a=>(8,a,p,f)
 | .no=>(0,0,[],[])
def shOk:Sh→Bool
 | .num a=>inB a (-2147483648) 2147483647
 | .arg a=>inB a 0 2
 | .pair _=>true
 | .cond=>true
 | .call p f a=>inB a 0 3 && (zaF p && zaF f)
 | .no=>false
def zme:Sh→Int
 | .num _=>0
 | .arg _=>0
 | .pair _=>2
 | .cond=>3
 | .call _ _ a=>a
 | .no=>-1
def shWord:Sh→List UInt8
 | .num a=>intL a
 | .arg a=>36 :: intL a
 | .pair k=>if k=3 then [43] else if k=4 then [45] else if k=5 then [42] else [47]
 | .cond=>[63]
 | .call p f a=>(64 :: p)++[46]++f++[47]++intL a
 | .no=>[]
theorem zec (n:Nd):(n.1=1∧shOf n=.num n.2.1)∨(n.1=2∧shOf n=.arg n.2.1)∨((3≤n.1∧n.1≤6)∧shOf n=.pair n.1)∨(n.1=7∧shOf n=.cond)∨(n.1=8∧shOf n=.call n.2.2.1 n.2.2.2 n.2.1)∨((n.1<1∨8<n.1)∧shOf n=.no):=by
 by_cases h1:n.1=1
 ·
  exact Or.inl ⟨h1,if_pos h1⟩
 by_cases h2:n.1=2
 ·
  exact Or.inr (Or.inl ⟨h2,by unfold shOf;rw [if_neg h1,if_pos h2]⟩)
 by_cases h3:3≤n.1∧n.1≤6
 ·
  exact Or.inr (Or.inr (Or.inl ⟨h3,by unfold shOf;rw [if_neg h1,if_neg h2,if_pos h3]⟩))
 by_cases h7:n.1=7
 ·
  exact Or.inr (Or.inr (Or.inr (Or.inl ⟨h7,by unfold shOf;rw [if_neg h1,if_neg h2,if_neg h3,if_pos h7]⟩)))
 by_cases h8:n.1=8
 ·
  exact Or.inr (Or.inr (Or.inr (Or.inr (Or.inl ⟨h8,by unfold shOf;rw [if_neg h1,if_neg h2,if_neg h3,if_neg h7,if_pos h8]⟩))))
 ·
  exact Or.inr (Or.inr (Or.inr (Or.inr (Or.inr ⟨by omega,by unfold shOf;rw [if_neg h1,if_neg h2,if_neg h3,if_neg h7,if_neg h8]⟩))))
theorem zdB (n:Nd):zaQ n=(shOk (shOf n) && decide (zaN (shOf n)=n)):=by
 rw [Bool.eq_iff_iff,zdZ,Bool.and_eq_true,decide_eq_true_iff]
 obtain ⟨k,a,p,f⟩:=n
 rcases zec (k,a,p,f) with ⟨h,e⟩ | ⟨h,e⟩ | ⟨h,e⟩ | ⟨h,e⟩ | ⟨h,e⟩ | ⟨h,e⟩
 ·
  rw [e];simp only at h;subst h
  unfold zdC shOk zaN inB
  simp [@eq_comm (List UInt8) [] p,@eq_comm (List UInt8) [] f]
 ·
  rw [e];simp only at h;subst h
  unfold zdC shOk zaN inB
  simp [@eq_comm (List UInt8) [] p,@eq_comm (List UInt8) [] f]
 ·
  rw [e];simp only at h
  unfold zdC shOk zaN
  simp only [Prod.mk.injEq,true_and]
  constructor
  ·
   rintro (⟨h1,_⟩ | ⟨h1,_⟩ | ⟨_,h2,h3,h4⟩ | ⟨h1,_⟩)
   ·
    omega
   ·
    omega
   ·
    exact ⟨h2.symm,h3.symm,h4.symm⟩
   ·
    omega
  ·
   rintro ⟨h2,h3,h4⟩
   exact Or.inr (Or.inr (Or.inl ⟨by omega,h2.symm,h3.symm,h4.symm⟩))
 ·
  rw [e];simp only at h;subst h
  unfold zdC shOk zaN
  simp [@eq_comm (List UInt8) [] p,@eq_comm (List UInt8) [] f,@eq_comm Int 0 a]
 ·
  rw [e];simp only at h;subst h
  unfold zdC shOk zaN inB
  simp
 ·
  rw [e];simp only at h
  unfold zdC shOk zaN
  simp
  omega
theorem kids_sh {n:Nd} (h:zaQ n=true):zme (shOf n)=zbt n:=by
 unfold zbt
 rcases zec n with ⟨h,e⟩ | ⟨h,e⟩ | ⟨h,e⟩ | ⟨h,e⟩ | ⟨h,e⟩ | ⟨h1,e⟩
 ·
  rw [e,if_neg (by omega),if_neg (by omega),if_neg (by omega)];rfl
 ·
  rw [e,if_neg (by omega),if_neg (by omega),if_neg (by omega)];rfl
 ·
  rw [e,if_pos h];rfl
 ·
  rw [e,if_neg (by omega),if_pos h];rfl
 ·
  rw [e,if_neg (by omega),if_neg (by omega),if_pos h];rfl
 ·
  have:=zdZ.1 h
  unfold zdC at this
  omega
theorem zmK:∀ u:Nat,Lib.decDigits u=digL u:=by
 intro u
 induction u using Nat.strongRecOn with
 | ind u ih =>
  rw [Lib.decDigits,digL]
  by_cases h:u<10
  ·
   rw [dif_pos h,if_pos h];unfold zc9;rw [Nat.mod_eq_of_lt h]
  ·
   rw [dif_neg h,if_neg h,ih (u / 10) (by omega)];rfl
theorem zmw (a:Int):Lib.itoa a=intL a:=by
 unfold Lib.itoa intL
 split
 ·
  rw [zmK]
 ·
  rw [zmK];congr 1;omega
def cutA (b:UInt8) (l:List UInt8):List UInt8:=l.takeWhile (fun c=>c !=b)
def cutB (b:UInt8) (l:List UInt8):List UInt8:=(l.dropWhile (fun c=>c !=b)).tail
noncomputable def shIn (s:List UInt8):Sh :=
 if numB s=true then .num (numV s)
 else if s=[63] then .cond
 else if s=[43] then .pair 3
 else if s=[45] then .pair 4
 else if s=[42] then .pair 5
 else if s=[47] then .pair 6
 else if s.head?=some 36 then .arg (numV s.tail)
 else if s.head?=some 64 then .call (cutA 46 (cutA 47 s.tail)) (cutB 46 (cutA 47 s.tail)) (numV (cutB 47 s.tail))
 else .no
noncomputable def inT (s:List UInt8):List Nd:=(za3 32 s).map (fun x=>zaN (shIn x))
end Go.Proofs.YtdbljnddkbpanaaGreatDoor
namespace Go.Proofs
open Go.Shelf
def Tryz.laysM173_ren:Go.Shelf.Ren:=⟨fun | 173=>82 | 246=>110 | 283=>140 | 284=>141 | 285=>142 | 286=>143 | 129=>163 | 317=>162 | 318=>164 | 319=>165 | 320=>166 | 337=>177 | 338=>178 | n=>n,fun | 2=>2 | 3=>3 | 9=>9 | 4=>4 | 171=>174 | 0=>0 | 53=>175 | 37=>22 | 5=>5 | 173=>178 | 212=>210 | 51=>211 | 20=>20 | 213=>212 | 46=>108 | 232=>229 | 233=>230 | n=>n,fun | 17=>9 | 18=>10 | 19=>11 | n=>n⟩
theorem Tryz.laysM173:Go.Proofs.LaysM.n173 Tryz.prog Tryz.laysM173_ren:={
 mixed:=by kernel_rfl
 f129:=Tryz.func163.trans (congrArg some (by kernel_rfl))
 f173:=Tryz.func82.trans (congrArg some (by kernel_rfl))
 f246:=Tryz.func110.trans (congrArg some (by kernel_rfl))
 f283:=Tryz.func140.trans (congrArg some (by kernel_rfl))
 f284:=Tryz.func141.trans (congrArg some (by kernel_rfl))
 f285:=Tryz.func142.trans (congrArg some (by kernel_rfl))
 f286:=Tryz.func143.trans (congrArg some (by kernel_rfl))
 f317:=Tryz.func162.trans (congrArg some (by kernel_rfl))
 f318:=Tryz.func164.trans (congrArg some (by kernel_rfl))
 f319:=Tryz.func165.trans (congrArg some (by kernel_rfl))
 f320:=Tryz.func166.trans (congrArg some (by kernel_rfl))
 f337:=Tryz.func177.trans (congrArg some (by kernel_rfl))
 f338:=Tryz.func178.trans (congrArg some (by kernel_rfl))
 t0:=Tryz.underlying0
 a0:=Tryz.isAgg0
 z0:=Tryz.sizeOf0
 v0:=Tryz.zeroValue0
 t2:=Tryz.underlying2
 a2:=Tryz.isAgg2
 z2:=Tryz.sizeOf2
 v2:=Tryz.zeroValue2
 t3:=Tryz.underlying3
 a3:=Tryz.isAgg3
 z3:=Tryz.sizeOf3
 v3:=Tryz.zeroValue3
 t4:=Tryz.underlying4
 a4:=Tryz.isAgg4
 z4:=Tryz.sizeOf4
 v4:=Tryz.zeroValue4
 t5:=Tryz.underlying5
 a5:=Tryz.isAgg5
 z5:=Tryz.sizeOf5
 v5:=Tryz.zeroValue5
 t9:=Tryz.underlying9
 a9:=Tryz.isAgg9
 z9:=Tryz.sizeOf9
 v9:=Tryz.zeroValue9
 t20:=Tryz.underlying20
 a20:=Tryz.isAgg20
 z20:=Tryz.sizeOf20
 v20:=Tryz.zeroValue20
 t37:=Tryz.underlying22
 a37:=Tryz.isAgg22
 z37:=Tryz.sizeOf22
 v37:=Tryz.zeroValue22
 t46:=Tryz.underlying108
 a46:=Tryz.isAgg108
 z46:=Tryz.sizeOf108
 v46:=Tryz.zeroValue108
 t51:=Tryz.underlying211
 a51:=Tryz.isAgg211
 z51:=Tryz.sizeOf211
 v51:=Tryz.zeroValue211
 t53:=Tryz.underlying175
 a53:=Tryz.isAgg175
 z53:=Tryz.sizeOf175
 v53:=Tryz.zeroValue175
 t171:=Tryz.underlying174
 a171:=Tryz.isAgg174
 z171:=Tryz.sizeOf174
 v171:=Tryz.zeroValue174
 t173:=Tryz.underlying178
 a173:=Tryz.isAgg178
 z173:=Tryz.sizeOf178
 v173:=Tryz.zeroValue178
 t212:=Tryz.underlying210
 a212:=Tryz.isAgg210
 z212:=Tryz.sizeOf210
 v212:=Tryz.zeroValue210
 t213:=Tryz.underlying212
 a213:=Tryz.isAgg212
 z213:=Tryz.sizeOf212
 t232:=Tryz.underlying229
 a232:=Tryz.isAgg229
 z232:=Tryz.sizeOf229
 v232:=Tryz.zeroValue229
 t233:=Tryz.underlying230
 a233:=Tryz.isAgg230
 z233:=Tryz.sizeOf230
 v233:=Tryz.zeroValue230
 g17:=by kernel_rfl
 g18:=by kernel_rfl
 g19:=by kernel_rfl
 i0:=by kernel_rfl
 i2:=by kernel_rfl
 i3:=by kernel_rfl
 i4:=by kernel_rfl
 i5:=by kernel_rfl
 i9:=by kernel_rfl
 i20:=by kernel_rfl
 i37:=by kernel_rfl
 i46:=by kernel_rfl
 i51:=by kernel_rfl
 i53:=by kernel_rfl
 i171:=by kernel_rfl
 i173:=by kernel_rfl
 i212:=by kernel_rfl
 i232:=by kernel_rfl
 i233:=by kernel_rfl
 m17:=by kernel_rfl
 m18:=by kernel_rfl
 m19:=by kernel_rfl }
open Go.RowKit Go.Sort Go.Lib in
theorem Tryz.strconv_FormatInt_10 (n : Int) (h0 : -9223372036854775808 ≤ n) (h1 : n ≤ 9223372036854775807) (w : World) (htab : Lib.TabIs Tryz.prog w "internal/strconv.uint64pow10" .u64 Lib.pow10Tab) :
 Calls Tryz.prog 82 #[.int .i64 n,.int .i64 10] w fun e w'=>e=.returned (.string ⟨(Lib.itoa n).toArray⟩)∧∃ k os,w'=grow (w.drewN k) os:=Any.strconv_FormatInt_10 Tryz.laysM173 n h0 h1 w htab
end Go.Proofs
namespace Go.Proofs.YtdbljnddkbpanaaGreatDoor
open Go.RowKit
def zcB (w : World) : Prop := Lib.TabIs Tryz.prog w "internal/strconv.uint64pow10" .u64 Lib.pow10Tab
theorem powAt : (Tryz.prog.globalNamed "internal/strconv.uint64pow10").isSome = true := by kernel_rfl
theorem powTy : (Tryz.prog.globalNamed "internal/strconv.uint64pow10").bind (fun g => (Tryz.prog.globals[g]?).map (·.type)) = some 210 := by kernel_rfl
theorem zjU {W : World} {g : Nat} {t : TypeId} {cs : Array Value} {fuel : Nat} {p : List MemPlace} (hg : Tryz.prog.globalNamed "internal/strconv.uint64pow10" = some g) (ht : (Tryz.prog.globals[g]?).map (·.type) = some t)
 (hv : W.var? Tryz.prog "internal/strconv.uint64pow10" = some cs) (hd : DataW.trod (fun _ => ()) Tryz.prog W 0 (fun _ => true) false fuel t cs.toList = some (Lib.tabData .u64 Lib.pow10Tab, p)) : zcB W := by
 have h1:=powTy
 rw [hg,Option.bind_some,ht] at h1
 obtain rfl:=Option.some.inj h1
 unfold zcB Lib.TabIs
 rw [hv,←Lib.cells_of_tab Tryz.underlying210 Tryz.underlying175 (by kernel_rfl) (by kernel_rfl) hd]
theorem zcB.below {w w':World} (h:zcB w) (hb:Below w.heap.size w w'):zcB w':=by
 obtain ⟨g,hg⟩:=Option.isSome_iff_exists.1 powAt
 exact Go.Joins.tab_stays hg h hb (Nat.le_refl _)
theorem zcB.drew {w:World} (h:zcB w):zcB w.drew:=h
theorem zmE (n:Int) (w:World) (ht:zcB w) (h0:-9223372036854775808≤n) (h1:n≤9223372036854775807) :
 Calls Tryz.prog 82 #[.int .i64 n,.int .i64 10] w fun e w'=>e=.returned (.string ⟨(intL n).toArray⟩)∧Below w.heap.size w w':=by
 refine (Tryz.strconv_FormatInt_10 n (by omega) (by omega) w ht).mono ?_
 rintro e w' ⟨rfl,k,os,rfl⟩
 exact ⟨by rw [zmw],Lib.below_grow _ w (Nat.le_refl _) k os⟩
set_option maxHeartbeats 1000000 in
set_option maxRecDepth 100000 in
theorem zfU (k key:Int) (w:World) (ht:zcB w) (hk0:-9223372036854775808≤k) (hk1:k≤9223372036854775807) (hy0:-9223372036854775808≤key) (hy1:key≤9223372036854775807) :
 Calls Tryz.prog 85 #[.int .i64 k,.int .i64 key] w fun e w'=>e=.returned (.string ⟨(zcA k key).toArray⟩)∧Below w.heap.size w w':=by
 have HF1:Hid (_):=zmE k w ht hk0 hk1
 have HF2:Hid (∀ Z,Below w.heap.size w Z→_):=fun Z hz=>zmE key Z (ht.below hz) hy0 hy1
 have HDT:Hid (zcA k key=(([100,111,110,101,32]++intL k)++[32])++intL key):=rfl
 have hcat:=zbU
 have hi1:=zcO hk0 hk1
 have hi2:=zcO hy0 hy1
 have hd5:(⟨#[100,111,110,101,32]⟩:ByteArray)=⟨([100,111,110,101,32]:List UInt8).toArray⟩:=rfl
 have hd1:(⟨#[32]⟩:ByteArray)=⟨([32]:List UInt8).toArray⟩:=rfl
 rw [HDT.out]
 clear ht HDT
 go_enter Tryz.func85,Tryz.ntmps85
 go_wp2_with fail
 refine Calls.mono HF1.out ?_
 rintro e w1 ⟨rfl,hb1⟩
 have HB1:Hid (Below w.heap.size w w1):=hb1
 clear hb1
 go_wp2_with fail
 refine Calls.mono (HF2.out _ HB1.out) ?_
 rintro e w2 ⟨rfl,hb2⟩
 have HB2:Hid (Below w.heap.size w w2):=HB1.out.trans (hb2.mono HB1.out.size)
 clear hb2
 go_wp2
 go_ret
 exact ⟨by simp,HB2.out⟩
theorem zkh (a:Option Addr) (n c:Nat) (k:Int) (w:World) :
 Calls Tryz.prog 51 #[.slice a n c,.int .i64 k] w fun e w'=>e=.returned (.bool (decide (0≤k∧k<(n:Int))))∧w'=w:=by
 by_cases h0:0≤k
 ·
  by_cases h1:k<(n:Int)
  ·
   have HR:Hid (decide (0≤k∧k<(n:Int))=true):=decide_eq_true ⟨h0,h1⟩
   generalize decide (0≤k∧k<(n:Int))=res at HR ⊢
   go_enter Tryz.func51,Tryz.ntmps51
   go_wp2
   go_ret
   exact ⟨by rw [HR.out];rfl,rfl⟩
  ·
   have HR:Hid (decide (0≤k∧k<(n:Int))=false):=decide_eq_false (fun h=>h1 h.2)
   generalize decide (0≤k∧k<(n:Int))=res at HR ⊢
   go_enter Tryz.func51,Tryz.ntmps51
   go_wp2
   go_ret
   exact ⟨by rw [HR.out];rfl,rfl⟩
 ·
  have HR:Hid (decide (0≤k∧k<(n:Int))=false):=decide_eq_false (fun h=>h0 h.1)
  generalize decide (0≤k∧k<(n:Int))=res at HR ⊢
  go_enter Tryz.func51,Tryz.ntmps51
  go_wp2
  go_ret
  exact ⟨by rw [HR.out];rfl,rfl⟩
def zjg (ts:List Ta) (t:Ta):Int:=if t.2.2.1=2 then 2 else if zbj ts t=false then 4 else 0
set_option maxHeartbeats 1000000 in
set_option maxRecDepth 100000 in
theorem zfV (a:Option Addr) (len cap:Nat) (ts:List Ta) (i:Nat) (w:World) (hin:zaK w a len ts) (hsh:zav ts) (hlen:len≤1048576) (hi:i<len) (hnd:∀ q,q<(ts.getD i ta0).2.1.length→0≤(ts.getD i ta0).2.1.getD q 0∧(ts.getD i ta0).2.1.getD q 0<len) :
 Calls Tryz.prog 53 #[.slice a len cap,.int .i64 (i:Int)] w fun e w'=>e=.returned (.int .i64 (zjg ts (ts.getD i ta0)))∧Below w.heap.size w w':=by
 obtain ⟨b,off,e,hbl,c0,⟨na,nc,c1,hn1⟩,c2,c3,c4,c5⟩:=hin.2 i hi
 have hsi:=(hsh i).2
 obtain ⟨x,hx⟩:∃ x,ts.getD i ta0=x:=⟨_,rfl⟩
 rw [hx] at c0 c1 c2 c3 c4 c5 hn1 hsi hnd ⊢
 obtain ⟨nm,ns,st,wk,un,ke⟩:=x
 simp only at c0 c1 c2 c3 c4 c5 hn1 hsi hnd
 obtain ⟨Y,hY⟩:∃ Y,w.alloc (.cells #[.string ⟨nm.toArray⟩,.slice na ns.length nc,.int .i64 st,.int .i64 wk,.int .i64 un,.int .i64 ke] 40)=Y:=⟨_,rfl⟩
 have hbY:Below w.heap.size w Y:=by rw [←hY];exact (Below.refl _ _).alloc (Nat.le_refl _) _
 have bE:=B6.new w (.string ⟨nm.toArray⟩) (.slice na ns.length nc) (.int .i64 st) (.int .i64 wk) (.int .i64 un) (.int .i64 ke) 40
 rw [hY] at bE
 have HN:Hid (_):=zj0 a na len cap nc ts ns Y (hin.below hbY) (hn1.below hbY) hsi hlen hnd
 have HFr:Hid (zbj ts (nm,ns,st,wk,un,ke)=decide (∀ i,i<ns.length→(ts.getD (ns.getD i 0).toNat ta0).2.2.1=2)):=rfl
 have HC:Hid (zjg ts (nm,ns,st,wk,un,ke)=if st=2 then 2 else if zbj ts (nm,ns,st,wk,un,ke)=false then 4 else 0):=rfl
 rw [HFr.out] at HC
 generalize zjg ts (nm,ns,st,wk,un,ke)=res at HC ⊢
 generalize decide (∀ i,i<ns.length→(ts.getD (ns.getD i 0).toNat ta0).2.2.1=2)=fr at HN HC
 obtain ⟨E,hE⟩:∃ E,w.heap.size=E:=⟨_,rfl⟩
 rw [hE] at bE
 have y1:=bE.c1
 have y2:=bE.c2
 have HB:Hid (Below w.heap.size w Y):=hbY
 subst e
 clear hin hsh hx hn1 hsi hnd bE hbY HFr
 by_cases h2:st=2
 ·
  have HR:Hid (res=2):=by exact (by rw [HC.out,if_pos h2]:res=2)
  subst h2
  clear HC HN
  go_enter Tryz.func53,Tryz.ntmps53
  go_wp2
  go_ret
  exact ⟨by rw [HR.out];rfl,HB.out⟩
 ·
  have h2b:(st==2)=false:=beq_eq_false_iff_ne.2 h2
  rcases fr with _ | _
  ·
   have HR:Hid (res=4):=by exact (by rw [HC.out,if_neg h2,if_pos rfl]:res=4)
   clear HC
   go_enter Tryz.func53,Tryz.ntmps53
   go_wp2_with (go_at_call 86;refine Calls.mono HN.out ?_;rintro e wn ⟨rfl,rfl⟩)
   go_ret
   exact ⟨by rw [HR.out];rfl,HB.out⟩
  ·
   have HR:Hid (res=0):=by exact (by rw [HC.out,if_neg h2,if_neg (by simp)]:res=0)
   clear HC
   go_enter Tryz.func53,Tryz.ntmps53
   go_wp2_with (go_at_call 86;refine Calls.mono HN.out ?_;rintro e wn ⟨rfl,rfl⟩)
   go_ret
   exact ⟨by rw [HR.out];rfl,HB.out⟩
set_option maxHeartbeats 1000000 in
set_option maxRecDepth 100000 in
theorem znD (nm:List UInt8) (na:Option Addr) (nl nc:Nat) (st wk un ke k2:Int) (w:World) :
 Calls Tryz.prog 87 #[.agg #[.string ⟨nm.toArray⟩,.slice na nl nc,.int .i64 st,.int .i64 wk,.int .i64 un,.int .i64 ke],.int .i64 k2] w fun e w'=>e=.returned (.agg #[.string ⟨nm.toArray⟩,.slice na nl nc,.int .i64 2,.int .i64 0,.int .i64 0,.int .i64 k2])∧Below w.heap.size w w':=by
 obtain ⟨D,hD⟩:∃ D,w.heap.size=D:=⟨_,rfl⟩
 obtain ⟨W1,hW1⟩:∃ W,w.alloc (.cells #[.string ⟨nm.toArray⟩,.slice na nl nc,.int .i64 st,.int .i64 wk,.int .i64 un,.int .i64 ke] 40)=W:=⟨_,rfl⟩
 obtain ⟨W2,hW2⟩:∃ W,W1.alloc (.cells #[.string ⟨#[]⟩,.slice none 0 0,.int .i64 0,.int .i64 0,.int .i64 0,.int .i64 0] 40)=W:=⟨_,rfl⟩
 have hs1:W1.heap.size=D+1:=by rw [←hW1,←hD];simp
 have hb1:Below D w W1:=by rw [←hW1,←hD];exact (Below.refl _ _).alloc (Nat.le_refl _) _
 have hb12:Below W1.heap.size W1 W2:=by rw [←hW2];exact (Below.refl _ _).alloc (Nat.le_refl _) _
 have HB:Hid (Below D w W2):=hb1.trans (hb12.mono (by omega))
 have bD:=B6.new w (.string ⟨nm.toArray⟩) (.slice na nl nc) (.int .i64 st) (.int .i64 wk) (.int .i64 un) (.int .i64 ke) 40
 rw [hW1,hD] at bD
 have bR:=B6.new W1 (.string ⟨#[]⟩) (.slice none 0 0) (.int .i64 0) (.int .i64 0) (.int .i64 0) (.int .i64 0) 40
 rw [hW2,hs1] at bR
 have bD2:=bD.below hb12
 have d0:=bD2.c0
 have d1:=bD2.c1
 have r0:=bR.c0
 have r1:=bR.c1
 have r2:=bR.c2
 have r3:=bR.c3
 have r4:=bR.c4
 have r5:=bR.c5
 have f0:=bR.fr 0
 have f1:=bR.fr 1
 have f2:=bR.fr 2
 have f3:=bR.fr 3
 have f4:=bR.fr 4
 have f5:=bR.fr 5
 obtain ⟨X,hX,y0,y1,y2,y3,y4,y5,hg⟩:=set6 (.string ⟨nm.toArray⟩) (.slice na nl nc) (.int .i64 2) (.int .i64 0) (.int .i64 0) (.int .i64 k2) r0 r1 r2 r3 r4 r5
 have HG:Hid (W2.grownBy X (some (D+1))∧D+1≤W2.heap.size):=⟨hg,by have:=bR.lt;omega⟩
 clear bD bR bD2 hb1 hb12 hg
 go_enter Tryz.func87,Tryz.ntmps87
 go_wp2
 refine bodyPost_ret (v:=.agg #[.string ⟨nm.toArray⟩,.slice na nl nc,.int .i64 2,.int .i64 0,.int .i64 0,.int .i64 k2]) (by simp [results,Tryz.results87,go_sem,y0,y1,y2,y3,y4,y5]) rfl ?_
 exact ⟨rfl,by rw [hD];exact HB.out.grown HG.out.1 (by have:=HG.out.2;omega) (fun k e=>by injection e with e;omega)⟩
noncomputable def dnV (f:List UInt8):Int × Int × Bool :=
 if (zbh f).length=3 then (zah ((zbh f).getD 1 []),zah ((zbh f).getD 2 []),decide (f=zcA (zah ((zbh f).getD 1 [])) (zah ((zbh f).getD 2 [])))) else (0,0,false)
theorem zgq (l:List UInt8) (i:Nat):((zbh l).getD i []).length≤l.length:=by
 by_cases hi:i<(zbh l).length
 ·
  have hg:(zbh l).getD i []=(zbh l)[i]:=by simp [List.getD,hi]
  rw [hg]
  have h1:((zbh l)[i]).length≤(zbh l).flatten.length:=by
   have hm:=List.getElem_mem hi
   generalize (zbh l)[i]=x at hm ⊢
   generalize zbh l=ws at hm ⊢
   clear hi hg
   induction ws with
   | nil=>cases hm
   | cons a r ih =>
    rw [List.flatten_cons,List.length_append]
    rcases List.mem_cons.1 hm with e | h
    ·
     subst e;omega
    ·
     have:=ih h;omega
  have h2:(zbh l).flatten.length≤l.length:=by
   unfold zbh
   split
   ·
    simp
   ·
    have:=zfL 32 l []
    simpa [za3] using this
  omega
 ·
  rw [List.getD_eq_getElem?_getD,List.getElem?_eq_none (by omega)]
  simp
set_option maxHeartbeats 2000000 in
set_option maxRecDepth 100000 in
theorem zia (f:List UInt8) (w:World) (ht:∀ Z,Below w.heap.size w Z→zcB Z) (hl:f.length≤1048576) :
 Calls Tryz.prog 50 #[.string ⟨f.toArray⟩] w fun e w'=>e=.returned (.tuple #[.int .i64 (dnV f).1,.int .i64 (dnV f).2.1,.bool (dnV f).2.2])∧Below w.heap.size w w':=by
 have HW:Hid (_):=zp8 f w hl
 have hp1:=zgq f 1
 have hp2:=zgq f 2
 have HV:Hid (dnV f=if (zbh f).length=3 then (zah ((zbh f).getD 1 []),zah ((zbh f).getD 2 []),decide (f=zcA (zah ((zbh f).getD 1 [])) (zah ((zbh f).getD 2 [])))) else (0,0,false)):=rfl
 generalize dnV f=res at HV ⊢
 generalize zbh f=ws at HW HV hp1 hp2
 by_cases h3:ws.length=3
 ·
  rw [if_pos h3] at HV
  have HN1:Hid (∀ Z,_):=fun Z=>zfS (ws.getD 1 []) Z (by omega)
  have HN2:Hid (∀ Z,_):=fun Z=>zfS (ws.getD 2 []) Z (by omega)
  have hb1:=zgf (ws.getD 1 [])
  have hb2:=zgf (ws.getD 2 [])
  have HT:Hid (∀ Z,Below w.heap.size w Z→_):=fun Z (hz:Below w.heap.size w Z)=>zfU (zah (ws.getD 1 [])) (zah (ws.getD 2 [])) Z (ht Z hz) (by omega) (by omega) (by omega) (by omega)
  obtain ⟨x,hx⟩:∃ x,ws.getD 1 []=x:=⟨_,rfl⟩
  obtain ⟨y,hy⟩:∃ y,ws.getD 2 []=y:=⟨_,rfl⟩
  rw [hx,hy] at HT HV
  rw [hx] at HN1
  rw [hy] at HN2
  generalize hvx:zah x=k at HT HV HN1
  generalize hvy:zah y=key at HT HV HN2
  obtain ⟨t,htx⟩:∃ t,zcA k key=t:=⟨_,rfl⟩
  rw [htx] at HT HV
  have HXY:Hid (ws.getD 1 []=x∧ws.getD 2 []=y):=⟨hx,hy⟩
  have HFF:Hid (decide (f=t)=(f==t)):=by exact (by by_cases e:f=t<;>simp [e]:decide (f=t)=(f==t))
  rw [HFF.out] at HV
  clear hp1 hp2 hx hy hvx hvy htx ht hb1 hb2
  go_enter Tryz.func50,Tryz.ntmps50
  go_wp2_with fail
  refine Calls.mono HW.out ?_
  rintro e w1 ⟨v,rfl,ho,hb1⟩
  obtain ⟨_,a,c,rfl,hin⟩:=zaC ho
  rw [h3] at hin ⊢
  obtain ⟨b,off,rfl,hbl,d1⟩:=hin.2 1 (by omega)
  obtain ⟨_,_,e2,_,d2⟩:=hin.2 2 (by omega)
  injection e2 with e2
  injection e2 with e3 e4 _
  subst e3 e4
  rw [HXY.out.1] at d1
  rw [HXY.out.2] at d2
  have HB1:Hid (Below w.heap.size w w1):=hb1
  have HD2:Hid (∀ Z,Below w1.heap.size w1 Z→Z.cell? ⟨b,off+2,none⟩=some (.string ⟨y.toArray⟩)):=fun Z hz=>(hz.cell (p:=⟨b,off+2,none⟩) hbl).trans d2
  clear ho hin hb1 d2 HW
  go_wp2_with fail
  refine Calls.mono (HN1.out _) ?_
  rintro e w2 ⟨rfl,hb2⟩
  have HB2:Hid (Below w.heap.size w w2):=HB1.out.trans (hb2.mono HB1.out.size)
  have d2:=HD2.out w2 hb2
  clear hb2 d1
  go_wp2_with fail
  refine Calls.mono (HN2.out _) ?_
  rintro e w3 ⟨rfl,hb3⟩
  have HB3:Hid (Below w.heap.size w w3):=HB2.out.trans (hb3.mono HB2.out.size)
  clear hb3 d2
  go_wp2_with fail
  refine Calls.mono (HT.out _ HB3.out) ?_
  rintro e w4 ⟨rfl,hb4⟩
  have HB4:Hid (Below w.heap.size w w4):=HB3.out.trans (hb4.mono HB3.out.size)
  clear hb4
  go_wp2
  go_ret3
  exact ⟨by rw [HV.out];rfl,HB4.out⟩
 ·
  rw [if_neg h3] at HV
  obtain ⟨n,hn⟩:∃ n,ws.length=n:=⟨_,rfl⟩
  rw [hn] at HW h3
  have h3i:¬(n:Int)=3:=by omega
  have h3b:((n:Int) !=3)=true:=by simp [h3i]
  clear hp1 hp2 ht hn
  go_enter Tryz.func50,Tryz.ntmps50
  go_wp2_with fail
  refine Calls.mono HW.out ?_
  rintro e w1 ⟨v,rfl,ho,hb1⟩
  obtain ⟨a,c,rfl⟩:=zb3 ho
  have HB1:Hid (Below w.heap.size w w1):=hb1
  clear ho hb1
  go_wp2
  go_ret3
  exact ⟨by rw [HV.out];rfl,HB1.out⟩
section
open Go.RowKit Go.Extern.Stop Go.Stop Go.Extern
def zb2 (a:Addr):Value:=.iface 248 (.pointer (some a))
def zd0 (w:World) (a:Addr):Prop:=∃ c t,w.heap[a.block]?=some (.cells c t (0,0))
theorem zd0.below {w w':World} {a:Addr} (h:zd0 w a) (hb:Below w.heap.size w w'):zd0 w' a:=by
 obtain ⟨c,t,e⟩:=h
 have hlt:a.block<w.heap.size:=by
  rcases Nat.lt_or_ge a.block w.heap.size with h | h
  ·
   exact h
  ·
   rw [Array.getElem?_eq_none h] at e;cases e
 exact ⟨c,t,(hb.block a.block hlt).trans e⟩
structure Err4 (w:World) (e:Nat→Addr):Prop where
 told:w.cell? ⟨0,0,none⟩=some (zb2 (e 0))
 far:w.cell? ⟨6,0,none⟩=some (zb2 (e 1))
 func:w.cell? ⟨7,0,none⟩=some (zb2 (e 2))
 count:w.cell? ⟨8,0,none⟩=some (zb2 (e 3))
 at0:zd0 w (e 0)
 at1:zd0 w (e 1)
 at2:zd0 w (e 2)
 at3:zd0 w (e 3)
 ne:e 0≠e 1∧e 0≠e 2∧e 0≠e 3∧e 1≠e 2∧e 1≠e 3∧e 2≠e 3
theorem zbG {w w':World} {g:Nat} {v:Value} (h:w.cell? ⟨g,0,none⟩=some v) (hb:Below w.heap.size w w'):w'.cell? ⟨g,0,none⟩=some v:=(hb.cell (p:=⟨g,0,none⟩) (World.block_lt_of_cell? w ⟨g,0,none⟩ h)).trans h
theorem Err4.below {w w':World} {e:Nat→Addr} (h:Err4 w e) (hb:Below w.heap.size w w'):Err4 w' e :=
 ⟨zbG h.told hb,zbG h.far hb,zbG h.func hb,zbG h.count hb,h.at0.below hb,h.at1.below hb,h.at2.below hb,h.at3.below hb,h.ne⟩
theorem zfa (v:Value) (w:World):(Extern.ReflectliteType.typeOf #[.iface 248 v]).run Tryz.prog w=.ok (.iface 190 (.agg #[.pointer (some ⟨13,248,none⟩)])) w:=by kernel_rfl
noncomputable def cmpE:Array Value→Sem Value:=(Go.Extern.find Tryz.f222).getD (fun _=>pure (.bool false))
theorem zd8 (w:World):(cmpE #[.agg #[.pointer (some ⟨13,248,none⟩)]]).run Tryz.prog w=.ok (.bool true) w:=by kernel_rfl
theorem zbv (v : Value) (w : World) : (Go.method 379 190 v "Comparable").run Tryz.prog w = .ok (222, v) w := by kernel_rfl
theorem zmy:(Tryz.prog.info? 248).map (·.comparable)=some true:=by kernel_rfl
theorem zmx:(Tryz.prog.info? 267).map (·.size)=some 1:=by kernel_rfl
theorem noIsE (v:Value) (xT:TypeId) (w:World):(Instr.typeAssert (.iface 248 v) xT 220 true).run Tryz.prog w=.ok (.tuple #[.nilIface,.bool false]) w:=run_typeAssert_lacksB Tryz.underlying220 (by kernel_rfl) (by kernel_rfl) v xT w
theorem zgM (v:Value) (xT:TypeId) (w:World):(Instr.typeAssert (.iface 248 v) xT 197 true).run Tryz.prog w=.ok (.tuple #[.nilIface,.bool false]) w:=run_typeAssert_lacksB Tryz.underlying197 (by kernel_rfl) (by kernel_rfl) v xT w
theorem zfv (v:Value) (xT:TypeId) (w:World):(Instr.typeAssert (.iface 248 v) xT 199 true).run Tryz.prog w=.ok (.tuple #[.nilIface,.bool false]) w:=run_typeAssert_lacksB Tryz.underlying199 (by kernel_rfl) (by kernel_rfl) v xT w
set_option maxHeartbeats 2000000 in
set_option maxRecDepth 100000 in
theorem zlm (a:Addr) (w:World) :
 Calls Tryz.prog 128 #[.iface 248 (.pointer (some a)),.iface 248 (.pointer (some a))] w fun e w'=>e=.returned (.bool true)∧w'=w:=by
 obtain ⟨i,hi,hcmp⟩:=Option.map_eq_some_iff.1 zmy
 obtain ⟨j,hj,hjs⟩:=Option.map_eq_some_iff.1 zmx
 have h8:=@run_callFunc_extern Tryz.prog 155 _ Extern.ReflectliteType.typeOf Tryz.func155 (by kernel_rfl) (by kernel_rfl) (by kernel_rfl) (by kernel_rfl)
 have h32:=@run_callFunc_extern Tryz.prog 222 _ cmpE Tryz.func222 (by kernel_rfl) (by kernel_rfl) (by kernel_rfl) (by kernel_rfl)
 have tT:=zfa
 have cT:=zd8
 have mR:=zbv
 have heq:=run_eql_iface_ptr_same (P:=Tryz.prog) w a Tryz.underlying127 Tryz.underlying248 hi hcmp hj
 go_enter Tryz.func128,Tryz.ntmps128
 go_wp2
 refine wp_loop_rounds 1 ?_
 rw [rounds_succ]
 go_wp2
 go_ret
 exact ⟨rfl,rfl⟩
set_option maxHeartbeats 2000000 in
set_option maxRecDepth 100000 in
theorem zcm (a b:Addr) (w:World) (hne:a≠b) (hsa:zd0 w a) (hsb:zd0 w b) :
 Calls Tryz.prog 128 #[.iface 248 (.pointer (some a)),.iface 248 (.pointer (some b))] w fun e w'=>e=.returned (.bool false)∧w'=w:=by
 obtain ⟨ca,ta,ha⟩:=hsa
 obtain ⟨cb,tb,hb⟩:=hsb
 obtain ⟨i,hi,hcmp⟩:=Option.map_eq_some_iff.1 zmy
 obtain ⟨j,hj,hjs⟩:=Option.map_eq_some_iff.1 zmx
 have h8:=@run_callFunc_extern Tryz.prog 155 _ Extern.ReflectliteType.typeOf Tryz.func155 (by kernel_rfl) (by kernel_rfl) (by kernel_rfl) (by kernel_rfl)
 have h32:=@run_callFunc_extern Tryz.prog 222 _ cmpE Tryz.func222 (by kernel_rfl) (by kernel_rfl) (by kernel_rfl) (by kernel_rfl)
 have tT:=zfa
 have cT:=zd8
 have mR:=zbv
 have nE:=noIsE
 have uE:=zgM
 have vE:=zfv
 have heq:=run_eql_iface_ptr_other (P:=Tryz.prog) w Tryz.underlying127 Tryz.underlying248 hi hcmp hj (by rw [hjs];decide) hne ha hb
 go_enter Tryz.func128,Tryz.ntmps128
 go_wp2
 refine wp_loop_rounds 1 ?_
 rw [rounds_succ]
 go_wp2
 go_ret
 exact ⟨rfl,rfl⟩
end
end Go.Proofs.YtdbljnddkbpanaaGreatDoor
