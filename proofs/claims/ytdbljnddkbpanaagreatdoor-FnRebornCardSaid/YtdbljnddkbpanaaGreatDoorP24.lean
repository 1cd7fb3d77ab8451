/-
  Parts of one proof, one behind the other: DrawTr2, DrawTr3, DrawTr4, Draw7, Draw7A.
-/
import Derived.Test.YtdbljnddkbpanaaGreatDoorP23
import Derived.Test.YtdbljnddkbpanaaGreatDoorP11
import Derived.Test.YtdbljnddkbpanaaGreatDoorP12
import Derived.Deep.RegionLaw
import Derived.Lib.SmallJoins
namespace Go.Proofs.YtdbljnddkbpanaaGreatDoor
open Go.RowKit
theorem zeb {ns:List Nd} (h:zbl ns) (j:Nat):zcb (ns.getD j nd0):=by
 rw [List.getD_eq_getElem?_getD]
 rcases Nat.lt_or_ge j ns.length with hj | hj
 ·
  rw [List.getElem?_eq_getElem hj];exact h _ (List.getElem_mem hj)
 ·
  rw [List.getElem?_eq_none hj];exact ⟨zmz,by decide,by decide⟩
theorem zbl.short {ns:List Nd} (h:zbl ns):zdv ns:=fun j=>⟨Nat.le_trans (zeb h j).2.1 (by omega),Nat.le_trans (zeb h j).2.2 (by omega)⟩
theorem zbl.int {ns:List Nd} (h:zbl ns):IntT ns:=fun j=>(zeb h j).1
set_option maxHeartbeats 2000000 in
set_option maxRecDepth 100000 in
theorem zio (w:World) (B:Nat) (a:Option Addr) (len cap:Nat) (args:Int) (ca:Option Addr) (cl cc:Nat) (calls:List Nd) (ha0:0≤args) (ha1:args≤1000) (hc:Cur w B a len cap) (hin:zas w ca cl calls) (hcl:cl≤1000) (hsm:∀ j,zcb (calls.getD j nd0)) (hkd:∀ j,zbt (calls.getD j nd0)≤3) (hne:∀ b off,ca=some ⟨b,off,none⟩→b≠B) :
 Calls Tryz.prog 75 #[.pointer (some ⟨B,0,none⟩),.int .i64 args,.slice ca cl cc] w fun e w'=>∃ v ns,e=.returned v∧w'.ownsRow w.heap.size 103 4 v ns.length (zab ns)∧zcc ns=true∧zbl ns∧Cur w' B a len cap∧w.grownBy w' (some B):=by
 have HIN:Hid (zas w ca cl calls):=hin
 have HSM:Hid (∀ j,zcb (calls.getD j nd0)):=hsm
 have HKD:Hid (∀ j,zbt (calls.getD j nd0)≤3):=hkd
 have HNE:Hid (∀ b off,ca=some ⟨b,off,none⟩→b≠B):=hne
 clear hin hsm hkd hne
 go_enter Tryz.func75,Tryz.ntmps75
 go_wp2_with fail
 refine (zaa _ B a len cap 3 (by omega) (by omega) hc).mono ?_
 rintro e w1 ⟨x1,rfl,h10,h11,hc1,hg1⟩
 obtain ⟨d1,rfl⟩:∃ d1:Nat,x1=(d1:Int):=Int.eq_ofNat_of_zero_le h10
 have hin1:zas w1 ca cl calls:=HIN.out.keep hg1.size (fun b off e hlt=>hg1.block b hlt (fun e2=>HNE.out b off e (by injection e2)))
 have hC:Hid (_):=zpw (1+d1) w1 B a len cap args ca cl cc calls (by omega) ha0 ha1 hc1 hin1 hcl HSM.out HKD.out HNE.out
 rw [show ((1+d1:Nat):Int)=1+(d1:Int) by omega] at hC
 clear HIN HSM HKD HNE hin1 hc hc1
 go_wp2_with fail
 refine Calls.mono hC.out ?_
 rintro e w2 ⟨v2,ns,rfl,hown2,hl2,hs2,hc2,hg2⟩
 have hG2:=hg1.trans hg2
 obtain ⟨_,a2,c2,rfl,hin2⟩:=zcq hown2
 have hT:Hid (_):=zhP a2 ns.length c2 ns w2 hin2 hs2.short (by omega)
 have hown3:=zaI hown2 hg1.size
 clear hC hg1 hg2 hown2 hin2
 go_wp2_with fail
 refine Calls.mono hT.out ?_
 rintro e w4 ⟨rfl,hb4⟩
 have hown4:=za6 hown3 hb4
 have hc4:=hc2.below hb4
 have hG4:w.grownBy w4 (some B):=hG2.andThen (Below.by hb4) (by simp)
 clear hT hb4 hown3 hc2 hG2
 rcases htb:zcc ns with _ | _
 ·
  have hown:=lit1 w w4 ((1,7,[],[]):Nd) hG4.size
  have hgz:=hG4.trans (World.grownBy_alloc w4 (.cells #[.int .i64 1,.int .i64 7,.string ⟨#[]⟩,.string ⟨#[]⟩] 103) (some B))
  have hcz:=hc4.kept (World.grownBy_alloc w4 (.cells #[.int .i64 1,.int .i64 7,.string ⟨#[]⟩,.string ⟨#[]⟩] 103) none) (by simp)
  simp only at hown
  go_wp2
  go_ret
  exact ⟨_,[((1,7,[],[]):Nd)],rfl,hown,by decide,by intro m hm;rw [List.mem_singleton] at hm;subst hm;exact ⟨⟨by decide,by decide⟩,by decide,by decide⟩,hcz,hgz⟩
 ·
  have HB:Hid (zcc ns=true):=htb
  clear htb
  go_wp2
  go_ret
  exact ⟨_,ns,rfl,hown4,HB.out,hs2,hc4,hG4⟩
theorem zfs (W:World) (base:Nat) (v:Value) (ns ms:List Nd) (cs:Array Value) (hcs:cs.toList=zab ms) (hown:W.ownsRow base 103 4 v ns.length (zab ns)) (hb:base≤W.heap.size) (hl:ns.length+ms.length≤100000) :
 ∃ v' w',(Builtin.append_ #[77,77] 77 #[v,.slice (some ⟨W.heap.size,0,none⟩) ms.length ms.length]).run Tryz.prog (W.alloc (.cells cs 103))=.ok v' w'∧w'.ownsRow base 103 4 v' (ns++ms).length (zab (ns++ms))∧W.grownBy w' v.ownBlock:=by
 obtain ⟨i0,hi,hz0,hz1,hz2⟩:=info_parts zei
 have hsz:cs.size=ms.length*4:=by rw [←zc1,←hcs];simp
 have hlit:=World.ownsRow_lit (base:=base) (e:=103) (size:=4) W cs ms.length hb (by unfold maxLen;omega) hsz
 rw [hcs] at hlit
 obtain ⟨v',w',hrun,hown',hg,_⟩:=zaE (P:=Tryz.prog) (W.alloc (.cells cs 103)) base 77 77 103 i0 _ 4 48 Tryz.underlying77 hi hz0 hz1 hz2 rfl (by decide) _ _ _ (hown.alloc _) _ ms.length (zab ms) (ziL hlit (zcM _)) (by unfold maxLen;omega) (by omega) (by simp;omega)
 exact ⟨v',w',hrun,by rw [zc6,List.length_append];exact hown',(World.grownBy_alloc W _ _).trans hg⟩
theorem zlg (ns:List Nd) (k:Nat):(zab ns).take (k*4)=zab (ns.take k):=by
 induction ns generalizing k with
 | nil=>simp [zab]
 | cons n r ih =>
  cases k with
  | zero=>simp [zab]
  | succ k=>rw [show (k+1)*4=k*4+1+1+1+1 by omega];simp [zab,ih]
theorem zjX {w:World} {base g n cp:Nat} {ns:List Nd} (h:w.ownsRow base 103 4 (.slice (some ⟨g,0,none⟩) n cp) n (zab ns)) (hn:ns.length=n) (m:Nat) (hm:m≤n):w.ownsRow base 103 4 (.slice (some ⟨g,0,none⟩) m cp) (ns.take m).length (zab (ns.take m)):=by
 have hl:(ns.take m).length=m:=by rw [List.length_take];omega
 rw [hl]
 have h0:=h.1
 rcases h.2 with ⟨h',_⟩ | ⟨g',cap',cur,h',hb,hg,hnc,hcm,hcs,htake⟩
 ·
  simp at h'
 ·
  simp only [Value.slice.injEq,Option.some.injEq,Addr.mk.injEq,and_true,true_and] at h'
  obtain ⟨rfl,rfl⟩:=h'
  refine ⟨by rw [zc1,hl],.inr ⟨g,cp,cur,rfl,hb,hg,by omega,hcm,hcs,?_⟩⟩
  rw [←zlg,←htake,List.take_take]
  congr 1
  omega
theorem znh {ns:List Nd} (h:zbl ns) (k:Nat):zbl (ns.take k):=fun n hn=>h n (List.mem_of_mem_take hn)
theorem zeV {ns ms:List Nd} (h:zbl ns) (k:zbl ms):zbl (ns++ms):=fun n hn=>(List.mem_append.1 hn).elim (h n) (k n)
theorem zjN {ns:List Nd} (h:zbl ns) {n:Nd} (hn:zcb n) (k:Nat):zbl (ns.set k n):=fun m hm=>(List.mem_or_eq_of_mem_set hm).elim (h m) (fun e=>by rw [e];exact hn)
theorem zoi:zbl [zf7]:=by intro m hm;rw [List.mem_singleton] at hm;subst hm;exact zjO 1 (by omega) (by omega)
theorem zgz:∀ j,zbl (zbi j)
 | 0=>fun n hn=>by cases hn
 | j+1=>fun n hn=>by
  rcases List.mem_cons.1 hn with rfl | hn
  ·
   exact zjO 3 (by omega) (by omega)
  ·
   rcases List.mem_cons.1 hn with rfl | hn
   ·
    exact zjO 1 (by omega) (by omega)
   ·
    exact zgz j n hn
def zg1:List Nd:=[(8,2,[108,105,98],[102]),(8,0,[108,105,98],[103])]
theorem zpL (j:Nat):zg1.getD j nd0=(8,2,[108,105,98],[102])∨zg1.getD j nd0=(8,0,[108,105,98],[103])∨zg1.getD j nd0=nd0:=by
 match j with
 | 0=>exact Or.inl rfl
 | 1=>exact Or.inr (Or.inl rfl)
 | j+2=>exact Or.inr (Or.inr (by simp [zg1,List.getD]))
theorem zg0 (j:Nat):zcb (zg1.getD j nd0)∧zbt (zg1.getD j nd0)≤3:=by
 rcases zpL j with h | h | h<;>rw [h]<;>exact ⟨⟨⟨by decide,by decide⟩,by decide,by decide⟩,by decide⟩
def lenV:Value→Nat
 | .slice _ n _=>n
 | _=>0
theorem zmp {w:World} {base e size g n cp:Nat} {xs:List Value} (h:w.ownsRow base e size (.slice (some ⟨g,0,none⟩) n cp) n xs):n≤cp∧cp≤maxLen:=by
 rcases h.2 with ⟨h',_⟩ | ⟨g',cap',cur,h',hb,hg,hnc,hcm,hcs,htake⟩
 ·
  simp at h'
 ·
  simp only [Value.slice.injEq,Option.some.injEq,Addr.mk.injEq,and_true,true_and] at h'
  obtain ⟨rfl,rfl⟩:=h'
  exact ⟨hnc,hcm⟩
theorem znp (ns:List Nd) (p:List UInt8) (h:0<ns.length):(zab ns).set 2 (.string ⟨p.toArray⟩)=zab (ns.set 0 ((ns.getD 0 nd0).1,(ns.getD 0 nd0).2.1,p,(ns.getD 0 nd0).2.2.2)):=by
 cases ns with
 | nil=>simp at h
 | cons n r=>simp [zab]
def Any6 (w wx:World) (B:Nat) (a:Option Addr) (len cap:Nat) (v:Value):Prop :=
 ∃ ns:List Nd,wx.ownsRow w.heap.size 103 4 v ns.length (zab ns)∧ns.length≤62∧zbl ns∧zkR ns∧Cur wx B a len cap∧w.grownBy wx (some B)
set_option maxHeartbeats 4000000 in
set_option maxRecDepth 100000 in
theorem drawAny6 (w:World) (B:Nat) (a:Option Addr) (len cap:Nat) (hc:Cur w B a len cap) :
 Calls Tryz.prog 42 #[.pointer (some ⟨B,0,none⟩)] w fun e w'=>∃ v,e=.returned v∧Any6 w w' B a len cap v:=by
 have hBw:=hc.lt
 have hlit:=World.ownsRow_lit (base:=w.heap.size) (e:=103) (size:=4) w #[.int .i64 8,.int .i64 2,.string ⟨#[108,105,98]⟩,.string ⟨#[102]⟩,.int .i64 8,.int .i64 0,.string ⟨#[108,105,98]⟩,.string ⟨#[103]⟩] 2 (Nat.le_refl _) (by decide) rfl
 obtain ⟨_,a0,c0,he0,hin0⟩:=zcq (ns:=zg1) hlit
 have hc0:=hc.kept (World.grownBy_alloc w (.cells #[.int .i64 8,.int .i64 2,.string ⟨#[108,105,98]⟩,.string ⟨#[102]⟩,.int .i64 8,.int .i64 0,.string ⟨#[108,105,98]⟩,.string ⟨#[103]⟩] 103) none) (by simp)
 have hg0:=World.grownBy_alloc w (.cells #[.int .i64 8,.int .i64 2,.string ⟨#[108,105,98]⟩,.string ⟨#[102]⟩,.int .i64 8,.int .i64 0,.string ⟨#[108,105,98]⟩,.string ⟨#[103]⟩] 103) (some B)
 obtain ⟨rfl,rfl⟩:a0=some ⟨w.heap.size,0,none⟩∧c0=2:=by
  simp only [Value.slice.injEq,true_and] at he0
  exact ⟨he0.1.symm,he0.2.symm⟩
 have hT:Hid (_):=zio _ B a len cap 3 (some ⟨w.heap.size,0,none⟩) 2 2 zg1 (by omega) (by omega) hc0 hin0 (by omega) (fun j=>(zg0 j).1) (fun j=>(zg0 j).2) (fun b off e=>by simp only [Option.some.injEq,Addr.mk.injEq,and_true] at e;omega)
 clear hlit hin0 he0 hc hc0
 go_enter Tryz.func42,Tryz.ntmps42
 go_wp2_with fail
 refine Calls.mono hT.out ?_
 rintro e w2 ⟨v2,ns,rfl,hown2,htr,hs2,hc2,hg2⟩
 have hG2:=hg0.trans hg2
 have hown3:=zaI hown2 hg0.size
 obtain ⟨⟨ht1,ht2⟩,_⟩:=ziA htr
 have HTR:Hid (zcc ns=true):=htr
 clear hT hg0 hg2 hown2 htr
 go_wp2_with fail
 refine (zbg _ B a len cap 6 (by omega) (by omega) hc2).mono ?_
 rintro e w4 ⟨b4,rfl,hc4,hg4⟩
 have hvl:=zmo hown3
 have hown4:=hown3.kept hg4 (zeI (fun q e1 e2=>by have:=hvl q e1;omega))
 have hG4:=hG2.trans hg4
 clear hown3 hc2 hG2 hg4
 go_upto_if 10 with fail
 go_cut [3] from 4 (fun v wx=>Hid (Any6 w wx B a len cap v))
 case first =>
  rcases b4 with _ | _
  ·
   go_wp2_with fail
   go_meet
   case rel=>exact ⟨ns,hown4,by omega,hs2,zgm ht2,hc4,hG4⟩
  ·
   go_wp2_with fail
   refine (zaa _ B a len cap 4 (by omega) (by omega) hc4).mono ?_
   rintro e w5 ⟨x5,rfl,h50,h51,hc5,hg5⟩
   have hown5:=hown4.kept hg5 (zeI (fun q e1 e2=>by have:=hvl q e1;omega))
   have hG5:=hG4.trans hg5
   obtain ⟨g,cp,rfl⟩:=zaw hown5 (by omega)
   have hgl:w.heap.size≤g:=hvl g rfl
   clear hown4 hc4 hG4 hg5
   rcases (show x5=0∨x5=1∨x5=2∨x5=3 by omega) with rfl | rfl | rfl | rfl
   ·
    obtain ⟨v6,w6,hrun,hown6,hg6⟩:=zfs w5 w.heap.size _ ns [zf7] #[.int .i64 1,.int .i64 0,.string ⟨#[]⟩,.string ⟨#[]⟩] rfl hown5 hG5.size (by simp;omega)
    go_wp2_with (at_builtin;refine za0 rfl (.tmp 15) (.tmp 17) 77 rfl _ _ _ rfl rfl hrun ?_;clear hrun)
    go_meet
    case rel=>exact ⟨ns++[zf7],hown6,by simp;omega,zeV hs2 zoi,zpt HTR.out _,hc5.kept hg6 (fun q e=>by have:=hvl q e;omega),hG5.andThen hg6 (fun q e=>Or.inl (hvl q e))⟩
   ·
    have hown6:=zjX hown5 rfl (ns.length-1) (by omega)
    obtain ⟨hcp,_⟩:=zmp hown5
    have hlc:((ns.length:Int)-1).toNat=ns.length-1:=by omega
    go_wp2_with fail
    go_meet
    case rel=>exact ⟨ns.take (ns.length-1),by simpa [hlc] using hown6,by rw [List.length_take];omega,znh hs2 _,zgm (by rw [List.length_take];omega),hc5,hG5⟩
   ·
    go_wp2_with fail
    refine (zhf _ B a len cap (-1) 11 (by omega) (by omega) (by omega) hc5).mono ?_
    rintro e w6 ⟨x6,rfl,h60,h61,hc6,hg6⟩
    have hown6:=hown5.kept hg6 (zeI (fun q e1 e2=>by have:=hvl q e1;omega))
    have hG6:=hG5.trans hg6
    clear hown5 hc5 hG5 hg6
    go_wp2_with fail
    refine (zhf _ B a len cap (-1) 5 (by omega) (by omega) (by omega) hc6).mono ?_
    rintro e w7 ⟨x7,rfl,h70,h71,hc7,hg7⟩
    have hown7:=hown6.kept hg7 (zeI (fun q e1 e2=>by have:=hvl q e1;omega))
    have hG7:=hG6.trans hg7
    clear hown6 hc6 hG6 hg7
    have hset:=((((hown7.stored 0 (.int .i64 x6)).1.stored 1 (.int .i64 x7)).1.stored 2 (.string ⟨#[]⟩)).1.stored 3 (.string ⟨#[]⟩)).1
    have hsv:=zno ns 0 x6 x7 [] []
    simp only [Nat.zero_mul,Nat.zero_add] at hsv
    rw [hsv] at hset
    have c0:=hown7.cellAt 0 (by omega)
    have c1:=hown7.cellAt 1 (by omega)
    have c2:=hown7.cellAt 2 (by omega)
    have c3:=hown7.cellAt 3 (by omega)
    obtain ⟨v0,v1,v2,v3⟩:=zf3 ns 0 (by omega)
    simp only [Nat.zero_mul,Nat.zero_add] at v0 v1 v2 v3
    rw [v0] at c0
    rw [v1] at c1
    rw [v2] at c2
    rw [v3] at c3
    have f0:=hown7.frozenAt 0
    have f1:=hown7.frozenAt 1
    have f2:=hown7.frozenAt 2
    have f3:=hown7.frozenAt 3
    have hgg:=zfD w7 g (.int .i64 x6) (.int .i64 x7) (.string ⟨#[]⟩) (.string ⟨#[]⟩)
    clear hsv v0 v1 v2 v3 hown7
    go_wp2_with fail
    go_meet
    case rel=>exact ⟨ns.set 0 (x6,x7,[],[]),by rw [List.length_set];exact hset,by rw [List.length_set];omega,zjN hs2 ⟨⟨⟨by simp only;omega,by simp only;omega⟩,⟨by simp only;omega,by simp only;omega⟩⟩,by simp,by simp⟩ 0,zgm (by rw [List.length_set];omega),hc7.kept hgg (by simp;omega),hG7.andThen hgg (fun q e=>Or.inl (by simp at e;omega))⟩
   ·
    have hset:=(hown5.stored 2 (.string ⟨#[120]⟩)).1
    have hsv:=znp ns [120] (by omega)
    rw [hsv] at hset
    have c2:=hown5.cellAt 2 (by omega)
    obtain ⟨_,_,v2,_⟩:=zf3 ns 0 (by omega)
    simp only [Nat.zero_mul,Nat.zero_add] at v2
    rw [v2] at c2
    have f2:=hown5.frozenAt 2
    have hgg:=zar w5 g 2 (.string ⟨#[120]⟩)
    clear hsv v2 hown5
    go_wp2_with fail
    go_meet
    case rel=>exact ⟨ns.set 0 ((ns.getD 0 nd0).1,(ns.getD 0 nd0).2.1,[120],(ns.getD 0 nd0).2.2.2),by rw [List.length_set];exact hset,by rw [List.length_set];omega,zjN hs2 (n:=((ns.getD 0 nd0).1,(ns.getD 0 nd0).2.1,[120],(ns.getD 0 nd0).2.2.2)) ⟨(zeb hs2 0).1,by simp,(zeb hs2 0).2.2⟩ 0,zgm (by rw [List.length_set];omega),hc5.kept hgg (by simp;omega),hG5.andThen hgg (fun q e=>Or.inl (by simp at e;omega))⟩
 case rest =>
  clear hown4 hc4 hG4 hs2 HTR hvl ht1 ht2
  obtain ⟨ns1,hown,hl1,hs1,he1,hc1,hG1⟩:=hcut.out
  go_wp2_with fail
  refine (zbg _ B a len cap 40 (by omega) (by omega) hc1).mono ?_
  rintro e w8 ⟨b8,rfl,hc8,hg8⟩
  have hvl:=zmo hown
  have hown8:=hown.kept hg8 (zeI (fun q e1 e2=>by have:=hvl q e1;omega))
  have hG8:=hG1.trans hg8
  clear hown hc1 hG1 hg8 hcut
  rcases b8 with _ | _
  ·
   go_wp2
   go_ret
   exact ⟨_,rfl,ns1,hown8,hl1,hs1,he1,hc8,hG8⟩
  ·
   clear hown8 hs1 he1 hl1 hvl
   have hownE:=World.ownsRow_lit (base:=w.heap.size) (e:=103) (size:=4) w8 #[] 0 hG8.size (by decide) rfl
   have hcE:=hc8.kept (World.grownBy_alloc w8 (.cells #[] 103) none) (by simp)
   have hGE:=hG8.trans (World.grownBy_alloc w8 (.cells #[] 103) (some B))
   go_wp2
   go_loopw [3] (fun v wr=>∃ (j:Nat) (av:Option Addr) (cv:Nat),v=.slice av (2*j) cv∧j≤31∧Hid (wr.ownsRow w.heap.size 103 4 v (zbi j).length (zab (zbi j)))∧Hid (Cur wr B a len cap)∧Hid (w.grownBy wr (some B))) (fun v _=>64-lenV v)
   case atStart=>exact ⟨0,_,_,rfl,by omega,hownE,hcE,hGE⟩
   case round =>
    obtain ⟨j,av,cv,rfl,hj,HV,hcr,hGr⟩:=hrel
    clear hownE hcE hGE hc8 hG8
    have hvl:=zmo HV.out
    go_wp2_with fail
    refine (zaa _ B a len cap 2 (by omega) (by omega) hcr.out).mono ?_
    rintro e w9 ⟨x9,rfl,h90,h91,hc9,hg9⟩
    have hown9:=HV.out.kept hg9 (zeI (fun q e1 e2=>by have:=hvl q e1;omega))
    have hG9:=hGr.out.trans hg9
    clear HV hcr hGr hg9
    by_cases hlt:((2*j:Nat):Int)<59+2*x9
    ·
     obtain ⟨v6,w6,hrun,hown6,hg6⟩:=zfs w9 w.heap.size _ (zbi j) [zk3,zf7] #[.int .i64 3,.int .i64 0,.string ⟨#[]⟩,.string ⟨#[]⟩,.int .i64 1,.int .i64 0,.string ⟨#[]⟩,.string ⟨#[]⟩] rfl hown9 hG9.size (by rw [zby];simp;omega)
     rw [zft] at hown6
     obtain ⟨_,a6,c6,rfl,_⟩:=zcq hown6
     have hl6:(zbi (j+1)).length=2*(j+1):=zby (j+1)
     have HO:Hid (w6.ownsRow w.heap.size 103 4 (.slice a6 (2*(j+1)) c6) (zbi (j+1)).length (zab (zbi (j+1)))):=by exact (by rw [←hl6];exact hown6:w6.ownsRow w.heap.size 103 4 (.slice a6 (2*(j+1)) c6) (zbi (j+1)).length (zab (zbi (j+1))))
     have hc6:Hid (Cur w6 B a len cap):=hc9.kept hg6 (fun q e=>by have:=hvl q e;omega)
     have hG6:Hid (w.grownBy w6 (some B)):=hG9.andThen hg6 (fun q e=>Or.inl (hvl q e))
     rw [hl6] at hrun
     clear hown6 hg6 hown9 hc9 hG9 hvl hl6
     go_wp2_with (at_builtin;refine za0 rfl (.tmp 50) (.tmp 53) 77 rfl _ _ _ rfl rfl hrun ?_;clear hrun)
     go_roundw
     case rel=>exact ⟨j+1,a6,c6,rfl,by omega,HO,hc6,hG6⟩
     case measure=>simp [lenV];omega
    ·
     obtain ⟨i,rfl⟩:∃ i,j=i+1:=⟨j-1,by omega⟩
     obtain ⟨g,cp,hgf⟩:=zaw hown9 (by rw [zby];omega)
     rw [zby] at hgf
     simp only [Value.slice.injEq] at hgf
     obtain ⟨rfl,_,rfl⟩:=hgf
     rw [show (zbi (i+1)).length=2*(i+1) from zby _] at hown9
     obtain ⟨hcp,_⟩:=zmp hown9
     have hown5:=zjX hown9 (zby _) (2*i+1) (by omega)
     obtain ⟨v6,w6,hrun,hown6,hg6⟩:=zfs w9 w.heap.size _ _ [zf7] #[.int .i64 1,.int .i64 0,.string ⟨#[]⟩,.string ⟨#[]⟩] rfl hown5 hG9.size (by rw [List.length_take,zby];simp;omega)
     rw [zoB] at hown6
     have hlc:(((2*(i+1):Nat):Int)-1).toNat=2*i+1:=by omega
     have hc6:Cur w6 B a len cap:=hc9.kept hg6 (fun q e=>by have:=hvl q e;omega)
     have hG6:w.grownBy w6 (some B):=hG9.andThen hg6 (fun q e=>Or.inl (hvl q e))
     clear hown5 hown9 hg6 hc9 hG9
     go_wp2_with (at_builtin;refine za0 rfl (.tmp 59) (.tmp 61) 77 rfl _ _ _ (by first | rfl | simp [hlc]) rfl hrun ?_;clear hrun)
     go_ret
     exact ⟨_,rfl,zbi (i+1),hown6,by rw [zby];omega,zgz _,znN _,hc6,hG6⟩
def Drawn6 (w wx:World) (v:Value) (ns:List Nd):Prop:=wx.ownsRow w.heap.size 103 4 v ns.length (zab ns)∧ns.length≤62∧zbl ns∧zkR ns
theorem zaV.grown {w w':World} {base:Nat} {v:Value} {xs:List FV} {row:Option Nat} (h:zaV w base v xs) (hg:w.grownBy w' row) (hr:∀ k,row=some k→k<base):zaV w' base v xs:=by
 have off:∀ {e size n:Nat} {u:Value} {ys:List Value},w.ownsRow base e size u n ys→u.ownBlock=Option.none∨u.ownBlock≠row:=fun {e size n u ys} ho=>by
  cases hu:u.ownBlock with
  | none=>exact Or.inl rfl
  | some k=>exact Or.inr (fun e2=>by have:=(ho.lt k hu).1;have:=hr k e2.symm;omega)
 exact ⟨h.row.kept hg (off h.row),fun x hx=>(h.trees x hx).kept hg (off (h.trees x hx))⟩
theorem zc5 {w w':World} {base e size n:Nat} {u:Value} {ys:List Value} {row:Option Nat} (h:w.ownsRow base e size u n ys) (hg:w.grownBy w' row) (hr:∀ k,row=some k→k<base):w'.ownsRow base e size u n ys:=h.kept hg (by
 cases hu:u.ownBlock with
 | none=>exact Or.inl rfl
 | some k=>exact Or.inr (fun e2=>by have:=(h.lt k hu).1;have:=hr k e2.symm;omega))
theorem push_fn (X:World) (base:Nat) (v:Value) (xs:List FV) (y:FV) (h:zaV X base v xs) (hy:X.ownsRow base 103 4 (fvT y) y.1.2.2.length (zab y.1.2.2)) (hb:base≤X.heap.size) (hn:xs.length≤1048576) :
 ∃ g' c' Y,(Builtin.append_ #[73,73] 73 #[v,.slice (some ⟨X.heap.size,0,none⟩) 1 1]).run Tryz.prog (X.alloc (.cells #[.string ⟨y.1.1.toArray⟩,.int .i64 y.1.2.1,fvT y] 79))=.ok (.slice (some ⟨g',0,none⟩) (xs.length+1) c') Y ∧
  zaV Y base (.slice (some ⟨g',0,none⟩) (xs++[y]).length c') (xs++[y])∧X.grownBy Y v.ownBlock:=by
 obtain ⟨i0,hi,hz0,hz1,hz2⟩:=info_parts zmA
 have hX1:Below X.heap.size X (X.alloc (.cells #[.string ⟨y.1.1.toArray⟩,.int .i64 y.1.2.1,fvT y] 79)):=(Below.refl _ _).alloc (Nat.le_refl _) _
 have h1:=h.below hX1
 have hy1:=za6 hy hX1
 obtain ⟨v',Y,hrun,hown,hg,_⟩:=zaE (P:=Tryz.prog) (X.alloc (.cells #[.string ⟨y.1.1.toArray⟩,.int .i64 y.1.2.1,fvT y] 79)) base 73 73 79 i0 _ 3 48 Tryz.underlying73 hi hz0 hz1 hz2 rfl (by decide) _ _ _ h1.row _ 1 (fnsV [y]) (new_fn X y 1) (by unfold maxLen;omega) (by omega) (by simp;omega)
 obtain ⟨g',c',rfl⟩:=zaw hown (by omega)
 have e1:(xs++[y]).length=xs.length+1:=by simp
 have hown2:Y.ownsRow base 79 3 (.slice (some ⟨g',0,none⟩) (xs++[y]).length c') (xs++[y]).length (fnsV (xs++[y])):=by
  rw [e1,zh7];exact hown
 have htr:∀ z∈xs++[y],Y.ownsRow base 103 4 (fvT z) z.1.2.2.length (zab z.1.2.2):=fun z hz=>by
  rw [List.mem_append,List.mem_singleton] at hz
  rcases hz with hz | rfl
  ·
   exact (h1.trees z hz).kept hg (zak (h1.trees z hz) h1.row (by decide))
  ·
   exact hy1.kept hg (zak hy1 h1.row (by decide))
 exact ⟨g',c',Y,hrun,⟨hown2,htr⟩,(World.grownBy_alloc X _ _).trans hg⟩
structure DrSt (X w:World) (B:Nat) (a:Option Addr) (len cap:Nat) (R P:Nat) (nm:List UInt8) (vi:Value) (fa:Option Addr) (fc:Nat) (xs:List FV) (vo:Value) (ns:List Nd):Prop where
 p:Box3 X P (.string ⟨nm.toArray⟩) vi (.slice fa xs.length fc)
 pf:∀ j,X.frozen? ⟨P,j,none⟩=false
 r:Box3 X R (.string ⟨#[]⟩) (.slice none 0 0) (.slice none 0 0)
 rf:∀ j,X.frozen? ⟨R,j,none⟩=false
 fo:zaV X (P+1) (.slice fa xs.length fc) xs
 ow:X.ownsRow (P+1) 103 4 vo ns.length (zab ns)
 cur:Cur X B a len cap
 g:w.grownBy X (some B)
 br:B<R
 rp:R<P
 wr:w.heap.size=R
 ap:∀ x∈xs,(fvT x).ownBlock=none∨(fvT x).ownBlock≠vo.ownBlock
section
variable {X Y w:World} {B:Nat} {a:Option Addr} {len cap R P:Nat} {nm:List UInt8} {vi:Value} {fa:Option Addr} {fc:Nat} {xs:List FV} {vo:Value} {ns:List Nd}
theorem DrSt.next (h:DrSt X w B a len cap R P nm vi fa fc xs vo ns) (hg:X.grownBy Y (some B)) (hc:Cur Y B a len cap):DrSt Y w B a len cap R P nm vi fa fc xs vo ns :=
 have hp:some P≠some B:=fun e=>by injection e with e;have:=h.br;have:=h.rp;omega
 have hr:some R≠some B:=fun e=>by injection e with e;have:=h.br;omega
 have hlt:∀ k,some B=some k→k<P+1:=fun k e=>by injection e with e;have:=h.br;have:=h.rp;omega
 ⟨h.p.grown hg hp,fun j=>(World.frozen?_of_block (a:=⟨P,j,none⟩) (hg.block P h.p.lt hp)).trans (h.pf j),h.r.grown hg hr,fun j=>(World.frozen?_of_block (a:=⟨R,j,none⟩) (hg.block R h.r.lt hr)).trans (h.rf j),
  h.fo.grown hg hlt,zc5 h.ow hg hlt,hc,h.g.trans hg,h.br,h.rp,h.wr,h.ap⟩
theorem DrSt.made (h:DrSt X w B a len cap R P nm vi fa fc xs vo ns) (hg:X.grownBy Y none):DrSt Y w B a len cap R P nm vi fa fc xs vo ns :=
 h.next ⟨hg.os,hg.tape,hg.output,hg.size,fun k hk _=>hg.block k hk (by simp)⟩ (h.cur.kept hg (by simp))
theorem DrSt.alloc (h:DrSt X w B a len cap R P nm vi fa fc xs vo ns) (o:Obj):DrSt (X.alloc o) w B a len cap R P nm vi fa fc xs vo ns:=h.made (World.grownBy_alloc X o none)
theorem DrSt.drew (h:DrSt X w B a len cap R P nm vi fa fc xs vo ns):DrSt X.drew w B a len cap R P nm vi fa fc xs vo ns:=h.made (zaq X none)
theorem DrSt.side (h:DrSt X w B a len cap R P nm vi fa fc xs vo ns) {k:Nat} (hg:X.grownBy Y (some k)) (hk:P<k) (hf:∀ q,(Value.slice fa xs.length fc).ownBlock=some q→q≠k) (ht:∀ x∈xs,∀ q,(fvT x).ownBlock=some q→q≠k) (ho:∀ q,vo.ownBlock=some q→q≠k):DrSt Y w B a len cap R P nm vi fa fc xs vo ns:=by
 have hB:=h.br
 have hR:=h.rp
 have hW:=h.wr
 have hp:some P≠some k:=fun e=>by injection e with e;omega
 have hr:some R≠some k:=fun e=>by injection e with e;omega
 have off:∀ {u:Value},(∀ q,u.ownBlock=some q→q≠k)→u.ownBlock=none∨u.ownBlock≠some k:=fun {u} hu=>by
  cases hv:u.ownBlock with
  | none=>exact Or.inl rfl
  | some q=>exact Or.inr (fun e=>by injection e with e;exact hu q hv e)
 refine ⟨h.p.grown hg hp,fun j=>(World.frozen?_of_block (a:=⟨P,j,none⟩) (hg.block P h.p.lt hp)).trans (h.pf j),h.r.grown hg hr,fun j=>(World.frozen?_of_block (a:=⟨R,j,none⟩) (hg.block R h.r.lt hr)).trans (h.rf j),
  h.fo.kept hg (off hf) (fun x hx=>off (ht x hx)),h.ow.kept hg (off ho),h.cur.kept hg (fun q e=>by injection e with e;omega),?_,h.br,h.rp,h.wr,h.ap⟩
 exact ⟨hg.os.trans h.g.os,hg.tape.trans h.g.tape,hg.output.trans h.g.output,Nat.le_trans h.g.size hg.size,fun q hq hn=>(hg.block q (Nat.lt_of_lt_of_le hq h.g.size) (fun e=>by injection e with e;omega)).trans (h.g.block q hq hn)⟩
end
theorem zfI {V:World} {a b c:Value} {t:TypeId}:Box3 (V.alloc (.cells #[a,b,c] t)) V.heap.size a b c∧∀ j,(V.alloc (.cells #[a,b,c] t)).frozen? ⟨V.heap.size,j,none⟩=false :=
 ⟨(Box3.new V a b c t).1,fun j=>Go.Joins.unfrozen_of_block (heap_alloc_new V (.cells #[a,b,c] t)) j⟩
theorem zmM {V Y:World} {B k:Nat} {a b c:Value} (h:Box3 V k a b c∧∀ j,V.frozen? ⟨k,j,none⟩=false) (hg:V.grownBy Y (some B)) (hk:k≠B):Box3 Y k a b c∧∀ j,Y.frozen? ⟨k,j,none⟩=false :=
 have hn:some k≠some B:=fun e=>by injection e with e;exact hk e
 ⟨h.1.grown hg hn,fun j=>(World.frozen?_of_block (a:=⟨k,j,none⟩) (hg.block k h.1.lt hn)).trans (h.2 j)⟩
theorem zm2 {V Y:World} {B:Nat} {a b c:Value} {t:TypeId} (hg:(V.alloc (.cells #[a,b,c] t)).drew.grownBy Y (some B)) (hB:B<V.heap.size):Box3 Y V.heap.size a b c∧∀ j,Y.frozen? ⟨V.heap.size,j,none⟩=false :=
 zmM (V:=(V.alloc (.cells #[a,b,c] t)).drew) ⟨zfI.1.drew,zfI.2⟩ hg (by omega)
theorem box_up2 {V Y:World} {B:Nat} {o:Obj} {a b c:Value} {t:TypeId} (hg:((V.alloc o).alloc (.cells #[a,b,c] t)).drew.grownBy Y (some B)) (hB:B<V.heap.size):Box3 Y (V.heap.size+1) a b c∧∀ j,Y.frozen? ⟨V.heap.size+1,j,none⟩=false:=by
 have h:=zm2 (V:=V.alloc o) hg (by simp;omega)
 rw [World.size_alloc] at h
 exact h
theorem box_up3 {V Y:World} {B:Nat} {o:Obj} {a b c:Value} {t:TypeId} (hg:((V.alloc (.cells #[a,b,c] t)).alloc o).drew.grownBy Y (some B)) (hB:B<V.heap.size):Box3 Y V.heap.size a b c∧∀ j,Y.frozen? ⟨V.heap.size,j,none⟩=false:=by
 have hb:Below (V.alloc (.cells #[a,b,c] t)).heap.size (V.alloc (.cells #[a,b,c] t)) ((V.alloc (.cells #[a,b,c] t)).alloc o):=(Below.refl _ _).alloc (Nat.le_refl _) _
 have h:=zfI (V:=V) (a:=a) (b:=b) (c:=c) (t:=t)
 exact zmM (V:=((V.alloc (.cells #[a,b,c] t)).alloc o).drew) ⟨(h.1.below hb).drew,fun j=>(hb.frozen (p:=⟨V.heap.size,j,none⟩) (by simp)).trans (h.2 j)⟩ hg (by omega)
theorem zpN {V:World} {k:Nat} {a b c:Value} (a' b' c':Value) (h:Box3 V k a b c∧∀ j,V.frozen? ⟨k,j,none⟩=false) :
 (Box3 (((V.setCell ⟨k,0,none⟩ a').setCell ⟨k,1,none⟩ b').setCell ⟨k,2,none⟩ c') k a' b' c'∧∀ j,(((V.setCell ⟨k,0,none⟩ a').setCell ⟨k,1,none⟩ b').setCell ⟨k,2,none⟩ c').frozen? ⟨k,j,none⟩=false)∧V.grownBy (((V.setCell ⟨k,0,none⟩ a').setCell ⟨k,1,none⟩ b').setCell ⟨k,2,none⟩ c') (some k):=by
 obtain ⟨Y,hY,y0,y1,y2,hg⟩:=set3 a' b' c' h.1.c0 h.1.c1 h.1.c2
 rw [hY]
 refine ⟨⟨⟨y0,y1,y2⟩,fun j=>?_⟩,hg⟩
 rw [←hY]
 exact (World.frozen?_setCell ..).trans ((World.frozen?_setCell ..).trans ((World.frozen?_setCell ..).trans (h.2 j)))
theorem zek {w:World} {k j:Nat} (o:Obj) (hk:k<w.heap.size) (h:w.frozen? ⟨k,j,none⟩=false):(w.alloc o).frozen? ⟨k,j,none⟩=false :=
 (World.frozen?_of_block (a:=⟨k,j,none⟩) (Below.heap_alloc w o k hk)).trans h
section
variable {V X Y w:World} {B:Nat} {a:Option Addr} {len cap R P:Nat} {nm:List UInt8} {vi:Value} {fa:Option Addr} {fc:Nat} {xs:List FV} {vo:Value} {ns:List Nd}
def Dr12 (V w:World) (B:Nat) (a:Option Addr) (len cap R P:Nat) (nm:List UInt8) (vi:Value) (fa:Option Addr) (fc:Nat) (xs:List FV) (vo:Value) (ns:List Nd) (v:Value) (wx:World):Prop :=
 ∃ (F:Nat) (y:Int) (fn:List UInt8),v=.pointer (some ⟨F,0,none⟩)∧(0≤y∧y≤3)∧fn.length≤9∧V.heap.size≤F∧DrSt wx w B a len cap R P nm vi fa fc xs vo ns∧(Box3 wx F (.string ⟨fn.toArray⟩) (.int .i64 y) (.slice none 0 0)∧∀ j,wx.frozen? ⟨F,j,none⟩=false)
theorem zpz (st:DrSt V w B a len cap R P nm vi fa fc xs vo ns) (h:DrSt X w B a len cap R P nm vi fa fc xs vo ns) {F:Nat} (hF:V.heap.size≤F) (hg:X.grownBy Y (some F)):DrSt Y w B a len cap R P nm vi fa fc xs vo ns:=by
 have hp:=st.p.lt
 exact h.side hg (by omega) (fun q e=>by have:=(st.fo.row.lt q e).2;omega) (fun x hx q e=>by have:=((st.fo.trees x hx).lt q e).2;omega) (fun q e=>by have:=(st.ow.lt q e).2;omega)
theorem zpy (st:DrSt V w B a len cap R P nm vi fa fc xs vo ns) (h:DrSt X w B a len cap R P nm vi fa fc xs vo ns) {F:Nat} (hF:V.heap.size≤F) {z0 z1 z2:Value} (hb:Box3 X F z0 z1 z2∧∀ j,X.frozen? ⟨F,j,none⟩=false) (fn:List UInt8) (hfn:fn.length≤9) {y:Int} (hy0:0≤y) (hy1:y≤3) :
 Dr12 V w B a len cap R P nm vi fa fc xs vo ns (.pointer (some ⟨F,0,none⟩)) (((X.setCell ⟨F,0,none⟩ (.string ⟨fn.toArray⟩)).setCell ⟨F,1,none⟩ (.int .i64 y)).setCell ⟨F,2,none⟩ (.slice none 0 0)):=by
 obtain ⟨hb2,hg⟩:=zpN (.string ⟨fn.toArray⟩) (.int .i64 y) (.slice none 0 0) hb
 exact ⟨F,y,fn,rfl,⟨hy0,hy1⟩,hfn,hF,zpz st h hF hg,hb2⟩
theorem dr_new (h:DrSt X w B a len cap R P nm vi fa fc xs vo ns) (hF:V.heap.size≤X.heap.size) (fn:List UInt8) (hfn:fn.length≤9) {y:Int} (hy0:0≤y) (hy1:y≤3) :
 Dr12 V w B a len cap R P nm vi fa fc xs vo ns (.pointer (some ⟨X.heap.size,0,none⟩)) (X.alloc (.cells #[.string ⟨fn.toArray⟩,.int .i64 y,.slice none 0 0] 79)) :=
 ⟨X.heap.size,y,fn,rfl,⟨hy0,hy1⟩,hfn,hF,h.alloc _,zfI⟩
theorem dr_new2 (h:DrSt X w B a len cap R P nm vi fa fc xs vo ns) (hF:V.heap.size≤X.heap.size) (fn:List UInt8) (hfn:fn.length≤9) {y:Int} (hy0:0≤y) (hy1:y≤3) (o:Obj) :
 Dr12 V w B a len cap R P nm vi fa fc xs vo ns (.pointer (some ⟨X.heap.size+1,0,none⟩)) ((X.alloc o).alloc (.cells #[.string ⟨fn.toArray⟩,.int .i64 y,.slice none 0 0] 79)):=by
 have h2:=dr_new (V:=V) (h.alloc o) (by rw [World.size_alloc];omega) fn hfn hy0 hy1
 rw [World.size_alloc] at h2
 exact h2
theorem zpO {F:Nat} {z0 z1 z2:Value} (o:Obj) (hb:Box3 X F z0 z1 z2∧∀ j,X.frozen? ⟨F,j,none⟩=false):Box3 (X.alloc o) F z0 z1 z2∧∀ j,(X.alloc o).frozen? ⟨F,j,none⟩=false :=
 ⟨hb.1.below ((Below.refl _ _).alloc (Nat.le_refl _) o),fun j=>zek o hb.1.lt (hb.2 j)⟩
theorem dr_new3 (h:DrSt X w B a len cap R P nm vi fa fc xs vo ns) (hF:V.heap.size≤X.heap.size) (fn:List UInt8) (hfn:fn.length≤9) {y:Int} (hy0:0≤y) (hy1:y≤3) (o:Obj) :
 Dr12 V w B a len cap R P nm vi fa fc xs vo ns (.pointer (some ⟨X.heap.size,0,none⟩)) ((X.alloc (.cells #[.string ⟨fn.toArray⟩,.int .i64 y,.slice none 0 0] 79)).alloc o) :=
 ⟨X.heap.size,y,fn,rfl,⟨hy0,hy1⟩,hfn,hF,(h.alloc _).alloc o,zpO o zfI⟩
theorem dr_set1 (st:DrSt V w B a len cap R P nm vi fa fc xs vo ns) (h:DrSt X w B a len cap R P nm vi fa fc xs vo ns) {F:Nat} (hF:V.heap.size≤F) {z0 z1 z2:Value} (hb:Box3 X F z0 z1 z2∧∀ j,X.frozen? ⟨F,j,none⟩=false) (fn:List UInt8) (hfn:fn.length≤9) {y:Int} (hy0:0≤y) (hy1:y≤3) (o:Obj) :
 Dr12 V w B a len cap R P nm vi fa fc xs vo ns (.pointer (some ⟨F,0,none⟩)) ((((X.alloc o).setCell ⟨F,0,none⟩ (.string ⟨fn.toArray⟩)).setCell ⟨F,1,none⟩ (.int .i64 y)).setCell ⟨F,2,none⟩ (.slice none 0 0)) :=
 zpy st (h.alloc o) hF (zpO o hb) fn hfn hy0 hy1
theorem sz0 {row:Option Nat} (h:V.drew.grownBy Y row):V.heap.size≤Y.heap.size:=h.size
theorem sz1 {row:Option Nat} {o:Obj} (h:(V.alloc o).drew.grownBy Y row):V.heap.size≤Y.heap.size:=by
 have h1:(V.alloc o).heap.size≤Y.heap.size:=h.size
 rw [World.size_alloc] at h1;omega
theorem sz2 {row:Option Nat} {o o':Obj} (h:((V.alloc o).alloc o').drew.grownBy Y row):V.heap.size≤Y.heap.size:=by
 have h1:((V.alloc o).alloc o').heap.size≤Y.heap.size:=h.size
 rw [World.size_alloc,World.size_alloc] at h1;omega
end
end Go.Proofs.YtdbljnddkbpanaaGreatDoor
