/-
  Parts of one proof, one behind the other: ProjT, ProjM, ProjK, Draw3, DrawW, DrawT, DrawX, DrawN, DrawTr, Math6D.
-/
import Derived.Test.YtdbljnddkbpanaaGreatDoorP22
import Derived.Deep.RegionWith
import Derived.Test.YtdbljnddkbpanaaGreatDoorP4
import Derived.Test.YtdbljnddkbpanaaGreatDoorP1
import Derived.Test.YtdbljnddkbpanaaGreatDoorP2
import Derived.Test.YtdbljnddkbpanaaGreatDoorP11
import Derived.Test.YtdbljnddkbpanaaGreatDoorP3
import Derived.Test.YtdbljnddkbpanaaGreatDoorP12
import Derived.Deep.Cut
namespace Go.Proofs.YtdbljnddkbpanaaGreatDoor
open Go.RowKit
structure PV where
 nm:List UInt8
 ims:List (List UInt8)
 xs:List FV
 ia:Option Addr
 ic:Nat
 fa:Option Addr
 fc:Nat
 lo:Nat
 hi:Nat
def pvI (y:PV):Value:=.slice y.ia y.ims.length y.ic
def pvF (y:PV):Value:=.slice y.fa y.xs.length y.fc
def pvP (y:PV):Pk:=(y.nm,y.ims,y.xs.map (·.1))
def pv0:PV:=⟨[],[],[],none,0,none,0,0,0⟩
def pvsV:List PV→List Value
 | []=>[]
 | y :: r=>.string ⟨y.nm.toArray⟩ :: pvI y :: pvF y :: pvsV r
theorem ziJ (ys:List PV) (j:Nat) (hj:j<ys.length):(pvsV ys)[j*3]?=some (.string ⟨(ys.getD j pv0).nm.toArray⟩)∧(pvsV ys)[j*3+1]?=some (pvI (ys.getD j pv0))∧(pvsV ys)[j*3+2]?=some (pvF (ys.getD j pv0)):=by
 induction ys generalizing j with
 | nil=>simp at hj
 | cons n r ih =>
  cases j with
  | zero=>simp [pvsV]
  | succ j =>
   obtain ⟨h0,h1,h2⟩:=ih j (by simpa using hj)
   refine ⟨?_,?_,?_⟩
   ·
    rw [show (j+1)*3=j*3+1+1+1 by omega];simpa [pvsV] using h0
   ·
    rw [show (j+1)*3+1=j*3+1+1+1+1 by omega];simpa [pvsV] using h1
   ·
    rw [show (j+1)*3+2=j*3+2+1+1+1 by omega];simpa [pvsV] using h2
structure PvOk (w:World) (y:PV):Prop where
 im:w.ownsRow y.lo 9 1 (pvI y) y.ims.length (strV y.ims)
 fo:zaV w y.lo (pvF y) y.xs
 ap:zkS (y.xs.map fvT)
 top:∀ k,zmS (pvI y) (pvF y) y.xs k→k<y.hi
theorem PvOk.wrote {w w':World} {y:PV} (h:PvOk w y) {S:Nat→Prop} (hw:zb0 w w' S) (hs:∀ k,S k→k<y.lo∨y.hi≤k):PvOk w' y:=by
 have hoff:∀ {e size n:Nat} {v:Value} {zs:List Value},w.ownsRow y.lo e size v n zs→(∀ k,v.ownBlock=some k→k<y.hi)→w'.ownsRow y.lo e size v n zs:=fun ho ht=>zbz ho hw (fun k hk hS=>by
  have h1:=(ho.lt k hk).1
  have h2:=ht k hk
  rcases hs k hS with h3 | h3<;>omega)
 exact ⟨hoff h.im (fun k e=>h.top k (Or.inl e)),⟨hoff h.fo.row (fun k e=>h.top k (Or.inr (Or.inl e))),fun x hx=>hoff (h.fo.trees x hx) (fun k e=>h.top k (Or.inr (Or.inr ⟨x,hx,e⟩)))⟩,h.ap,h.top⟩
theorem PvOk.below {w w':World} {y:PV} (h:PvOk w y) (hb:Below w.heap.size w w'):PvOk w' y:=h.wrote (S:=fun _=>False) (zb0.of_below hb) (fun _ e=>e.elim)
structure zm5 (w:World) (B T:Nat) (v:Value) (ys:List PV):Prop where
 row:w.ownsRow B 75 3 v ys.length (pvsV ys)
 each:∀ y∈ys,PvOk w y∧B≤y.lo∧y.hi≤T
 seq:ys.Pairwise (fun a b=>a.hi≤b.lo)
 off:∀ k,v.ownBlock=some k→k<T∧∀ y∈ys,k<y.lo∨y.hi≤k
 sz:T≤w.heap.size
theorem zm5.below {w w':World} {B T:Nat} {v:Value} {ys:List PV} (h:zm5 w B T v ys) (hb:Below w.heap.size w w'):zm5 w' B T v ys :=
 ⟨za6 h.row hb,fun y hy=>⟨(h.each y hy).1.below hb,(h.each y hy).2⟩,h.seq,h.off,Nat.le_trans h.sz hb.size⟩
theorem zcX (ys:List PV) (j:Nat):(ys.map pvP).getD j pk0=pvP (ys.getD j pv0):=by
 rw [List.getD_eq_getElem?_getD,List.getD_eq_getElem?_getD,List.getElem?_map]
 cases ys[j]?<;>rfl
theorem zm5.in {w:World} {B T:Nat} {v:Value} {ys:List PV} (h:zm5 w B T v ys):∃ a cap,v=.slice a ys.length cap∧(a=none→cap=0)∧zat w a ys.length (ys.map pvP):=by
 rcases zb4 h.row with ⟨rfl,h0,_⟩ | ⟨g,cp,rfl⟩
 ·
  exact ⟨none,0,by rw [h0],fun _=>rfl,by simp,fun j hj=>by omega⟩
 ·
  refine ⟨some ⟨g,0,none⟩,cp,rfl,fun e=>(by cases e),by simp,fun j hj=>?_⟩
  obtain ⟨v0,v1,v2⟩:=ziJ ys j hj
  have hc:=fun k (hk:k<ys.length*3)=>World.ownsRow.cellAt h.row k hk
  have hmem:ys.getD j pv0∈ys:=by rw [List.getD_eq_getElem?_getD,List.getElem?_eq_getElem hj];exact List.getElem_mem hj
  have hy:=(h.each _ hmem).1
  obtain ⟨ai,ci,af,cf,e1,e2,_,_,hti,hfi⟩:=zoC hy.im hy.fo rfl
  refine ⟨g,0,rfl,(h.row.lt g rfl).2,?_,ai,(ys.getD j pv0).ims.length,ci,af,((ys.getD j pv0).xs.map (·.1)).length,cf,?_,?_,?_,?_⟩
  ·
   rw [Nat.zero_add,hc _ (by omega),v0,zcX];rfl
  ·
   rw [Nat.zero_add,hc _ (by omega),v1,e1]
  ·
   rw [Nat.zero_add,hc _ (by omega),v2,e2]
  ·
   rw [zcX];exact hti
  ·
   rw [zcX];exact hfi
theorem zlo:(Tryz.prog.info? 75).map (fun i=>(i.zero,i.size,i.bytes))=some (some (.agg #[.string ⟨#[]⟩,.slice none 0 0,.slice none 0 0]),3,64):=by kernel_rfl
def mend (k:Nat):List PV→Nat
 | []=>k
 | y :: r=>mend (fend (k+1+y.ims.length) y.xs) r
def SameL (zs ys:List PV):Prop:=zs.length=ys.length∧∀ i,pvI (zs.getD i pv0)=pvI (ys.getD i pv0)∧pvF (zs.getD i pv0)=pvF (ys.getD i pv0)
theorem SameL.name {zs ys:List PV} (h:SameL zs ys) (j:Nat) (x:List UInt8):SameL (zs.set j ⟨x,(zs.getD j pv0).ims,(zs.getD j pv0).xs,(zs.getD j pv0).ia,(zs.getD j pv0).ic,(zs.getD j pv0).fa,(zs.getD j pv0).fc,(zs.getD j pv0).lo,(zs.getD j pv0).hi⟩) ys:=by
 refine ⟨by rw [List.length_set];exact h.1,fun i=>?_⟩
 by_cases hij:j=i
 ·
  subst hij
  by_cases hj:j<zs.length
  ·
   rw [show (zs.set j _).getD j pv0=⟨x,(zs.getD j pv0).ims,(zs.getD j pv0).xs,(zs.getD j pv0).ia,(zs.getD j pv0).ic,(zs.getD j pv0).fa,(zs.getD j pv0).fc,(zs.getD j pv0).lo,(zs.getD j pv0).hi⟩ by simp [List.getD,hj]]
   exact ⟨(h.2 j).1,(h.2 j).2⟩
  ·
   rw [List.set_eq_of_length_le (by omega)];exact h.2 j
 ·
  rw [show (zs.set j _).getD i pv0=zs.getD i pv0 by simp [List.getD,List.getElem?_set_ne hij]]
  exact h.2 i
structure zal (w:World) (a:Option Addr) (len cap:Nat) (ps:List Pk):Prop where
 hlen:ps.length=len
 nil:a=none→cap=0
 hcap:len≤cap
 small:len≤1048576
 each:∀ j,j<len→∃ b off,a=some ⟨b,off,none⟩∧b<w.heap.size∧w.cell? ⟨b,off+j*3,none⟩=some (.string ⟨(ps.getD j pk0).1.toArray⟩) ∧
  ∃ ia il ic fa fl fc,w.cell? ⟨b,off+j*3+1,none⟩=some (.slice ia il ic)∧w.cell? ⟨b,off+j*3+2,none⟩=some (.slice fa fl fc)∧PkOk w (ps.getD j pk0).1 ia il ic fa fl fc (ps.getD j pk0).2.1 (ps.getD j pk0).2.2
theorem zal.below {w w':World} {a:Option Addr} {len cap:Nat} {ps:List Pk} (h:zal w a len cap ps) (hb:Below w.heap.size w w'):zal w' a len cap ps :=
 ⟨h.hlen,h.nil,h.hcap,h.small,fun j hj=>by
  obtain ⟨b,off,e,hlt,c0,ia,il,ic,fa,fl,fc,c1,c2,hk⟩:=h.each j hj
  exact ⟨b,off,e,Nat.lt_of_lt_of_le hlt hb.size,(hb.cell (p:=⟨b,off+j*3,none⟩) hlt).trans c0,ia,il,ic,fa,fl,fc,(hb.cell (p:=⟨b,off+j*3+1,none⟩) hlt).trans c1,(hb.cell (p:=⟨b,off+j*3+2,none⟩) hlt).trans c2,hk.below hb⟩⟩
theorem zal.in {w:World} {a:Option Addr} {len cap:Nat} {ps:List Pk} (h:zal w a len cap ps):zat w a len ps :=
 ⟨h.hlen,fun j hj=>by
  obtain ⟨b,off,e,hlt,c0,ia,il,ic,fa,fl,fc,c1,c2,hk⟩:=h.each j hj
  exact ⟨b,off,e,hlt,c0,ia,il,ic,fa,fl,fc,c1,c2,hk.i,hk.f⟩⟩
theorem zal.short {w:World} {a:Option Addr} {len cap:Nat} {ps:List Pk} (h:zal w a len cap ps):zbr ps:=fun j=>by
 by_cases hj:j<len
 ·
  obtain ⟨b,off,e,hlt,c0,ia,il,ic,fa,fl,fc,c1,c2,hk⟩:=h.each j hj
  exact ⟨hk.nm,by rw [hk.i.1];exact hk.il,hk.is,by rw [hk.f.1];exact hk.fl,hk.fs⟩
 ·
  have:ps.getD j pk0=pk0:=by rw [List.getD,List.getElem?_eq_none (by rw [h.hlen];omega)];rfl
  rw [this]
  exact ⟨by simp [pk0],by simp [pk0],fun i=>by simp [pk0],by simp [pk0],fun i=>by simp [pk0,fn0,zdv,nd0]⟩
theorem zm5.ok {w:World} {B T:Nat} {g len cap:Nat} {ys:List PV} {ps:List Pk} (h:zm5 w B T (.slice (some ⟨g,0,none⟩) len cap) ys) (hp:ys.map pvP=ps) (hi:IntPs ps) (hs:zbr ps) (hl:ps.length=len) (hlen:len≤1048576):zal w (some ⟨g,0,none⟩) len cap ps:=by
 have hyl:ys.length=len:=by rw [←hl,←hp,List.length_map]
 have hrow:=h.row
 rw [hyl] at hrow
 have hcap:len≤cap:=by
  rcases hrow.2 with ⟨e,_⟩ | ⟨g',cap',cur,e,_,_,hc,_⟩
  ·
   cases e
  ·
   injection e with _ _ e3;rw [e3];exact hc
 refine ⟨hl,(fun e=>(by cases e)),hcap,hlen,fun j hj=>?_⟩
 obtain ⟨v0,v1,v2⟩:=ziJ ys j (by omega)
 have hc:=fun k (hk:k<len*3)=>World.ownsRow.cellAt hrow k hk
 have hmem:ys.getD j pv0∈ys:=by simp [List.getD,show j<ys.length by omega]
 have hy:=(h.each _ hmem).1
 obtain ⟨ai,ci,af,cf,e1,e2,h3,h4,hti,hfi⟩:=zoC hy.im hy.fo rfl
 have hpj:ps.getD j pk0=pvP (ys.getD j pv0):=by rw [←hp];exact zcX ys j
 have hsj:=hs j
 have hij:=hi j
 rw [hpj] at hsj hij ⊢
 refine ⟨g,0,rfl,(hrow.lt g rfl).2,?_,ai,(ys.getD j pv0).ims.length,ci,af,((ys.getD j pv0).xs.map (fun x:FV=>x.1)).length,cf,?_,?_,⟨hti,hfi,h3,h4,hij,hsj.2.1,hsj.2.2.2.1,hsj.1,hsj.2.2.1,hsj.2.2.2.2⟩⟩
 ·
  rw [Nat.zero_add,hc _ (by omega),v0];rfl
 ·
  rw [Nat.zero_add,hc _ (by omega),v1,e1]
 ·
  rw [Nat.zero_add,hc _ (by omega),v2,e2]
def pick (l:List Int) (x:Int):Int:=l.getD x.toNat 0
theorem zoz (l:List Int) (x:Int) (h0:0≤x) (h1:x<l.length) (W:World) (e:TypeId) :
 (W.alloc (.cells (l.map (Value.int .i64)).toArray e)).cell? ⟨W.heap.size,x.toNat,none⟩=some (.int .i64 (pick l x)):=by
 have hx:x.toNat<l.length:=by omega
 rw [World.cell?_alloc_mark]
 simp [pick,hx]
theorem pick_in (l:List Int) (x lo hi:Int) (h0:0≤x) (h1:x<l.length) (h:∀ y∈l,lo≤y∧y≤hi):lo≤pick l x∧pick l x≤hi:=by
 have hx:x.toNat<l.length:=by omega
 have:pick l x=l[x.toNat]:=by simp [pick,List.getD,hx]
 rw [this]
 exact h _ (List.getElem_mem hx)
set_option maxHeartbeats 1000000 in
set_option maxRecDepth 100000 in
theorem zhf (w:World) (B:Nat) (a:Option Addr) (len cap:Nat) (lo hi:Int) (h0:-1000000≤lo) (h1:lo≤hi) (h2:hi≤1000000) (h:Cur w B a len cap) :
 Calls Tryz.prog 36 #[.pointer (some ⟨B,0,none⟩),.int .i64 lo,.int .i64 hi] w fun e w'=>∃ x:Int,e=.returned (.int .i64 x)∧lo≤x∧x≤hi∧Cur w' B a len cap∧w.grownBy w' (some B):=by
 go_enter Tryz.func36,Tryz.ntmps36
 go_wp2_with fail
 refine (zaa _ B a len cap (hi-lo+1) (by omega) (by omega) h).mono ?_
 rintro e w1 ⟨x,rfl,hx0,hx1,hc,hg⟩
 go_wp2
 go_ret
 exact ⟨_,rfl,by omega,by omega,hc,hg⟩
set_option maxHeartbeats 1000000 in
set_option maxRecDepth 100000 in
theorem zgn (w:World) (B:Nat) (a:Option Addr) (len cap:Nat) (h:Cur w B a len cap) :
 Calls Tryz.prog 121 #[.pointer (some ⟨B,0,none⟩)] w fun e w'=>∃ x:Int,e=.returned (.int .i64 x)∧-2147483648≤x∧x≤2147483647∧Cur w' B a len cap∧w.grownBy w' (some B):=by
 go_enter Tryz.func121,Tryz.ntmps121
 go_wp2_with fail
 refine (zbg _ B a len cap 6 (by omega) (by omega) h).mono ?_
 rintro e w1 ⟨o,rfl,hc1,hg1⟩
 have hB:=hc1.lt
 rcases o with _ | _
 ·
  go_wp2_with fail
  refine (zaa _ B a len cap 12 (by omega) (by omega) hc1).mono ?_
  rintro e w2 ⟨x,rfl,hx0,hx1,hc2,hg2⟩
  go_wp2
  go_ret
  exact ⟨_,rfl,by omega,by omega,hc2,hg1.trans hg2⟩
 ·
  go_wp2_with fail
  refine (zaa _ B a len cap 4 (by omega) (by omega) (hc1.kept (World.grownBy_alloc _ _ none) (by simp))).mono ?_
  rintro e w2 ⟨x,rfl,hx0,hx1,hc2,hg2⟩
  have hcx:=hg2.cell (zoz [2147483647,-2147483648,65536,-1] x hx0 hx1 w1 2) (by simp;omega)
  have hpi:=pick_in [2147483647,-2147483648,65536,-1] x (-2147483648) 2147483647 hx0 hx1 (by simp)
  generalize pick [2147483647,-2147483648,65536,-1] x=y at hcx hpi
  have hg:=(hg1.trans (World.grownBy_alloc _ _ _)).trans hg2
  clear hc1 hg1 hg2
  go_wp2
  go_ret
  exact ⟨_,rfl,hpi.1,hpi.2,hc2,hg⟩

def pickT (l:List (List UInt8)) (x:Int):List UInt8:=l.getD x.toNat []
theorem Code.alloc {w:World} {B:Nat} {a:Option Addr} {len:Nat} (h:Code w B a len) (hB:B≤w.heap.size) (o:Obj):Code (w.alloc o) (B+1) a len:=by
 intro j hj
 obtain ⟨b,off,x,e1,e2,e3,e0⟩:=h j hj
 exact ⟨b,off,x,e1,by omega,(World.cell?_of_block (a:=⟨b,off+j,none⟩) (Below.heap_alloc _ _ _ (by show b<_;omega))).trans e3,e0⟩
def zcb (n:Nd):Prop:=IntN n∧n.2.2.1.length≤9∧n.2.2.2.length≤9
def zbl (ns:List Nd):Prop:=∀ n∈ns,zcb n
theorem ziL {w:World} {base e size n:Nat} {v:Value} {xs:List Value} (h:w.ownsRow base e size v n xs) (h1:∀ u∈xs,u.oneCell'=true):Src w v n size xs:=by
 refine ⟨h.1,h1,?_⟩
 rcases zb4 h with ⟨rfl,rfl,_⟩ | ⟨g,cp,rfl⟩
 ·
  exact Or.inl ⟨rfl,rfl⟩
 ·
  refine Or.inr ⟨⟨g,0,none⟩,cp,rfl,fun j u hu=>?_⟩
  have e:(⟨g,0,none⟩:Addr).add j=⟨g,j,none⟩:=by unfold Addr.add;split<;>simp_all
  have hj:j<xs.length:=by
   rcases Nat.lt_or_ge j xs.length with h | h
   ·
    exact h
   ·
    rw [List.getElem?_eq_none h] at hu;cases hu
  rw [e,h.cellAt j (by rw [←h.1];exact hj)]
  exact hu
theorem lit1 (w W:World) (n:Nd) (hb:w.heap.size≤W.heap.size) :
 (W.alloc (.cells #[.int .i64 n.1,.int .i64 n.2.1,.string ⟨n.2.2.1.toArray⟩,.string ⟨n.2.2.2.toArray⟩] 103)).ownsRow w.heap.size 103 4 (.slice (some ⟨W.heap.size,0,none⟩) 1 1) 1 (zab [n]):=by
 have:=World.ownsRow_lit (base:=w.heap.size) (e:=103) (size:=4) W #[.int .i64 n.1,.int .i64 n.2.1,.string ⟨n.2.2.1.toArray⟩,.string ⟨n.2.2.2.toArray⟩] 1 hb (by decide) rfl
 simpa [zab] using this
theorem zmo {w:World} {base e size n:Nat} {v:Value} {xs:List Value} (h:w.ownsRow base e size v n xs):∀ q,v.ownBlock=some q→base≤q:=fun q e=>(h.lt q e).1
def BoxN (W:World) (D:Nat) (n:Nd):Prop :=
 W.cell? ⟨D,0,none⟩=some (.int .i64 n.1)∧W.cell? ⟨D,1,none⟩=some (.int .i64 n.2.1)∧W.cell? ⟨D,2,none⟩=some (.string ⟨n.2.2.1.toArray⟩)∧W.cell? ⟨D,3,none⟩=some (.string ⟨n.2.2.2.toArray⟩)∧∀ j,W.frozen? ⟨D,j,none⟩=false
theorem BoxN.lt {W:World} {D:Nat} {n:Nd} (h:BoxN W D n):D<W.heap.size:=World.block_lt_of_cell? _ ⟨D,0,none⟩ h.1
theorem BoxN.kept {W W':World} {D B:Nat} {n:Nd} (h:BoxN W D n) (hg:W.grownBy W' (some B)) (hne:D≠B):BoxN W' D n:=by
 have hb:W'.heap[D]?=W.heap[D]?:=hg.block D h.lt (by simp;omega)
 obtain ⟨h0,h1,h2,h3,hf⟩:=h
 exact ⟨(World.cell?_of_block (a:=⟨D,0,none⟩) hb).trans h0,(World.cell?_of_block (a:=⟨D,1,none⟩) hb).trans h1,(World.cell?_of_block (a:=⟨D,2,none⟩) hb).trans h2,(World.cell?_of_block (a:=⟨D,3,none⟩) hb).trans h3,fun j=>(World.frozen?_of_block (a:=⟨D,j,none⟩) hb).trans (hf j)⟩
theorem box_kind {W:World} {D:Nat} {n:Nd} (h:BoxN W D n) (k:Int):BoxN (W.setCell ⟨D,0,none⟩ (.int .i64 k)) D (k,n.2):=by
 obtain ⟨h0,h1,h2,h3,hf⟩:=h
 exact ⟨World.cell?_setCell_same _ _ _ h0,(World.cell?_setCell_other _ _ _ _ (by simp)).trans h1,(World.cell?_setCell_other _ _ _ _ (by simp)).trans h2,(World.cell?_setCell_other _ _ _ _ (by simp)).trans h3,fun j=>by simpa using hf j⟩
theorem zfD (W:World) (D:Nat) (a b c d:Value):W.grownBy ((((W.setCell ⟨D,0,none⟩ a).setCell ⟨D,1,none⟩ b).setCell ⟨D,2,none⟩ c).setCell ⟨D,3,none⟩ d) (some D) :=
 (((zar _ _ _ _).trans (zar _ _ _ _)).trans (zar _ _ _ _)).trans (zar _ _ _ _)
theorem zjO (k:Int) (h0:-9223372036854775808≤k) (h1:k≤9223372036854775807):zcb ((k,0,[],[]):Nd):=⟨⟨⟨h0,h1⟩,⟨by simp,by simp⟩⟩,by simp,by simp⟩
theorem kids0 (k:Int):zbt ((k,0,[],[]):Nd)≤3:=by unfold zbt;simp only;split<;>(try split)<;>(try split)<;>omega
theorem zeI {v:Value} {B:Nat} (hd:∀ q,v.ownBlock=some q→q=B→False):v.ownBlock=none∨v.ownBlock≠some B:=by
 rcases hv:v.ownBlock with _ | q
 ·
  exact Or.inl rfl
 ·
  exact Or.inr (fun e=>hd q hv (by injection e))
theorem put4c {W:World} {D:Nat} {u0 u1 u2 u3:Value} (a b c d:Value) (r0:W.cell? ⟨D,0,none⟩=some u0) (r1:W.cell? ⟨D,1,none⟩=some u1) (r2:W.cell? ⟨D,2,none⟩=some u2) (r3:W.cell? ⟨D,3,none⟩=some u3) :
 ((((W.setCell ⟨D,0,none⟩ a).setCell ⟨D,1,none⟩ b).setCell ⟨D,2,none⟩ c).setCell ⟨D,3,none⟩ d).cell? ⟨D,0,none⟩=some a ∧
 ((((W.setCell ⟨D,0,none⟩ a).setCell ⟨D,1,none⟩ b).setCell ⟨D,2,none⟩ c).setCell ⟨D,3,none⟩ d).cell? ⟨D,1,none⟩=some b ∧
 ((((W.setCell ⟨D,0,none⟩ a).setCell ⟨D,1,none⟩ b).setCell ⟨D,2,none⟩ c).setCell ⟨D,3,none⟩ d).cell? ⟨D,2,none⟩=some c ∧
 ((((W.setCell ⟨D,0,none⟩ a).setCell ⟨D,1,none⟩ b).setCell ⟨D,2,none⟩ c).setCell ⟨D,3,none⟩ d).cell? ⟨D,3,none⟩=some d:=by
 refine ⟨?_,?_,?_,?_⟩
 ·
  exact (World.cell?_setCell_other _ _ _ _ (by simp)).trans ((World.cell?_setCell_other _ _ _ _ (by simp)).trans ((World.cell?_setCell_other _ _ _ _ (by simp)).trans (World.cell?_setCell_same _ _ _ r0)))
 ·
  exact (World.cell?_setCell_other _ _ _ _ (by simp)).trans ((World.cell?_setCell_other _ _ _ _ (by simp)).trans (World.cell?_setCell_same _ _ _ ((World.cell?_setCell_other _ _ _ _ (by simp)).trans r1)))
 ·
  exact (World.cell?_setCell_other _ _ _ _ (by simp)).trans (World.cell?_setCell_same _ _ _ ((World.cell?_setCell_other _ _ _ _ (by simp)).trans ((World.cell?_setCell_other _ _ _ _ (by simp)).trans r2)))
 ·
  exact World.cell?_setCell_same _ _ _ ((World.cell?_setCell_other _ _ _ _ (by simp)).trans ((World.cell?_setCell_other _ _ _ _ (by simp)).trans ((World.cell?_setCell_other _ _ _ _ (by simp)).trans r3)))
theorem box_all {W:World} {D:Nat} {n:Nd} (h:BoxN W D n) (m:Nd):BoxN ((((W.setCell ⟨D,0,none⟩ (.int .i64 m.1)).setCell ⟨D,1,none⟩ (.int .i64 m.2.1)).setCell ⟨D,2,none⟩ (.string ⟨m.2.2.1.toArray⟩)).setCell ⟨D,3,none⟩ (.string ⟨m.2.2.2.toArray⟩)) D m:=by
 obtain ⟨h0,h1,h2,h3,hf⟩:=h
 obtain ⟨g0,g1,g2,g3⟩:=put4c (.int .i64 m.1) (.int .i64 m.2.1) (.string ⟨m.2.2.1.toArray⟩) (.string ⟨m.2.2.2.toArray⟩) h0 h1 h2 h3
 exact ⟨g0,g1,g2,g3,fun j=>by simpa using hf j⟩
set_option maxHeartbeats 8000000 in
set_option maxRecDepth 100000 in
theorem zpw:∀ (d:Nat) (w:World) (B:Nat) (a:Option Addr) (len cap:Nat) (args:Int) (ca:Option Addr) (cl cc:Nat) (calls:List Nd),d≤100→0≤args→args≤1000→Cur w B a len cap→zas w ca cl calls→cl≤1000→(∀ j,zcb (calls.getD j nd0))→(∀ j,zbt (calls.getD j nd0)≤3)→(∀ b off,ca=some ⟨b,off,none⟩→b≠B) →
 Calls Tryz.prog 98 #[.pointer (some ⟨B,0,none⟩),.int .i64 d,.int .i64 args,.slice ca cl cc] w fun e w'=>∃ v ns,e=.returned v∧w'.ownsRow w.heap.size 103 4 v ns.length (zab ns)∧ns.length≤60∧zbl ns∧Cur w' B a len cap∧w.grownBy w' (some B):=by
 intro d
 induction d with
 | zero =>
  intro w B a len cap args ca cl cc calls hd ha0 ha1 hc hin hcl hsm hkd hne
  have hg:w.grownBy w (some B):=World.grownBy.refl _ _
  clear hin hsm hkd hne
  go_enter Tryz.func98,Tryz.ntmps98
  by_cases hap:0<args
  ·
   go_wp2_with fail
   refine (zbg _ B a len cap 2 (by omega) (by omega) hc).mono ?_
   rintro e wo ⟨bo,rfl,hco,hgo⟩
   have hgp:=hg.trans hgo
   rcases bo with _ | _
   ·
    go_wp2_with fail
    refine (zgn _ B a len cap hco).mono ?_
    rintro e wv ⟨xv,rfl,hv0,hv1,hcv,hgv⟩
    have hgw:=hgp.trans hgv
    have hown:=lit1 w wv ((1,xv,[],[]):Nd) hgw.size
    have hgz:=hgw.trans (World.grownBy_alloc wv (.cells #[.int .i64 1,.int .i64 xv,.string ⟨#[]⟩,.string ⟨#[]⟩] 103) (some B))
    have hcz:=hcv.kept (World.grownBy_alloc wv (.cells #[.int .i64 1,.int .i64 xv,.string ⟨#[]⟩,.string ⟨#[]⟩] 103) none) (by simp)
    simp only at hown
    go_wp2
    go_ret
    exact ⟨_,[((1,xv,[],[]):Nd)],rfl,hown,by simp,by intro m hm;rw [List.mem_singleton] at hm;subst hm;exact ⟨⟨⟨by simp,by simp⟩,⟨by simp only;omega,by simp only;omega⟩⟩,by simp,by simp⟩,hcz,hgz⟩
   ·
    go_wp2_with fail
    refine (zaa _ B a len cap args (by omega) (by omega) hco).mono ?_
    rintro e wv ⟨xv,rfl,hv0,hv1,hcv,hgv⟩
    have hgw:=hgp.trans hgv
    have hown:=lit1 w wv ((2,xv,[],[]):Nd) hgw.size
    have hgz:=hgw.trans (World.grownBy_alloc wv (.cells #[.int .i64 2,.int .i64 xv,.string ⟨#[]⟩,.string ⟨#[]⟩] 103) (some B))
    have hcz:=hcv.kept (World.grownBy_alloc wv (.cells #[.int .i64 2,.int .i64 xv,.string ⟨#[]⟩,.string ⟨#[]⟩] 103) none) (by simp)
    simp only at hown
    go_wp2
    go_ret
    exact ⟨_,[((2,xv,[],[]):Nd)],rfl,hown,by simp,by intro m hm;rw [List.mem_singleton] at hm;subst hm;exact ⟨⟨⟨by simp,by simp⟩,⟨by simp only;omega,by simp only;omega⟩⟩,by simp,by simp⟩,hcz,hgz⟩
  ·
   go_wp2_with fail
   refine (zgn _ B a len cap hc).mono ?_
   rintro e wv ⟨xv,rfl,hv0,hv1,hcv,hgv⟩
   have hgw:=hg.trans hgv
   have hown:=lit1 w wv ((1,xv,[],[]):Nd) hgw.size
   have hgz:=hgw.trans (World.grownBy_alloc wv (.cells #[.int .i64 1,.int .i64 xv,.string ⟨#[]⟩,.string ⟨#[]⟩] 103) (some B))
   have hcz:=hcv.kept (World.grownBy_alloc wv (.cells #[.int .i64 1,.int .i64 xv,.string ⟨#[]⟩,.string ⟨#[]⟩] 103) none) (by simp)
   simp only at hown
   go_wp2
   go_ret
   exact ⟨_,[((1,xv,[],[]):Nd)],rfl,hown,by simp,by intro m hm;rw [List.mem_singleton] at hm;subst hm;exact ⟨⟨⟨by simp,by simp⟩,⟨by simp only;omega,by simp only;omega⟩⟩,by simp,by simp⟩,hcz,hgz⟩
 | succ d ih =>
  intro w B a len cap args ca cl cc calls hd ha0 ha1 hc hin hcl hsm hkd hne
  have HIH:Hid (_):=ih
  have HIN:Hid (zas w ca cl calls):=hin
  have HSM:Hid (∀ j,zcb (calls.getD j nd0)):=hsm
  have HKD:Hid (∀ j,zbt (calls.getD j nd0)≤3):=hkd
  have HNE:Hid (∀ b off,ca=some ⟨b,off,none⟩→b≠B):=hne
  have hBw:=hc.lt
  have hd0:((d+1:Nat):Int)≠0:=by omega
  have hd1:(((d+1:Nat):Int)==0)=false:=by rw [beq_eq_false_iff_ne];exact hd0
  clear ih hin hsm hkd hne
  go_enter Tryz.func98,Tryz.ntmps98
  go_wp2_with fail
  refine (zbg _ B a len cap 4 (by omega) (by omega) hc).mono ?_
  rintro e w1 ⟨b1,rfl,hc1,hg1⟩
  rcases b1 with _ | _
  rotate_left
  ·
   clear HIH HIN HSM HKD HNE
   by_cases hap:0<args
   ·
    go_wp2_with fail
    refine (zbg _ B a len cap 2 (by omega) (by omega) hc1).mono ?_
    rintro e wo ⟨bo,rfl,hco,hgo⟩
    have hgp:=hg1.trans hgo
    rcases bo with _ | _
    ·
     go_wp2_with fail
     refine (zgn _ B a len cap hco).mono ?_
     rintro e wv ⟨xv,rfl,hv0,hv1,hcv,hgv⟩
     have hgw:=hgp.trans hgv
     have hown:=lit1 w wv ((1,xv,[],[]):Nd) hgw.size
     have hgz:=hgw.trans (World.grownBy_alloc wv (.cells #[.int .i64 1,.int .i64 xv,.string ⟨#[]⟩,.string ⟨#[]⟩] 103) (some B))
     have hcz:=hcv.kept (World.grownBy_alloc wv (.cells #[.int .i64 1,.int .i64 xv,.string ⟨#[]⟩,.string ⟨#[]⟩] 103) none) (by simp)
     simp only at hown
     go_wp2
     go_ret
     exact ⟨_,[((1,xv,[],[]):Nd)],rfl,hown,by simp,by intro m hm;rw [List.mem_singleton] at hm;subst hm;exact ⟨⟨⟨by simp,by simp⟩,⟨by simp only;omega,by simp only;omega⟩⟩,by simp,by simp⟩,hcz,hgz⟩
    ·
     go_wp2_with fail
     refine (zaa _ B a len cap args (by omega) (by omega) hco).mono ?_
     rintro e wv ⟨xv,rfl,hv0,hv1,hcv,hgv⟩
     have hgw:=hgp.trans hgv
     have hown:=lit1 w wv ((2,xv,[],[]):Nd) hgw.size
     have hgz:=hgw.trans (World.grownBy_alloc wv (.cells #[.int .i64 2,.int .i64 xv,.string ⟨#[]⟩,.string ⟨#[]⟩] 103) (some B))
     have hcz:=hcv.kept (World.grownBy_alloc wv (.cells #[.int .i64 2,.int .i64 xv,.string ⟨#[]⟩,.string ⟨#[]⟩] 103) none) (by simp)
     simp only at hown
     go_wp2
     go_ret
     exact ⟨_,[((2,xv,[],[]):Nd)],rfl,hown,by simp,by intro m hm;rw [List.mem_singleton] at hm;subst hm;exact ⟨⟨⟨by simp,by simp⟩,⟨by simp only;omega,by simp only;omega⟩⟩,by simp,by simp⟩,hcz,hgz⟩
   ·
    go_wp2_with fail
    refine (zgn _ B a len cap hc1).mono ?_
    rintro e wv ⟨xv,rfl,hv0,hv1,hcv,hgv⟩
    have hgw:=hg1.trans hgv
    have hown:=lit1 w wv ((1,xv,[],[]):Nd) hgw.size
    have hgz:=hgw.trans (World.grownBy_alloc wv (.cells #[.int .i64 1,.int .i64 xv,.string ⟨#[]⟩,.string ⟨#[]⟩] 103) (some B))
    have hcz:=hcv.kept (World.grownBy_alloc wv (.cells #[.int .i64 1,.int .i64 xv,.string ⟨#[]⟩,.string ⟨#[]⟩] 103) none) (by simp)
    simp only at hown
    go_wp2
    go_ret
    exact ⟨_,[((1,xv,[],[]):Nd)],rfl,hown,by simp,by intro m hm;rw [List.mem_singleton] at hm;subst hm;exact ⟨⟨⟨by simp,by simp⟩,⟨by simp only;omega,by simp only;omega⟩⟩,by simp,by simp⟩,hcz,hgz⟩
  ·
   go_wp2_with fail
   refine (zaa _ B a len cap 4 (by omega) (by omega) hc1).mono ?_
   rintro e w2 ⟨x2,rfl,hx20,hx21,hc2,hg2⟩
   have hG2:=hg1.trans hg2
   have hB2:=hc2.lt
   have hw2:=hG2.size
   obtain ⟨i0,hi,hz0,hz1,hz2⟩:=info_parts zei
   clear hc1 hg1 hg2
   go_wp2_with fail
   obtain ⟨X,hX⟩:∃ X,w2.alloc (.cells #[.int .i64 (3+x2),.int .i64 0,.string ⟨#[]⟩,.string ⟨#[]⟩] 103)=X:=⟨_,rfl⟩
   obtain ⟨D,hD⟩:∃ D,w2.heap.size=D:=⟨_,rfl⟩
   have hAX:X.heap[D]?=some (.cells #[.int .i64 (3+x2),.int .i64 0,.string ⟨#[]⟩,.string ⟨#[]⟩] 103):=by rw [←hX,←hD];exact heap_alloc_new w2 _
   have hcX:Cur X B a len cap:=by rw [←hX];exact hc2.kept (World.grownBy_alloc _ _ none) (by simp)
   have hGX:w.grownBy X (some B):=by rw [←hX];exact hG2.trans (World.grownBy_alloc _ _ (some B))
   have hBX:BoxN X D ((3+x2,0,[],[]):Nd):=⟨by simp [World.cell?,hAX],by simp [World.cell?,hAX],by simp [World.cell?,hAX],by simp [World.cell?,hAX],fun j=>by simp [World.frozen?,hAX]⟩
   rw [hX,hD]
   rw [hD] at hB2 hw2
   clear hX hD hAX hc2 hG2
   refine (zbg X B a len cap 5 (by omega) (by omega) hcX).mono ?_
   rintro e w3 ⟨b3,rfl,hc3,hg3⟩
   have hG3:=hGX.trans hg3
   have hB3:=hBX.kept hg3 (by omega)
   clear hcX hGX hBX hg3
   go_upto_if 39 with fail
   go_cut [] from 39 (fun wx=>Hid (∃ n:Nd,BoxN wx D n∧zcb n∧zbt n≤3∧Cur wx B a len cap∧w.grownBy wx (some B)))
   case first =>
    rcases b3 with _ | _
    ·
     go_wp2_with fail
     go_meet
     case rel=>exact ⟨_,hB3,zjO _ (by omega) (by omega),kids0 _,hc3,hG3⟩
    ·
     obtain ⟨n0,n1,n2,n3,m⟩:=hB3
     have e30:=m 0
     go_wp2_with fail
     go_meet
     case rel=>exact ⟨((7,0,[],[]):Nd),box_kind (n:=((3+x2,0,[],[]):Nd)) ⟨n0,n1,n2,n3,m⟩ 7,zjO _ (by omega) (by omega),kids0 _,hc3.kept (zar _ _ _ _) (by simp;omega),hG3.andThen (zar _ _ _ _) (fun q e=>Or.inl (by simp at e;omega))⟩
   case rest =>
    clear hB3 hc3 hG3
    go_upto_region 9 with fail
    go_cut [48] from 43 (fun v wx=>∃ b,v=.bool b∧(b=true→(0:Int)<(cl:Int))∧Hid (∃ n:Nd,BoxN wx D n∧zcb n∧zbt n≤3∧Cur wx B a len cap∧w.grownBy wx (some B)))
    case first =>
     by_cases hclp:(0:Int)<(cl:Int)
     ·
      obtain ⟨n,hBn,hsn,hkn,hcn,hGn⟩:=hcut.out
      go_wp2_with fail
      refine (zbg _ B a len cap 4 (by omega) (by omega) hcn).mono ?_
      rintro e w4 ⟨b4,rfl,hc4,hg4⟩
      go_wp2_with fail
      go_meet
      case rel=>exact ⟨_,rfl,fun _=>hclp,n,hBn.kept hg4 (by omega),hsn,hkn,hc4,hGn.trans hg4⟩
     ·
      go_wp2_with fail
      go_meet
      case rel=>exact ⟨_,rfl,(fun h=>by cases h),hcut⟩
    case rest =>
     obtain ⟨b4,rfl,hbc,hcut⟩:=hcut
     go_upto_if 48 with fail
     go_cut [] from 49 (fun wx=>Hid (∃ n:Nd,BoxN wx D n∧zcb n∧zbt n≤3∧Cur wx B a len cap∧w.grownBy wx (some B)))
     case first =>
      rcases b4 with _ | _
      ·
       go_wp2_with fail
       go_meet
       case rel=>exact hcut
      ·
       have hclp:=hbc rfl
       obtain ⟨n4,hB4,hs4,hk4,hc4,hG4⟩:=hcut.out
       go_wp2_with fail
       refine (zaa _ B a len cap (cl:Int) (by omega) (by omega) hc4).mono ?_
       rintro e w5 ⟨x5,rfl,h50,h51,hc5,hg5⟩
       have hG5:=hG4.trans hg5
       have hB5:=hB4.kept hg5 (by omega)
       obtain ⟨j5,rfl⟩:∃ j5:Nat,x5=(j5:Int):=Int.eq_ofNat_of_zero_le h50
       have hin5:zas w5 ca cl calls:=HIN.out.keep hG5.size (fun b off e hlt=>hG5.block b hlt (fun e2=>HNE.out b off e (by injection e2)))
       obtain ⟨cb,co,hca,hcbl,hcells⟩:=hin5.at (by omega)
       subst hca
       obtain ⟨q0,q1,q2,q3⟩:=hcells j5 (by omega)
       have hsm5:=HSM.out j5
       have hkd5:=HKD.out j5
       obtain ⟨n5,hn5⟩:∃ n,calls.getD j5 nd0=n:=⟨_,rfl⟩
       rw [hn5] at q0 q1 q2 q3 hsm5 hkd5
       obtain ⟨kd5,a5,p5,f5⟩:=n5
       simp only at q0 q1 q2 q3
       obtain ⟨n0,n1,n2,n3,m⟩:=hB5
       have e50:=m 0
       have e51:=m 1
       have e52:=m 2
       have e53:=m 3
       clear hn5 hcells hin5 hg5 hc4 hG4 hB4 hcut
       go_wp2_with fail
       go_meet
       case rel=>exact ⟨((kd5,a5,p5,f5):Nd),box_all ⟨n0,n1,n2,n3,m⟩ (kd5,a5,p5,f5),hsm5,hkd5,hc5.kept (zfD _ _ _ _ _ _) (by simp;omega),hG5.andThen (zfD _ _ _ _ _ _) (fun q e=>Or.inl (by simp at e;omega))⟩
     case rest =>
      obtain ⟨n,hBn,hsn,hkn,hcn,hGn⟩:=hcut.out
      obtain ⟨kd,aa,p,f⟩:=n
      obtain ⟨n0,n1,n2,n3,_⟩:=hBn
      simp only at n0 n1 n2 n3
      clear hcut
      have HK:Hid (_):=fun W:World=>zmc ((kd,aa,p,f):Nd) W
      unfold za8 at HK
      simp only at HK
      obtain ⟨q,hq⟩:∃ q,zbt ((kd,aa,p,f):Nd)=q:=⟨_,rfl⟩
      rw [hq] at HK hkn
      clear hq
      have hownT:=lit1 w wc ((kd,aa,p,f):Nd) hGn.size
      simp only at hownT
      have hcT:=hcn.kept (World.grownBy_alloc wc (.cells #[.int .i64 kd,.int .i64 aa,.string ⟨p.toArray⟩,.string ⟨f.toArray⟩] 103) none) (by simp)
      have hGT:=hGn.trans (World.grownBy_alloc wc (.cells #[.int .i64 kd,.int .i64 aa,.string ⟨p.toArray⟩,.string ⟨f.toArray⟩] 103) (some B))
      have HSO:Hid (∀ n∈[((kd,aa,p,f):Nd)],zcb n):=by intro m hm;rw [List.mem_singleton] at hm;subst hm;exact hsn
      have hDl:D<wc.heap.size:=World.block_lt_of_cell? _ ⟨D,0,none⟩ n0
      go_wp2_with fail
      refine Calls.mono (HK.out _) ?_
      rintro e wk ⟨rfl,hbk⟩
      have hownk:=za6 hownT hbk
      have hck:Cur wk B a len cap:=hcT.below hbk
      have hGk:w.grownBy wk (some B):=hGT.andThen (Below.by hbk) (by simp)
      clear hownT hcT hGT hbk HK hGn hcn n0 n1 n2 n3
      go_wp2
      go_loopw [11,12] (fun v kv wr=>∃ (ns:List Nd) (r:Int),kv=.int .i64 r∧r≤3∧ns.length≤181∧(0≤r→(ns.length:Int)+60*r≤181)∧Hid (∀ n∈ns,zcb n)∧Hid (wr.ownsRow w.heap.size 103 4 v ns.length (zab ns))∧Hid (Cur wr B a len cap)∧Hid (w.grownBy wr (some B))) (fun _ kv _=>(intOf kv).toNat)
      case atStart=>exact ⟨[((kd,aa,p,f):Nd)],q,rfl,hkn,by simp,(fun h=>by simp only [List.length_singleton];omega),HSO,hownk,hck,hGk⟩
      case round =>
       obtain ⟨ns,r,rfl,hr3,hl1,hl2,HSN,HV,hcr,hGr⟩:=hrel
       clear hownk hck hGk HSO
       by_cases hr0:0<r
       ·
        have hin8:zas wr ca cl calls:=HIN.out.keep hGr.out.size (fun b off e hlt=>hGr.out.block b hlt (fun e2=>HNE.out b off e (by injection e2)))
        have hC8:Hid (_):=HIH.out wr B a len cap args ca cl cc calls (by omega) ha0 ha1 hcr.out hin8 hcl HSM.out HKD.out HNE.out
        clear hin8
        go_wp2_with fail
        refine Calls.mono hC8.out ?_
        rintro e w8 ⟨v8,ns8,rfl,hown8,hl8,hs8,hc8,hg8⟩
        have hvl:=zmo HV.out
        have hV8:=HV.out.kept hg8 (zeI (fun q e1 e2=>by have:=hvl q e1;omega))
        have hG8:=hGr.out.trans hg8
        obtain ⟨v9,w9,hrun,hown9,hg9,_⟩:=zaE (P:=Tryz.prog) w8 w.heap.size 77 77 103 i0 _ 4 48 Tryz.underlying77 hi hz0 hz1 hz2 rfl (by decide) _ _ _ hV8 v8 ns8.length (zab ns8) (ziL hown8 (zcM _)) (by unfold maxLen;omega) (by omega) hG8.size
        have hG9:Hid (w.grownBy w9 (some B)):=hG8.andThen hg9 (fun q e=>Or.inl (hvl q e))
        have hc9:Hid (Cur w9 B a len cap):=hc8.kept hg9 (fun q e=>by have:=hvl q e;omega)
        have HV9:Hid (w9.ownsRow w.heap.size 103 4 v9 (ns++ns8).length (zab (ns++ns8))):=by exact (by rw [zc6,List.length_append];exact hown9:w9.ownsRow w.heap.size 103 4 v9 (ns++ns8).length (zab (ns++ns8)))
        have HS9:Hid (∀ n∈ns++ns8,zcb n):=fun m hm=>(List.mem_append.1 hm).elim (HSN.out m) (hs8 m)
        have hl9:(ns++ns8).length=ns.length+ns8.length:=List.length_append
        clear hown9 hg9 hG8 hV8 hown8 hg8 hc8 hC8 hGr hcr HV HSN hs8 hvl
        go_wp2_with (at_builtin;refine za0 rfl (.tmp 63) (.tmp 69) 77 rfl _ _ _ rfl rfl hrun ?_;clear hrun)
        go_roundw
        case rel=>exact ⟨ns++ns8,r-1,by go_num,by omega,by rw [hl9];have:=hl2 (by omega);omega,(fun h=>by rw [hl9];have:=hl2 (by omega);omega),HS9,HV9,hc9,hG9⟩
        case measure=>simp [intOf];omega
       ·
        obtain ⟨_,av,cv,rfl,_⟩:=zcq HV.out
        by_cases hbig:60<(ns.length:Int)
        ·
         have hownE:=(World.ownsRow_lit (base:=w.heap.size) (e:=103) (size:=4) wr #[] 0 hGr.out.size (by decide) rfl)
         have hcE:=hcr.out.kept (World.grownBy_alloc wr (.cells #[] 103) none) (by simp)
         have hGE:=hGr.out.trans (World.grownBy_alloc wr (.cells #[] 103) (some B))
         go_wp2
         go_ret
         exact ⟨_,rfl,[],hownE,by simp,(fun m hm=>by cases hm),hcE,hGE⟩
        ·
         go_wp2
         go_ret
         exact ⟨_,rfl,ns,HV.out,by omega,HSN.out,hcr.out,hGr.out⟩
def zkR (ns:List Nd):Prop:=∀ k:Nat,0≤endV ns (k:Int)→endV ns (k:Int)-k≤60
theorem zgm {ns:List Nd} (h:ns.length≤60):zkR ns:=fun k hk=>by
 have:=(zhc hk).2.2.2.2
 omega
theorem zfZ:∀ (l r:List Nd) (o d:Nat),zbM l o=some d→zbM (l++r) o=some d
 | l,r,0,d,h=>by rw [zcP] at h ⊢;exact h
 | [],r,o+1,d,h=>by rw [zcx] at h;cases h
 | n :: l,r,o+1,d,h=>by
  rw [zba] at h
  rw [List.cons_append,zba]
  split at h
  ·
   rename_i hn
   rw [if_pos hn]
   cases he:zbM l (o+zcu n) with
   | none=>rw [he] at h;cases h
   | some q=>rw [he] at h;rw [zfZ l r _ q he];exact h
  ·
   cases h
theorem zpt {ns:List Nd} (h:zcc ns=true) (m:Nd):zkR (ns++[m]):=fun k hk=>by
 obtain ⟨⟨h1,h2⟩,he⟩:=ziA h
 have hb:=(zhc hk).2.2.2.2
 rw [List.length_append,List.length_singleton] at hb
 cases k with
 | zero =>
  have:endV (ns++[m]) ((0:Nat):Int)=ns.length:=by
   rw [zeq]
   have:=zfi (l:=ns++[m]) (k:=0) (d:=ns.length) (by rw [List.drop_zero];exact zfZ _ _ _ _ he) (by simp)
   rw [this];omega
  rw [this];omega
 | succ k=>omega
def zk3:Nd:=(3,0,[],[])
def zf7:Nd:=(1,0,[],[])
def zbi:Nat→List Nd
 | 0=>[]
 | j+1=>zk3 :: zf7 :: zbi j
theorem zby:∀ j,(zbi j).length=2*j
 | 0=>rfl
 | j+1=>by simp only [zbi,List.length_cons,zby j];omega
theorem zft:∀ j,zbi j++[zk3,zf7]=zbi (j+1)
 | 0=>rfl
 | j+1=>by
  show zk3 :: zf7 :: (zbi j++[zk3,zf7])=_
  rw [zft j];rfl
theorem zoB (j:Nat):(zbi (j+1)).take (2*j+1)++[zf7]=zbi (j+1):=by
 rw [←zft j,List.take_append,zby,List.take_of_length_le (by rw [zby];omega),show 2*j+1-2*j=1 by omega]
 simp
theorem znr:zaQ zk3=true:=by decide
theorem zi1:zaQ zf7=true:=by decide
theorem zp4:zcu zk3=2:=by decide
theorem zka:zcu zf7=0:=by decide
theorem zhX:∀ j o,zbM (zbi j) (o+1)=none
 | 0,o=>zcx o
 | j+1,o=>by
  show zbM (zk3 :: zf7 :: zbi j) (o+1)=none
  rw [zba,if_pos znr,zp4,show o+2=(o+1)+1 by omega,zba,if_pos zi1,zka,Nat.add_zero,zhX j o]
  rfl
theorem zmn:∀ j k,zbM ((zbi j).drop k) 1=none∨zbM ((zbi j).drop k) 1=some 1
 | 0,k=>by simp [zbi,zcx]
 | j+1,0=>Or.inl (zhX (j+1) 0)
 | j+1,1=>Or.inr (by
  show zbM (zf7 :: zbi j) (0+1)=some 1
  rw [zba,if_pos zi1,zka,zcP];rfl)
 | j+1,k+2=>by simpa [zbi] using zmn j k
theorem znN (j:Nat):zkR (zbi j):=fun k hk=>by
 have hlt:=(zhc hk).1
 rw [zeq] at hk ⊢
 rcases zmn j k with h | h
 ·
  unfold endN at hk;rw [if_pos hlt,h] at hk;simp at hk
 ·
  rw [zfi h hlt];omega
end Go.Proofs.YtdbljnddkbpanaaGreatDoor
