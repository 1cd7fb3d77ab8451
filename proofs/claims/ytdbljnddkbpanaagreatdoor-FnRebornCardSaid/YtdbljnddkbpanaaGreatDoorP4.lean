/-
  Parts of one proof, one behind the other: TreeS2, Math7, Math3C, Draw, Draw2, ChunkS, TreeS3, Math7S, Math7R.
-/
import Derived.Test.YtdbljnddkbpanaaGreatDoorP3
import Derived.Test.YtdbljnddkbpanaaGreatDoorP2
import Derived.Test.YtdbljnddkbpanaaGreatDoorP1
import Derived.Test.YtdbljnddkbpanaaGreatDoorRows
import Derived.WalkKit
import Derived.WalkLawsBesides
import Derived.Laws.IdiomStrings
import Derived.Laws.OwnMore
import Derived.Maps.AppendAt
import Derived.Maps.Range
import Derived.OpenShut
import Derived.Handy
import Derived.Lib.AppendStr
import Derived.Deep.RegionHeld3
namespace Go.Proofs.YtdbljnddkbpanaaGreatDoor
open Go.RowKit
def nd0:Nd:=(0,0,[],[])
def zas (w:World) (a:Option Addr) (len:Nat) (ns:List Nd):Prop :=
 ns.length=len∧∀ j,j<len→∃ b off,a=some ⟨b,off,none⟩∧b<w.heap.size∧w.cell? ⟨b,off+j*4,none⟩=some (.int .i64 (ns.getD j nd0).1)∧w.cell? ⟨b,off+j*4+1,none⟩=some (.int .i64 (ns.getD j nd0).2.1)∧w.cell? ⟨b,off+j*4+2,none⟩=some (.string ⟨(ns.getD j nd0).2.2.1.toArray⟩)∧w.cell? ⟨b,off+j*4+3,none⟩=some (.string ⟨(ns.getD j nd0).2.2.2.toArray⟩)
theorem zas.keep {w w':World} {a:Option Addr} {len:Nat} {ns:List Nd} (h:zas w a len ns) (hs:w.heap.size≤w'.heap.size) (hb:∀ b off,a=some ⟨b,off,none⟩→b<w.heap.size→w'.heap[b]?=w.heap[b]?):zas w' a len ns:=by
 refine ⟨h.1,fun j hj=>?_⟩
 obtain ⟨b,off,e,hlt,c0,c1,c2,c3⟩:=h.2 j hj
 have hk:=hb b off e hlt
 exact ⟨b,off,e,Nat.lt_of_lt_of_le hlt hs,(World.cell?_of_block (a:=⟨b,off+j*4,none⟩) hk).trans c0,(World.cell?_of_block (a:=⟨b,off+j*4+1,none⟩) hk).trans c1,(World.cell?_of_block (a:=⟨b,off+j*4+2,none⟩) hk).trans c2,(World.cell?_of_block (a:=⟨b,off+j*4+3,none⟩) hk).trans c3⟩
theorem zas.below {w w':World} {a:Option Addr} {len:Nat} {ns:List Nd} (h:zas w a len ns) (hb:Below w.heap.size w w'):zas w' a len ns :=
 h.keep hb.size (fun b _ _ hlt=>hb.block b hlt)
theorem zas.at {w:World} {a:Option Addr} {len:Nat} {ns:List Nd} (h:zas w a len ns) (hz:0<len):∃ b off,a=some ⟨b,off,none⟩∧b<w.heap.size ∧
 ∀ j,j<len→w.cell? ⟨b,off+j*4,none⟩=some (.int .i64 (ns.getD j nd0).1)∧w.cell? ⟨b,off+j*4+1,none⟩=some (.int .i64 (ns.getD j nd0).2.1)∧w.cell? ⟨b,off+j*4+2,none⟩=some (.string ⟨(ns.getD j nd0).2.2.1.toArray⟩)∧w.cell? ⟨b,off+j*4+3,none⟩=some (.string ⟨(ns.getD j nd0).2.2.2.toArray⟩):=by
 obtain ⟨b,off,rfl,hb,_⟩:=h.2 0 hz
 refine ⟨b,off,rfl,hb,fun j hj=>?_⟩
 obtain ⟨b',off',e,_,c⟩:=h.2 j hj
 injection e with e
 injection e with e1 e2
 subst e1 e2
 exact c
def zdv (ns:List Nd):Prop:=∀ j,(ns.getD j nd0).2.2.1.length≤1048576∧(ns.getD j nd0).2.2.2.length≤1048576
def zdr (ns:List Nd) (k o:Nat):Int:=match zbM (ns.drop k) o with | some d=>(k:Int)+d | none=>-1
theorem zhd {ns:List Nd} {k:Nat} (hk:k<ns.length):zdr ns k 1=endV ns (k:Int):=by rw [zeq];unfold endN zdr;rw [if_pos hk];cases zbM (ns.drop k) 1<;>rfl
theorem zin (ns:List Nd) (k:Nat):zdr ns k 0=(k:Int):=by unfold zdr;rw [zcP];simp
theorem zfH {ns:List Nd} {k o:Nat} (hk:ns.length≤k):zdr ns k (o+1)=-1:=by unfold zdr;rw [end_over hk]
theorem zky {ns:List Nd} {k o:Nat} (hk:k<ns.length) (hn:zaQ (ns.getD k nd0)=false):zdr ns k (o+1)=-1:=by
 have hg:ns.getD k nd0=ns[k]:=by simp [List.getD,hk]
 rw [hg] at hn
 unfold zdr
 rw [end_bad hk hn]
theorem zhe {ns:List Nd} {k o:Nat} (hk:k<ns.length) (hn:zaQ (ns.getD k nd0)=true):zdr ns k (o+1)=zdr ns (k+1) (o+zcu (ns.getD k nd0)):=by
 have hg:ns.getD k nd0=ns[k]:=by simp [List.getD,hk]
 rw [hg] at hn ⊢
 unfold zdr
 rw [zpu hk hn]
 cases zbM (ns.drop (k+1)) (o+zcu ns[k]) with
 | none=>rfl
 | some d=>simp only [Option.map_some];omega
set_option maxHeartbeats 2000000 in
set_option maxRecDepth 100000 in
theorem zof (a:Option Addr) (len cap:Nat) (ns:List Nd) (at_:Int) (w:World) (hin:zas w a len ns) (hsh:zdv ns) (hlen:len≤1048576) :
 Calls Tryz.prog 123 #[.slice a len cap,.int .i64 at_] w fun e w'=>e=.returned (.int .i64 (endV ns at_))∧Below w.heap.size w w':=by
 obtain rfl:ns.length=len:=hin.1
 by_cases hout:at_<0∨(ns.length:Int)≤at_
 ·
  have HE:Hid (endV ns at_=-1):=zje ns at_ hout
  by_cases h0:at_<0
  ·
   go_enter Tryz.func123,Tryz.ntmps123
   go_wp2
   go_ret
   exact ⟨by rw [HE.out];rfl,Below.refl _ _⟩
  ·
   have h1:(ns.length:Int)≤at_:=by omega
   clear hout
   go_enter Tryz.func123,Tryz.ntmps123
   go_wp2
   go_ret
   exact ⟨by rw [HE.out];rfl,Below.refl _ _⟩
 ·
  obtain ⟨k0,rfl⟩:∃ k0:Nat,at_=(k0:Int):=Int.eq_ofNat_of_zero_le (by omega)
  have hk0:k0<ns.length:=by omega
  have h0:¬(k0:Int)<0:=by omega
  have h1:¬(ns.length:Int)≤(k0:Int):=by omega
  have HE:Hid (zdr ns k0 1=endV ns (k0:Int)):=zhd hk0
  have HI:Hid (zas w a ns.length ns):=hin
  have HS:Hid (zdv ns):=hsh
  clear hout hin hsh
  go_enter Tryz.func123,Tryz.ntmps123
  go_wp2
  go_loopw [1,5] (fun av ov wr=>∃ k o:Nat,av=.int .i64 k∧ov=.int .i64 o∧k≤ns.length∧o≤1+3*k∧Hid (zdr ns k o=endV ns (k0:Int))∧Below w.heap.size w wr) (fun av _ _=>ns.length-(intOf av).toNat)
  case atStart=>exact ⟨k0,1,rfl,rfl,by omega,by omega,HE,Below.refl _ _⟩
  case round =>
   obtain ⟨k,o,rfl,rfl,hk,ho,HT,hb⟩:=hrel
   clear HE
   by_cases hoz:o=0
   ·
    subst hoz
    have HF:Hid ((k:Int)=endV ns (k0:Int)):=by exact (by rw [←HT.out,zin]:(k:Int)=endV ns (k0:Int))
    go_wp2
    go_ret
    exact ⟨by rw [←HF.out];rfl,hb⟩
   ·
    obtain ⟨o',rfl⟩:∃ o',o=o'+1:=⟨o-1,by omega⟩
    have ho1:(0:Int)<((o'+1:Nat):Int):=by omega
    by_cases hkl:(ns.length:Int)≤(k:Int)
    ·
     have HF:Hid (endV ns (k0:Int)=-1):=by exact (by rw [←HT.out,zfH (by omega)]:endV ns (k0:Int)=-1)
     clear hoz
     go_wp2
     go_ret
     exact ⟨by rw [HF.out];rfl,hb⟩
    ·
     obtain ⟨b,off,rfl,hbl,hcells⟩:=(HI.out.below hb).at (by omega)
     obtain ⟨c0,c1,c2,c3⟩:=hcells k (by omega)
     have hs:=HS.out k
     obtain ⟨n,hn⟩:∃ n,ns.getD k nd0=n:=⟨_,rfl⟩
     rw [hn] at c0 c1 c2 c3 hs
     have HN:Hid (ns.getD k nd0=n):=hn
     have HC:Hid (_):=fun W:World=>znb n W hs.1 hs.2
     have HK:Hid (_):=fun W:World=>zmc n W
     have hkv:=@zmv n
     obtain ⟨kd,aa,p,f⟩:=n
     unfold za8 at HC HK
     simp only at c0 c1 c2 c3 hs HC HK
     clear hn hcells hoz
     go_wp2_with fail
     refine Calls.mono (HC.out _) ?_
     rintro e w1 ⟨rfl,hb1⟩
     have hB1:=hb.trans (hb1.mono hb.size)
     have bc:=hb1.block b hbl
     have d0:=(World.cell?_of_block (a:=⟨b,off+k*4,none⟩) bc).trans c0
     have d1:=(World.cell?_of_block (a:=⟨b,off+k*4+1,none⟩) bc).trans c1
     have d2:=(World.cell?_of_block (a:=⟨b,off+k*4+2,none⟩) bc).trans c2
     have d3:=(World.cell?_of_block (a:=⟨b,off+k*4+3,none⟩) bc).trans c3
     clear c0 c1 c2 c3 hb1 hb HC bc
     rcases hnb:zaQ (kd,aa,p,f) with _ | _
     ·
      have HF:Hid (endV ns (k0:Int)=-1):=by exact (by rw [←HT.out,zky (by omega) (by rw [HN.out];exact hnb)]:endV ns (k0:Int)=-1)
      clear hnb hkv
      go_wp2
      go_ret
      exact ⟨by rw [HF.out];rfl,hB1⟩
     ·
      obtain ⟨hk1,hk3⟩:=hkv hnb
      have HT2:Hid (zdr ns (k+1) (o'+zcu (kd,aa,p,f))=endV ns (k0:Int)):=by
       have:=zhe (o:=o') (show k<ns.length by omega) (by rw [HN.out];exact hnb)
       rw [HN.out] at this
       exact (by rw [←this];exact HT.out:zdr ns (k+1) (o'+zcu (kd,aa,p,f))=endV ns (k0:Int))
      clear hnb hkv
      go_wp2_with fail
      refine Calls.mono (HK.out _) ?_
      rintro e w2 ⟨rfl,hb2⟩
      rw [hk1]
      have hB2:=hB1.trans (hb2.mono hB1.size)
      obtain ⟨q,hq⟩:∃ q,zcu (kd,aa,p,f)=q:=⟨_,rfl⟩
      rw [hq] at HT2 hk3 ⊢
      have hqi:(q:Int)≤3:=by omega
      clear hk1 hq hb2 hB1 d0 d1 d2 d3 HK
      go_wp2
      go_roundw
      case rel=>exact ⟨k+1,o'+q,by go_num,by go_num,by omega,by omega,HT2,hB2⟩
      case measure=>simp [intOf];omega
def leT (a b:List UInt8):Bool:=Op.bytesLess a b || (a==b)
def zfr (l:List (List UInt8)):Bool:=decide (∀ i,i<l.length-1→leT (l.getD (i+1) []) (l.getD i [])=false)
theorem zjP {l:List (List UInt8)} {j:Nat} (hj:l.length≤j+1) (h:∀ i,i<j→leT (l.getD (i+1) []) (l.getD i [])=false):zfr l=true:=decide_eq_true (fun i hi=>h i (by omega))
theorem zmj {l:List (List UInt8)} {j:Nat} (hj:j+1<l.length) (h:leT (l.getD (j+1) []) (l.getD j [])=true):zfr l=false:=decide_eq_false (fun g=>by rw [g j (by omega)] at h;cases h)
def zaJ (l:List (List UInt8)):Bool:=decide (∀ i,i<l.length→zaF (l.getD i [])=true) && (decide (l.length≤6) && zfr l)
theorem zlq {l:List (List UInt8)} {j:Nat} (hj:j<l.length) (h:zaF (l.getD j [])=false):zaJ l=false:=by
 unfold zaJ
 rw [decide_eq_false (fun g=>by rw [g j hj] at h;cases h)];rfl
theorem zkd {l:List (List UInt8)} (h:∀ i,i<l.length→zaF (l.getD i [])=true):zaJ l=(decide (l.length≤6) && zfr l):=by
 unfold zaJ
 rw [decide_eq_true h];rfl
abbrev Fn:=List UInt8 × Int × List Nd
abbrev Pk:=List UInt8 × List (List UInt8) × List Fn
def fn0:Fn:=([],0,[])
def zeL (f:Fn):Bool:=zaF f.1 && (inB f.2.1 0 3 && zcc f.2.2)
def atGo (s:List UInt8):List Fn→Nat→Int
 | [],_=>-1
 | f :: r,k=>if f.1=s then (k:Int) else atGo s r (k+1)
def atV (fs:List Fn) (s:List UInt8):Int:=atGo s fs 0
theorem zhl {fs:List Fn} {k:Nat} (hk:k<fs.length) (s:List UInt8):atGo s (fs.drop k) k=if (fs.getD k fn0).1=s then (k:Int) else atGo s (fs.drop (k+1)) (k+1):=by
 rw [List.drop_eq_getElem_cons hk,atGo]
 have:fs.getD k fn0=fs[k]:=by rw [List.getD_eq_getElem?_getD,List.getElem?_eq_getElem hk];rfl
 rw [this]
def zbq (fs:List Fn) (i:Nat):Prop:=zeL (fs.getD i fn0)=true∧atV fs (fs.getD i fn0).1=(i:Int)
instance (fs:List Fn) (i:Nat):Decidable (zbq fs i):=by unfold zbq;infer_instance
def pkgB (p:Pk):Bool:=(zaF p.1 && (zaJ p.2.1 && inB (p.2.2.length:Int) 1 8)) && decide (∀ i,i<p.2.2.length→zbq p.2.2 i)
def zmL:Nat→Nat→List UInt8→List (List UInt8)
 | 0,_,_=>[]
 | f+1,n,l=>if l=[] then [] else l.take n :: zmL f n (l.drop n)
def chunksL (l:List UInt8) (size:Int):List (List UInt8):=if size<1 then [] else zmL l.length size.toNat l
def Code (w:World) (B:Nat) (a:Option Addr) (len:Nat):Prop :=
 ∀ j,j<len→∃ b off x,a=some ⟨b,off,none⟩∧b<B∧w.cell? ⟨b,off+j,none⟩=some (.int .u8 x)∧0≤x∧x≤255
structure Cur (w:World) (B:Nat) (a:Option Addr) (len cap:Nat):Prop where
 code:Code w B a len
 short:len≤4096
 c0:w.cell? ⟨B,0,none⟩=some (.slice a len cap)
 c12:∃ i:Nat,∃ h:Int,i≤len∧w.cell? ⟨B,1,none⟩=some (.int .i64 i)∧w.cell? ⟨B,2,none⟩=some (.int .i64 h)
 free:∀ j,w.frozen? ⟨B,j,none⟩=false
theorem zaq (w:World) (row:Option Nat):w.grownBy w.drew row:=⟨rfl,rfl,rfl,Nat.le_refl _,fun _ _ _=>rfl⟩
theorem zar (w:World) (B o:Nat) (v:Value):w.grownBy (w.setCell ⟨B,o,none⟩ v) (some B) :=
 ⟨rfl,rfl,rfl,by simp,fun k _ hne=>Below.heap_setCell w _ v k (fun e=>hne (by rw [e]))⟩
theorem Cur.kept {w w':World} {B:Nat} {a:Option Addr} {len cap:Nat} {row:Option Nat} (h:Cur w B a len cap) (hg:w.grownBy w' row) (hne:∀ k,row=some k→B<k):Cur w' B a len cap:=by
 have hlt:B<w.heap.size:=World.block_lt_of_cell? w ⟨B,0,none⟩ h.c0
 have hb:∀ k,k≤B→w'.heap[k]?=w.heap[k]?:=fun k hk=>hg.block k (by omega) (fun e=>by have:=hne k e.symm;omega)
 have hB:=hb B (Nat.le_refl _)
 refine ⟨?_,h.short,?_,?_,?_⟩
 ·
  intro j hj
  obtain ⟨b,off,x,e1,e2,e3,e0⟩:=h.code j hj
  exact ⟨b,off,x,e1,e2,(World.cell?_of_block (hb b (by omega))).trans e3,e0⟩
 ·
  exact (World.cell?_of_block hB).trans h.c0
 ·
  obtain ⟨i,n,hi,e1,e2⟩:=h.c12
  exact ⟨i,n,hi,(World.cell?_of_block hB).trans e1,(World.cell?_of_block hB).trans e2⟩
 ·
  intro j
  exact (World.frozen?_of_block hB).trans (h.free j)
theorem Cur.lt {w:World} {B:Nat} {a:Option Addr} {len cap:Nat} (h:Cur w B a len cap):B<w.heap.size:=World.block_lt_of_cell? w ⟨B,0,none⟩ h.c0
theorem Cur.set1 {w:World} {B:Nat} {a:Option Addr} {len cap:Nat} (h:Cur w B a len cap) (i:Nat) (hi:i≤len):Cur (w.setCell ⟨B,1,none⟩ (.int .i64 i)) B a len cap:=by
 obtain ⟨i0,n,_,e1,e2⟩:=h.c12
 refine ⟨?_,h.short,?_,⟨i,n,hi,World.cell?_setCell_same _ _ _ e1,?_⟩,?_⟩
 ·
  intro j hj
  obtain ⟨b,off,x,e3,e4,e5,e0⟩:=h.code j hj
  exact ⟨b,off,x,e3,e4,(World.cell?_setCell_other _ _ _ _ (by intro e;injection e with e6;omega)).trans e5,e0⟩
 ·
  exact (World.cell?_setCell_other _ _ _ _ (by simp)).trans h.c0
 ·
  exact (World.cell?_setCell_other _ _ _ _ (by simp)).trans e2
 ·
  intro j;rw [World.frozen?_setCell];exact h.free j
theorem Cur.set2 {w:World} {B:Nat} {a:Option Addr} {len cap:Nat} (h:Cur w B a len cap) (m:Int):Cur (w.setCell ⟨B,2,none⟩ (.int .i64 m)) B a len cap:=by
 obtain ⟨i0,n,hi,e1,e2⟩:=h.c12
 refine ⟨?_,h.short,?_,⟨i0,m,hi,?_,World.cell?_setCell_same _ _ _ e2⟩,?_⟩
 ·
  intro j hj
  obtain ⟨b,off,x,e3,e4,e5,e0⟩:=h.code j hj
  exact ⟨b,off,x,e3,e4,(World.cell?_setCell_other _ _ _ _ (by intro e;injection e with e6;omega)).trans e5,e0⟩
 ·
  exact (World.cell?_setCell_other _ _ _ _ (by simp)).trans h.c0
 ·
  exact (World.cell?_setCell_other _ _ _ _ (by simp)).trans e1
 ·
  intro j;rw [World.frozen?_setCell];exact h.free j
theorem Cur.drew {w:World} {B:Nat} {a:Option Addr} {len cap:Nat} (h:Cur w B a len cap):Cur w.drew B a len cap:=⟨h.code,h.short,h.c0,h.c12,h.free⟩
set_option maxHeartbeats 1000000 in
set_option maxRecDepth 100000 in
theorem byteNo (w:World) (B:Nat) (a:Option Addr) (len cap i:Nat) (n:Int) (hi:len≤i)
 (c0:w.cell? ⟨B,0,none⟩=some (.slice a len cap)) (c1:w.cell? ⟨B,1,none⟩=some (.int .i64 i)) (c2:w.cell? ⟨B,2,none⟩=some (.int .i64 n)) (f2:w.frozen? ⟨B,2,none⟩=false) :
 Calls Tryz.prog 37 #[.pointer (some ⟨B,0,none⟩)] w fun e w'=>∃ x m:Int,e=.returned (.int .i64 x)∧0≤x∧x≤255∧w'=(w.setCell ⟨B,2,none⟩ (.int .i64 m)).drew.drew:=by
 have hA:=and255
 go_enter Tryz.func37,Tryz.ntmps37
 go_wp2
 go_region
 all_goals (try go_wp2)
 go_region
 all_goals (try go_wp2)
 go_ret
 exact ⟨_,_,rfl,by omega,by omega,rfl⟩
set_option maxHeartbeats 1000000 in
set_option maxRecDepth 100000 in
theorem byteYes (w:World) (B b off:Nat) (len cap i:Nat) (n x:Int) (hi:i<len) (hil:len≤4096)
 (c0:w.cell? ⟨B,0,none⟩=some (.slice (some ⟨b,off,none⟩) len cap)) (c1:w.cell? ⟨B,1,none⟩=some (.int .i64 i)) (c2:w.cell? ⟨B,2,none⟩=some (.int .i64 n)) (f1:w.frozen? ⟨B,1,none⟩=false) (f2:w.frozen? ⟨B,2,none⟩=false)
 (hbB:b≠B) (cx:w.cell? ⟨b,off+i,none⟩=some (.int .u8 x)) :
 Calls Tryz.prog 37 #[.pointer (some ⟨B,0,none⟩)] w fun e w'=>∃ x m:Int,e=.returned (.int .i64 x)∧0≤x∧x≤255∧w'=((w.setCell ⟨B,2,none⟩ (.int .i64 m)).setCell ⟨B,1,none⟩ (.int .i64 ((i+1:Nat):Int))).drew.drew.drew:=by
 have hA:=and255
 have hBb:B≠b:=fun e=>hbB e.symm
 go_enter Tryz.func37,Tryz.ntmps37
 go_wp2
 go_region
 all_goals (try go_wp2)
 go_region
 all_goals (try go_wp2)
 go_region
 all_goals (try go_wp2)
 go_ret
 exact ⟨_,_,rfl,by omega,by omega,rfl⟩
theorem zfj (w:World) (B:Nat) (a:Option Addr) (len cap:Nat) (h:Cur w B a len cap) :
 Calls Tryz.prog 37 #[.pointer (some ⟨B,0,none⟩)] w fun e w'=>∃ x:Int,e=.returned (.int .i64 x)∧0≤x∧x≤255∧Cur w' B a len cap∧w.grownBy w' (some B):=by
 obtain ⟨i,n,hi,c1,c2⟩:=h.c12
 have hs:=h.short
 by_cases hlt:i<len
 ·
  obtain ⟨b,off,x,rfl,hb,cx,_⟩:=h.code i hlt
  refine (byteYes w B b off len cap i n x hlt hs h.c0 c1 c2 (h.free 1) (h.free 2) (by omega) cx).mono ?_
  rintro e w' ⟨y,m,rfl,h0,h1,rfl⟩
  exact ⟨y,rfl,h0,h1,((h.set2 m).set1 (i+1) (by omega)).drew.drew.drew,((((zar _ _ _ _).trans (zar _ _ _ _)).trans (zaq _ _)).trans (zaq _ _)).trans (zaq _ _)⟩
 ·
  refine (byteNo w B a len cap i n (by omega) h.c0 c1 c2 (h.free 2)).mono ?_
  rintro e w' ⟨y,m,rfl,h0,h1,rfl⟩
  exact ⟨y,rfl,h0,h1,(h.set2 m).drew.drew,((zar _ _ _ _).trans (zaq _ _)).trans (zaq _ _)⟩
set_option maxHeartbeats 1000000 in
set_option maxRecDepth 100000 in
theorem zaa (w:World) (B:Nat) (a:Option Addr) (len cap:Nat) (n:Int) (hn:0<n) (hn':n≤4294967296) (h:Cur w B a len cap) :
 Calls Tryz.prog 15 #[.pointer (some ⟨B,0,none⟩),.int .i64 n] w fun e w'=>∃ x:Int,e=.returned (.int .i64 x)∧0≤x∧x<n∧Cur w' B a len cap∧w.grownBy w' (some B):=by
 have hz:(n==0)=false:=beq_eq_false_iff_ne.2 (by omega)
 by_cases hs:n≤256
 ·
  go_enter Tryz.func15,Tryz.ntmps15
  go_wp2_with fail
  refine (zfj _ B a len cap h).mono ?_
  rintro e w1 ⟨x,rfl,h0,h1,hc,hg⟩
  go_wp2
  go_ret
  exact ⟨_,rfl,Int.emod_nonneg _ (by omega),Int.emod_lt_of_pos _ hn,hc,hg⟩
 ·
  go_enter Tryz.func15,Tryz.ntmps15
  go_wp2_with fail
  refine (zfj _ B a len cap h).mono ?_
  rintro e w1 ⟨x1,rfl,l1,u1,hc1,hg1⟩
  go_wp2_with fail
  refine (zfj _ B a len cap hc1).mono ?_
  rintro e w2 ⟨x2,rfl,l2,u2,hc2,hg2⟩
  go_wp2_with fail
  refine (zfj _ B a len cap hc2).mono ?_
  rintro e w3 ⟨x3,rfl,l3,u3,hc3,hg3⟩
  go_wp2_with fail
  refine (zfj _ B a len cap hc3).mono ?_
  rintro e w4 ⟨x4,rfl,l4,u4,hc4,hg4⟩
  go_wp2
  go_ret
  exact ⟨_,rfl,Int.emod_nonneg _ (by omega),Int.emod_lt_of_pos _ hn,hc4,((hg1.trans hg2).trans hg3).trans hg4⟩
set_option maxHeartbeats 1000000 in
set_option maxRecDepth 100000 in
theorem zbg (w:World) (B:Nat) (a:Option Addr) (len cap:Nat) (n:Int) (hn:0<n) (hn':n≤4294967296) (h:Cur w B a len cap) :
 Calls Tryz.prog 18 #[.pointer (some ⟨B,0,none⟩),.int .i64 n] w fun e w'=>∃ x:Bool,e=.returned (.bool x)∧Cur w' B a len cap∧w.grownBy w' (some B):=by
 go_enter Tryz.func18,Tryz.ntmps18
 go_wp2_with fail
 refine (zaa _ B a len cap n hn hn' h).mono ?_
 rintro e w1 ⟨x,rfl,h0,h1,hc,hg⟩
 go_wp2
 go_ret
 exact ⟨_,rfl,hc,hg⟩
theorem zpF (w:World) (a:Option Addr) (len cap:Nat) (m:Int) (hl:len≤4096) (hc:Code w w.heap.size a len) :
 Cur (w.alloc (.cells #[.slice a len cap,.int .i64 0,.int .i64 m] 65)) w.heap.size a len cap:=by
 refine ⟨?_,hl,by simp,⟨0,m,Nat.zero_le _,by simp,by simp⟩,fun j=>by simp⟩
 intro j hj
 obtain ⟨b,off,x,e1,e2,e3,e0⟩:=hc j hj
 exact ⟨b,off,x,e1,e2,(World.cell?_of_block (Below.heap_alloc _ _ _ e2)).trans e3,e0⟩
set_option maxHeartbeats 1000000 in
set_option maxRecDepth 100000 in
theorem newSome (w:World) (b off len cap:Nat) (hl:len≤4096) (hc:∀ j,j<len→∃ x,w.cell? ⟨b,off+j,none⟩=some (.int .u8 x)) :
 Calls Tryz.prog 13 #[.slice (some ⟨b,off,none⟩) len cap] w fun e w'=>e=.returned (.pointer (some ⟨w.heap.size,0,none⟩))∧∃ m:Int,w'=w.alloc (.cells #[.slice (some ⟨b,off,none⟩) len cap,.int .i64 0,.int .i64 m] 65):=by
 have HC:Hid (∀ j,j<len→∃ x,w.cell? ⟨b,off+j,none⟩=some (.int .u8 x)):=hc
 clear hc
 go_enter Tryz.func13,Tryz.ntmps13
 go_wp2
 go_loop [3,4] (fun h i=>∃ k:Nat,∃ m:Int,k≤len∧i=.int .i64 k∧h=.int .i64 m) (fun _ i=>len-(intOf i).toNat)
 case atStart=>exact ⟨0,_,Nat.zero_le _,rfl,rfl⟩
 case round =>
  obtain ⟨k,m,hk,rfl,rfl⟩:=hrel
  by_cases hlt:k<len
  ·
   obtain ⟨x,cx⟩:=HC.out k hlt
   go_wp2
   go_round
   case rel=>exact ⟨k+1,_,by omega,by go_num,rfl⟩
   case measure=>simp [intOf];omega
  ·
   go_wp2
   go_ret
   exact ⟨rfl,m,rfl⟩
set_option maxHeartbeats 1000000 in
set_option maxRecDepth 100000 in
theorem newNone (w:World) (a:Option Addr) (cap:Nat) :
 Calls Tryz.prog 13 #[.slice a 0 cap] w fun e w'=>e=.returned (.pointer (some ⟨w.heap.size,0,none⟩))∧∃ m:Int,w'=w.alloc (.cells #[.slice a 0 cap,.int .i64 0,.int .i64 m] 65):=by
 go_enter Tryz.func13,Tryz.ntmps13
 go_wp2
 refine wp_loop_rounds 1 ?_
 rw [rounds_succ]
 go_wp2
 go_ret
 exact ⟨rfl,_,rfl⟩
theorem drawNew (w:World) (a:Option Addr) (len cap:Nat) (hl:len≤4096) (hc:Code w w.heap.size a len) :
 Calls Tryz.prog 13 #[.slice a len cap] w fun e w'=>e=.returned (.pointer (some ⟨w.heap.size,0,none⟩))∧Cur w' w.heap.size a len cap∧w.grownBy w' none:=by
 by_cases hz:len=0
 ·
  subst hz
  refine (newNone w a cap).mono ?_
  rintro e w' ⟨rfl,m,rfl⟩
  exact ⟨rfl,zpF w a 0 cap m hl hc,World.grownBy_alloc _ _ _⟩
 ·
  obtain ⟨b,off,x,rfl,_,_⟩:=hc 0 (by omega)
  refine (newSome w b off len cap hl ?_).mono ?_
  ·
   intro j hj
   obtain ⟨b',off',x',e1,_,e3,_⟩:=hc j hj
   injection e1 with e1
   injection e1 with e4 e5
   subst e4 e5
   exact ⟨x',e3⟩
  ·
   rintro e w' ⟨rfl,m,rfl⟩
   exact ⟨rfl,zpF w _ len cap m hl hc,World.grownBy_alloc _ _ _⟩
theorem info5:(Tryz.prog.info? 5).map (fun i=>(i.zero,i.size,i.bytes))=some (some (.int .u8 0),1,1):=by kernel_rfl
def zb5 (l:List UInt8):List Value:=l.map (fun b=>Value.int .u8 (b.toNat:Int))
theorem Cur.below {w w':World} {B:Nat} {a:Option Addr} {len cap:Nat} (h:Cur w B a len cap) (hb:Below w.heap.size w w'):Cur w' B a len cap :=
 h.kept (row:=none) ⟨hb.os,hb.tape,hb.output,hb.size,fun k hk _=>hb.block k hk⟩ (by simp)
def za5 (w:World) (a:Option Addr) (len:Nat) (ts:List (List UInt8)):Prop :=
 ts.length=len∧∀ j,j<len→∃ b off,a=some ⟨b,off,none⟩∧b<w.heap.size∧w.cell? ⟨b,off+j,none⟩=some (.string ⟨(ts.getD j []).toArray⟩)
theorem za5.below {w w':World} {a:Option Addr} {len:Nat} {ts:List (List UInt8)} (h:za5 w a len ts) (hb:Below w.heap.size w w'):za5 w' a len ts:=by
 refine ⟨h.1,fun j hj=>?_⟩
 obtain ⟨b,off,e,hlt,c⟩:=h.2 j hj
 exact ⟨b,off,e,Nat.lt_of_lt_of_le hlt hb.size,(hb.cell (p:=⟨b,off+j,none⟩) hlt).trans c⟩
theorem za5.at {w:World} {a:Option Addr} {len:Nat} {ts:List (List UInt8)} (h:za5 w a len ts) (hz:0<len):∃ b off,a=some ⟨b,off,none⟩∧b<w.heap.size∧∀ j,j<len→w.cell? ⟨b,off+j,none⟩=some (.string ⟨(ts.getD j []).toArray⟩):=by
 obtain ⟨b,off,rfl,hb,_⟩:=h.2 0 hz
 refine ⟨b,off,rfl,hb,fun j hj=>?_⟩
 obtain ⟨b',off',e,_,c⟩:=h.2 j hj
 injection e with e
 injection e with e1 e2
 subst e1 e2
 exact c
theorem zaC {w:World} {base n:Nat} {v:Value} {ts:List (List UInt8)} (h:w.ownsRow base 9 1 v n (strV ts)):ts.length=n∧∃ a cap,v=.slice a n cap∧za5 w a n ts:=by
 have hlen:ts.length=n:=by have:=h.1;rw [strV_len] at this;omega
 refine ⟨hlen,?_⟩
 rcases zb4 h with ⟨rfl,rfl,_⟩ | ⟨g,cp,rfl⟩
 ·
  exact ⟨none,0,rfl,hlen,fun j hj=>by omega⟩
 ·
  refine ⟨some ⟨g,0,none⟩,cp,rfl,hlen,fun j hj=>⟨g,0,rfl,(h.lt g rfl).2,?_⟩⟩
  rw [Nat.zero_add];exact zfn h hlen j hj
set_option maxHeartbeats 400000 in
set_option maxRecDepth 100000 in
theorem zjJ (x y:Int) (w:World) :
 Calls Tryz.prog 97 #[.int .i64 x,.int .i64 y] w fun e w'=>e=.returned (.int .i64 (if x<y then x else y))∧w'=w:=by
 by_cases h:x<y
 ·
  go_enter Tryz.func97,Tryz.ntmps97
  go_wp2
  go_ret
  exact ⟨rfl,rfl⟩
 ·
  go_enter Tryz.func97,Tryz.ntmps97
  go_wp2
  go_ret
  exact ⟨rfl,rfl⟩
theorem ziB (l:List UInt8):Lib.strCells ⟨l.toArray⟩=zb5 l:=by simp [Lib.strCells,zb5]
set_option maxHeartbeats 1000000 in
set_option maxRecDepth 100000 in
theorem zhP (a:Option Addr) (len cap:Nat) (ns:List Nd) (w:World) (hin:zas w a len ns) (hsh:zdv ns) (hlen:len≤1048576) :
 Calls Tryz.prog 99 #[.slice a len cap] w fun e w'=>e=.returned (.bool (zcc ns))∧Below w.heap.size w w':=by
 obtain rfl:ns.length=len:=hin.1
 have HC:Hid (_):=fun W (h:zas W a ns.length ns)=>zof a ns.length cap ns 0 W h hsh hlen
 have HI:Hid (zas w a ns.length ns):=hin
 clear hin hsh
 by_cases h:1≤(ns.length:Int)∧(ns.length:Int)≤60
 ·
  have HB:Hid (inB (ns.length:Int) 1 60=true):=zdG _ _ _ h.1 h.2
  have HT:Hid (zcc ns=(endV ns 0==(ns.length:Int))):=by
   exact (by unfold zcc;rw [Bool.eq_iff_iff,decide_eq_true_iff,beq_iff_eq];constructor;exact fun x=>x.2;exact fun x=>⟨by omega,x⟩:zcc ns=(endV ns 0==(ns.length:Int)))
  go_enter Tryz.func99,Tryz.ntmps99
  go_wp2_with fail
  refine (zc0 _ _ _ _).mono ?_
  rintro e w1 ⟨rfl,rfl⟩
  rw [HB.out]
  go_wp2_with fail
  refine Calls.mono (HC.out _ HI.out) ?_
  rintro e w2 ⟨rfl,hb2⟩
  go_wp2
  go_ret
  exact ⟨by rw [HT.out];rfl,hb2⟩
 ·
  have HB:Hid (inB (ns.length:Int) 1 60=false):=zcv _ _ _ (by omega)
  have HT:Hid (zcc ns=false):=by exact (decide_eq_false (fun x=>h (by omega)):zcc ns=false)
  go_enter Tryz.func99,Tryz.ntmps99
  go_wp2_with fail
  refine (zc0 _ _ _ _).mono ?_
  rintro e w1 ⟨rfl,rfl⟩
  rw [HB.out]
  go_wp2
  go_ret
  exact ⟨by rw [HT.out];rfl,Below.refl _ _⟩
def zk9:List UInt8:=[112,97,99,107,97,103,101]
def zmu:List UInt8:=[105,109,112,111,114,116]
def kwFunc:List UInt8:=[102,117,110,99]
def packLn (s:List UInt8):List UInt8:=zk9++[32]++s
def impLn (s:List UInt8):List UInt8:=zmu++[32]++s
def funcLn (f:Fn):List UInt8:=kwFunc++[32]++f.1++[32]++intL f.2.1++[32]++showL f.2.2
def pkLines (p:Pk):List (List UInt8):=packLn p.1 :: (p.2.1.map impLn++p.2.2.map funcLn)
def showP (p:Pk):List UInt8:=termJ (pkLines p)
def showPk (p:Pk):List UInt8:=if pkgB p=true then showP p else []
noncomputable def readLn (p:Pk) (l:List UInt8):Option Pk :=
 if (za3 32 l).getD 0 []=zk9∧(za3 32 l).length=2 then some ((za3 32 l).getD 1 [],p.2.1,p.2.2)
 else if (za3 32 l).getD 0 []=zmu∧(za3 32 l).length=2 then some (p.1,p.2.1++[(za3 32 l).getD 1 []],p.2.2)
 else if (za3 32 l).getD 0 []=kwFunc∧3<(za3 32 l).length then
  (if readOk (l.drop (((za3 32 l).getD 1 []).length+((za3 32 l).getD 2 []).length+7))=true then
   some (p.1,p.2.1,p.2.2++[((za3 32 l).getD 1 [],zah ((za3 32 l).getD 2 []),readTV (l.drop (((za3 32 l).getD 1 []).length+((za3 32 l).getD 2 []).length+7)))])
  else none)
 else none
noncomputable def zon:Pk→List (List UInt8)→Option Pk
 | p,[]=>some p
 | p,l :: r=>match readLn p l with | none=>none | some q=>zon q r
theorem zdj {p:Pk} (h:pkgB p=true):zaF p.1=true∧(∀ x∈p.2.1,zaF x=true)∧p.2.1.length≤6∧(1≤p.2.2.length∧p.2.2.length≤8)∧(∀ f∈p.2.2,zeL f=true):=by
 unfold pkgB zaJ inB at h
 simp only [Bool.and_eq_true,decide_eq_true_eq] at h
 obtain ⟨⟨h1,⟨h2,h3,_⟩,h4⟩,h5⟩:=h
 refine ⟨h1,fun x hx=>?_,h3,by omega,fun f hf=>?_⟩
 ·
  obtain ⟨i,hi,rfl⟩:=List.getElem_of_mem hx
  have:=h2 i hi
  rwa [List.getD_eq_getElem?_getD,List.getElem?_eq_getElem hi] at this
 ·
  obtain ⟨i,hi,rfl⟩:=List.getElem_of_mem hf
  have:=(h5 i hi).1
  rwa [List.getD_eq_getElem?_getD,List.getElem?_eq_getElem hi] at this
def lineT (x:List UInt8):List UInt8:=x++[10]
def pk0:Pk:=([],[],[])
noncomputable def readPB (s:List UInt8):Bool:=decide (s.length≤20000) && (match zon pk0 (linesL s) with | none=>false | some p=>pkgB p && (showP p==s))
noncomputable def readPV (s:List UInt8):Pk:=if readPB s=true then (zon pk0 (linesL s)).getD pk0 else pk0
end Go.Proofs.YtdbljnddkbpanaaGreatDoor
