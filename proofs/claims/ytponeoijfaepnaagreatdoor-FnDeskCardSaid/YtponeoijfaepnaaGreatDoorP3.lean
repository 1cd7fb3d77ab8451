/-
  Parts of one proof, one behind the other: TextS5, TreeS, TreeS2, Math7, Math3C, Draw, Draw2, ChunkS, TreeS3, Math7S, Math7R.
-/
import Derived.Test.YtponeoijfaepnaaGreatDoorP2
namespace Go.Proofs.YtponeoijfaepnaaGreatDoor
open Go.RowKit
set_option maxHeartbeats 2000000
set_option maxRecDepth 100000
theorem zmF (N:Nat) (w:World) (hN:(N:Int)≤9223372036854775807) :
 Calls Tryz.prog 79 #[.int .i64 (N:Int)] w fun e w'=>e=.returned (.string ⟨(digL N).toArray⟩)∧Below w.heap.size w w':=by
 have hcat:=zc7;have hneg:decide ((N:Int)<0)=false:=decide_eq_false (by omega)
 go_enter Tryz.func79,Tryz.ntmps79
 go_wp2
 go_loopw [0,3] (fun nv sv wr=>∃ (k:Nat) (s:List UInt8),nv=.int .i64 k∧sv=.string ⟨s.toArray⟩∧(k:Int)≤9223372036854775807∧Hid (zex k s=digL N)∧Below w.heap.size w wr) (fun nv sv _=>(intOf nv).toNat+(match sv with | .string b=>if b.size=0 then 1 else 0 | _=>0))
 case atStart=>exact ⟨N,[],rfl,rfl,hN,zgY N,Below.refl _ _⟩
 case round =>
  obtain ⟨k,s,rfl,rfl,hk,HD,hb⟩:=hrel;have hs19:(s.length:Int)≤19:=by have:=zk1 k N s HD.out (by omega);omega
  by_cases hc:s=[]∨k≠0
  ·
   have hbk:=ziR k wr;have HD2:Hid (zex (k / 10) (zc6 k :: s)=digL N):=by exact (by rw [zhW k s hc];exact HD.out:zex (k / 10) (zc6 k :: s)=digL N)
   have hd10:((k / 10:Nat):Int)=(k:Int) / 10:=by omega
   have hnn:¬(k:Int) % 10<0:=by omega
   rcases hc with rfl | hc
   ·go_wp2;refine ⟨⟨k / 10,[zc6 k],by rw [hd10],rfl,by omega,HD2,hb.alloc hb.size _⟩,?_⟩;simp [intOf,ByteArray.size];omega
   ·
    have hk0:((k:Int) !=0)=true:=bne_iff_ne.2 (by omega);by_cases hs:s=[]
    ·subst hs;go_wp2;refine ⟨⟨k / 10,[zc6 k],by rw [hd10],rfl,by omega,HD2,hb.alloc hb.size _⟩,?_⟩;simp [intOf,ByteArray.size];omega
    ·
     have hse:s.isEmpty=false:=by simp [hs]
     have hz:s.length≠0:=by have:=List.length_pos_iff.2 hs;omega
     clear hs;go_wp2;refine ⟨⟨k / 10,zc6 k :: s,by rw [hd10],rfl,by omega,HD2,hb.alloc hb.size _⟩,?_⟩;simp [intOf,ByteArray.size,hz];omega
  ·
   have hs:s≠[]:=fun e=>hc (Or.inl e)
   have hk0:k=0:=by
    by_cases e:k=0
    ·exact e
    ·exact absurd (Or.inr e) hc
   subst hk0;have hse:s.isEmpty=false:=by simp [hs]
   have HF:Hid (s=digL N):=by exact (by rw [←HD.out,zk2 hs]:s=digL N)
   clear hs hc;go_wp2;go_ret;exact ⟨by rw [←HF.out];rfl,hb⟩
theorem neg_tmod (k:Nat):(-(k:Int)).tmod 10=-((k:Int) % 10):=by
 rw [Int.neg_tmod,Int.tmod_eq_emod_of_nonneg (by omega)]
theorem neg_tdiv (k:Nat):(-(k:Int)).tdiv 10=-((k:Int) / 10):=by
 rw [Int.neg_tdiv,Int.tdiv_eq_ediv_of_nonneg (by omega)]
theorem zmG (N:Nat) (w:World) (hN0:0<N) (hN:(N:Int)≤9223372036854775808) :
 Calls Tryz.prog 79 #[.int .i64 (-(N:Int))] w fun e w'=>e=.returned (.string ⟨(45 :: digL N).toArray⟩)∧Below w.heap.size w w':=by
 have hcat:=zc7;have hneg:decide (-(N:Int)<0)=true:=decide_eq_true (by omega);have hneg2:-(N:Int)<0:=by omega
 go_enter Tryz.func79,Tryz.ntmps79
 go_wp2
 go_loopw [0,3] (fun nv sv wr=>∃ (k:Nat) (s:List UInt8),nv=.int .i64 (-(k:Int))∧sv=.string ⟨s.toArray⟩∧(k:Int)≤9223372036854775808∧Hid (zex k s=digL N)∧Below w.heap.size w wr) (fun nv sv _=>(intOf nv).natAbs+(match sv with | .string b=>if b.size=0 then 1 else 0 | _=>0))
 case atStart=>exact ⟨N,[],rfl,rfl,hN,zgY N,Below.refl _ _⟩
 case round =>
  obtain ⟨k,s,rfl,rfl,hk,HD,hb⟩:=hrel;have hs19:(s.length:Int)≤19:=by have:=zk1 k N s HD.out (by omega);omega
  have htm:=neg_tmod k;have htd:=neg_tdiv k;by_cases hc:s=[]∨k≠0
  ·
   have hbk:=ziR k wr;have HD2:Hid (zex (k / 10) (zc6 k :: s)=digL N):=by exact (by rw [zhW k s hc];exact HD.out:zex (k / 10) (zc6 k :: s)=digL N)
   have hd10:((k / 10:Nat):Int)=(k:Int) / 10:=by omega
   have hr0:0≤(k:Int) % 10:=by omega
   have hr1:(k:Int) % 10<10:=by omega
   have hc2:s=[]∨(s≠[]∧k≠0):=by
    by_cases e:s=[]
    ·exact Or.inl e
    ·exact Or.inr ⟨e,by rcases hc with h | h;exact absurd h e;exact h⟩
   clear hc;by_cases hr:0<(k:Int) % 10
   ·
    have hr2:-((k:Int) % 10)<0:=by omega
    rcases hc2 with rfl | ⟨hs,hc⟩
    ·go_wp2;refine ⟨⟨k / 10,[zc6 k],by rw [hd10],rfl,by omega,HD2,hb.alloc hb.size _⟩,?_⟩;simp [intOf,ByteArray.size];omega
    ·
     have hk0:(-(k:Int) !=0)=true:=bne_iff_ne.2 (by omega);have hse:s.isEmpty=false:=by simp [hs]
     have hz:s.length≠0:=by have:=List.length_pos_iff.2 hs;omega
     clear hs;go_wp2;refine ⟨⟨k / 10,zc6 k :: s,by rw [hd10],rfl,by omega,HD2,hb.alloc hb.size _⟩,?_⟩;simp [intOf,ByteArray.size,hz];omega
   ·
    have hr2:¬-((k:Int) % 10)<0:=by omega
    have hbk2:(convert 22 9 (.slice (some ⟨wr.heap.size,0,none⟩) 1 1)).run Tryz.prog (wr.alloc (.cells #[.int .u8 (48+-((k:Int) % 10))] 5))=.ok (.string ⟨[zc6 k].toArray⟩) (wr.alloc (.cells #[.int .u8 (48+-((k:Int) % 10))] 5)):=by rw [show (48:Int)+-((k:Int) % 10)=48+(k:Int) % 10 by omega];exact ziR k wr
    rcases hc2 with rfl | ⟨hs,hc⟩
    ·go_wp2;refine ⟨⟨k / 10,[zc6 k],by rw [hd10],rfl,by omega,HD2,hb.alloc hb.size _⟩,?_⟩;simp [intOf,ByteArray.size];omega
    ·
     have hk0:(-(k:Int) !=0)=true:=bne_iff_ne.2 (by omega);have hse:s.isEmpty=false:=by simp [hs]
     have hz:s.length≠0:=by have:=List.length_pos_iff.2 hs;omega
     clear hs;go_wp2;refine ⟨⟨k / 10,zc6 k :: s,by rw [hd10],rfl,by omega,HD2,hb.alloc hb.size _⟩,?_⟩;simp [intOf,ByteArray.size,hz];omega
  ·
   have hs:s≠[]:=fun e=>hc (Or.inl e)
   have hk0:k=0:=by
    by_cases e:k=0
    ·exact e
    ·exact absurd (Or.inr e) hc
   subst hk0;have hse:s.isEmpty=false:=by simp [hs]
   have HF:Hid (s=digL N):=by exact (by rw [←HD.out,zk2 hs]:s=digL N)
   clear hs hc htm htd;go_wp2;go_ret;exact ⟨by rw [←HF.out];rfl,hb⟩
theorem zkp (n:Int) (w:World) (h0:-9223372036854775808≤n) (h1:n≤9223372036854775807) :
 Calls Tryz.prog 79 #[.int .i64 n] w fun e w'=>e=.returned (.string ⟨(intL n).toArray⟩)∧Below w.heap.size w w':=by
 by_cases h:n<0
 ·
  obtain ⟨N,rfl⟩:∃ N:Nat,n=-(N:Int):=⟨n.natAbs,by omega⟩
  have e:intL (-(N:Int))=45 :: digL N:=by unfold intL;rw [if_pos h];congr 2;omega
  rw [e];exact zmG N w (by omega) (by omega)
 ·
  obtain ⟨N,rfl⟩:∃ N:Nat,n=(N:Int):=⟨n.natAbs,by omega⟩
  have e:intL (N:Int)=digL N:=by unfold intL;rw [if_neg h];congr 1
  rw [e];exact zmF N w (by omega)
def za9 (n:Nd):Value:=.agg #[.int .i64 n.1,.int .i64 n.2.1,.string ⟨n.2.2.1.toArray⟩,.string ⟨n.2.2.2.toArray⟩]
theorem zgA (k a:Int) (p f:List UInt8) (hk:k≠8) (h:p≠[]∨f≠[]):zaM (k,a,p,f)=false:=zlU (fun hp=>by
 unfold zdu at hp;simp only at hp;rcases hp with ⟨_,_,h1,h2⟩ | ⟨_,_,h1,h2⟩ | ⟨_,_,h1,h2⟩ | ⟨h1,_⟩
 ·rcases h with h | h;exact h h1;exact h h2
 ·rcases h with h | h;exact h h1;exact h h2
 ·rcases h with h | h;exact h h1;exact h h2
 ·exact hk h1)
theorem zon (a:Int):zaM (1,a,[],[])=inB a (-2147483648) 2147483647:=by
 unfold zaM inB;exact decide_eq_decide.2 (by unfold zdu;simp)
theorem zoo (a:Int):zaM (2,a,[],[])=inB a 0 2:=by
 unfold zaM inB;exact decide_eq_decide.2 (by unfold zdu;simp)
theorem nodeB_op (k a:Int) (h:3≤k∧k≤7):zaM (k,a,[],[])=(a==0):=by
 rw [Bool.eq_iff_iff,zdL,beq_iff_eq];unfold zdu;simp;omega
theorem zmV (a:Int) (p f:List UInt8):zaM (8,a,p,f)=(inB a 0 3 && (zaE p && zaE f)):=by
 rw [Bool.eq_iff_iff,zdL];unfold zdu inB;simp
theorem zkF (k a:Int) (p f:List UInt8) (h:k<1∨8<k):zaM (k,a,p,f)=false:=zlU (fun hp=>by
 unfold zdu at hp;simp only at hp;omega)
theorem zmE (n:Nd) (w:World) (hp:n.2.2.1.length≤1048576) (hf:n.2.2.2.length≤1048576) :
 Calls Tryz.prog 178 #[za9 n] w fun e w'=>e=.returned (.bool (zaM n))∧Below w.heap.size w w':=by
 obtain ⟨k,a,p,f⟩:=n;simp only at hp hf;unfold za9;simp only;by_cases h8:k=8
 ·
  subst h8;have HN:=zmV a p f;rw [HN];clear HN;rcases hia:inB a 0 3 with _ | _
  ·
   have HA:Hid (inB a 0 3=false):=hia;clear hia
   go_enter Tryz.func178,Tryz.ntmps178
   go_wp2_with fail
   refine (zca _ _ _ _).mono ?_;rintro e w1 ⟨rfl,rfl⟩;rw [HA.out];go_wp2;go_ret;exact ⟨rfl,(Below.refl _ w).alloc (Nat.le_refl _) _⟩
  ·
   have HA:Hid (inB a 0 3=true):=hia;clear hia;rcases hnp:zaE p with _ | _
   ·
    have HP:Hid (zaE p=false):=hnp;clear hnp
    go_enter Tryz.func178,Tryz.ntmps178
    go_wp2_with fail
    refine (zca _ _ _ _).mono ?_;rintro e w1 ⟨rfl,rfl⟩;rw [HA.out];go_wp2_with fail
    refine (zcb p _ hp).mono ?_;rintro e w1 ⟨rfl,rfl⟩;rw [HP.out];go_wp2;go_ret;exact ⟨rfl,(Below.refl _ w).alloc (Nat.le_refl _) _⟩
   ·
    have HP:Hid (zaE p=true):=hnp;clear hnp
    go_enter Tryz.func178,Tryz.ntmps178
    go_wp2_with fail
    refine (zca _ _ _ _).mono ?_;rintro e w1 ⟨rfl,rfl⟩;rw [HA.out];go_wp2_with fail
    refine (zcb p _ hp).mono ?_;rintro e w1 ⟨rfl,rfl⟩;rw [HP.out];go_wp2_with fail
    refine (zcb f _ hf).mono ?_;rintro e w1 ⟨rfl,rfl⟩;go_wp2;go_ret;exact ⟨rfl,(Below.refl _ w).alloc (Nat.le_refl _) _⟩
 ·
  have d8:(k !=8)=true:=bne_iff_ne.2 h8;have d8':(k==8)=false:=beq_eq_false_iff_ne.2 h8;by_cases hpe:p=[]
  ·
   subst hpe;by_cases hfe:f=[]
   ·
    subst hfe;by_cases h1:k=1
    ·
     subst h1;have HN:=zon a;rw [HN];clear HN
     go_enter Tryz.func178,Tryz.ntmps178
     go_wp2_with fail
     refine (zmA _ _).mono ?_;rintro e w1 ⟨rfl,rfl⟩;go_wp2;go_ret;exact ⟨rfl,(Below.refl _ w).alloc (Nat.le_refl _) _⟩
    ·
     have d1:(k==1)=false:=beq_eq_false_iff_ne.2 h1;by_cases h2:k=2
     ·
      subst h2;have HN:=zoo a;rw [HN];clear HN
      go_enter Tryz.func178,Tryz.ntmps178
      go_wp2_with fail
      refine (zca _ _ _ _).mono ?_;rintro e w1 ⟨rfl,rfl⟩;go_wp2;go_ret;exact ⟨rfl,(Below.refl _ w).alloc (Nat.le_refl _) _⟩
     ·
      have d2:(k==2)=false:=beq_eq_false_iff_ne.2 h2;by_cases h37:3≤k∧k≤7
      ·
       have HN:=nodeB_op k a h37;rw [HN];clear HN;rcases (show k=3∨k=4∨k=5∨k=6∨k=7 by omega) with rfl | rfl | rfl | rfl | rfl
       all_goals
        go_enter Tryz.func178,Tryz.ntmps178
        go_wp2;go_ret;exact ⟨rfl,(Below.refl _ w).alloc (Nat.le_refl _) _⟩
      ·
       have HN:=zkF k a [] [] (by omega);rw [HN];clear HN;have d3:(k==3)=false:=beq_eq_false_iff_ne.2 (by omega);have d4:(k==4)=false:=beq_eq_false_iff_ne.2 (by omega);have d5:(k==5)=false:=beq_eq_false_iff_ne.2 (by omega);have d6:(k==6)=false:=beq_eq_false_iff_ne.2 (by omega);have d7:(k==7)=false:=beq_eq_false_iff_ne.2 (by omega);clear h37 h1 h2 h8
       go_enter Tryz.func178,Tryz.ntmps178
       go_wp2;go_ret;exact ⟨rfl,(Below.refl _ w).alloc (Nat.le_refl _) _⟩
   ·
    have HN:=zgA k a [] f h8 (Or.inr hfe);rw [HN];have hfb:f.isEmpty=false:=by simp [hfe]
    clear HN hfe h8
    go_enter Tryz.func178,Tryz.ntmps178
    go_wp2;go_ret;exact ⟨rfl,(Below.refl _ w).alloc (Nat.le_refl _) _⟩
  ·
   have HN:=zgA k a p f h8 (Or.inl hpe);rw [HN];have hpb:p.isEmpty=false:=by simp [hpe]
   clear HN hpe h8
   go_enter Tryz.func178,Tryz.ntmps178
   go_wp2;go_ret;exact ⟨rfl,(Below.refl _ w).alloc (Nat.le_refl _) _⟩
theorem kids_two (k a:Int) (p f:List UInt8) (h:3≤k∧k≤6):zbu (k,a,p,f)=2:=if_pos h
theorem kids_if (a:Int) (p f:List UInt8):zbu (7,a,p,f)=3:=by unfold zbu;simp
theorem zoB (a:Int) (p f:List UInt8):zbu (8,a,p,f)=a:=by unfold zbu;simp
theorem zoA (k a:Int) (p f:List UInt8) (h:k<3∨8<k):zbu (k,a,p,f)=0:=by
 unfold zbu;simp only;rw [if_neg (by omega),if_neg (by omega),if_neg (by omega)]
theorem zlE (n:Nd) (w:World) :
 Calls Tryz.prog 152 #[za9 n] w fun e w'=>e=.returned (.int .i64 (zbu n))∧Below w.heap.size w w':=by
 obtain ⟨k,a,p,f⟩:=n;unfold za9;simp only;by_cases h36:3≤k∧k≤6
 ·
  rw [kids_two k a p f h36];rcases (show k=3∨k=4∨k=5∨k=6 by omega) with rfl | rfl | rfl | rfl
  all_goals
   go_enter Tryz.func152,Tryz.ntmps152
   go_wp2;go_ret;exact ⟨rfl,(Below.refl _ w).alloc (Nat.le_refl _) _⟩
 ·
  by_cases h7:k=7
  ·
   subst h7;rw [kids_if]
   go_enter Tryz.func152,Tryz.ntmps152
   go_wp2;go_ret;exact ⟨rfl,(Below.refl _ w).alloc (Nat.le_refl _) _⟩
  ·
   by_cases h8:k=8
   ·
    subst h8;rw [zoB]
    go_enter Tryz.func152,Tryz.ntmps152
    go_wp2;go_ret;exact ⟨rfl,(Below.refl _ w).alloc (Nat.le_refl _) _⟩
   ·
    rw [zoA k a p f (by omega)];have d3:(k==3)=false:=beq_eq_false_iff_ne.2 (by omega);have d4:(k==4)=false:=beq_eq_false_iff_ne.2 (by omega);have d5:(k==5)=false:=beq_eq_false_iff_ne.2 (by omega);have d6:(k==6)=false:=beq_eq_false_iff_ne.2 (by omega);have d7:(k==7)=false:=beq_eq_false_iff_ne.2 h7;have d8:(k==8)=false:=beq_eq_false_iff_ne.2 h8;clear h36 h7 h8
    go_enter Tryz.func152,Tryz.ntmps152
    go_wp2;go_ret;exact ⟨rfl,(Below.refl _ w).alloc (Nat.le_refl _) _⟩
def nd0:Nd:=(0,0,[],[])
def zay (w:World) (a:Option Addr) (len:Nat) (ns:List Nd):Prop :=
 ns.length=len∧∀ j,j<len→∃ b off,a=some ⟨b,off,none⟩∧b<w.heap.size∧w.cell? ⟨b,off+j*4,none⟩=some (.int .i64 (ns.getD j nd0).1)∧w.cell? ⟨b,off+j*4+1,none⟩=some (.int .i64 (ns.getD j nd0).2.1)∧w.cell? ⟨b,off+j*4+2,none⟩=some (.string ⟨(ns.getD j nd0).2.2.1.toArray⟩)∧w.cell? ⟨b,off+j*4+3,none⟩=some (.string ⟨(ns.getD j nd0).2.2.2.toArray⟩)
theorem zay.keep {w w':World} {a:Option Addr} {len:Nat} {ns:List Nd} (h:zay w a len ns) (hs:w.heap.size≤w'.heap.size) (hb:∀ b off,a=some ⟨b,off,none⟩→b<w.heap.size→w'.heap[b]?=w.heap[b]?):zay w' a len ns:=by
 refine ⟨h.1,fun j hj=>?_⟩;obtain ⟨b,off,e,hlt,c0,c1,c2,c3⟩:=h.2 j hj;have hk:=hb b off e hlt;exact ⟨b,off,e,Nat.lt_of_lt_of_le hlt hs,(World.cell?_of_block (a:=⟨b,off+j*4,none⟩) hk).trans c0,(World.cell?_of_block (a:=⟨b,off+j*4+1,none⟩) hk).trans c1,(World.cell?_of_block (a:=⟨b,off+j*4+2,none⟩) hk).trans c2,(World.cell?_of_block (a:=⟨b,off+j*4+3,none⟩) hk).trans c3⟩
theorem zay.below {w w':World} {a:Option Addr} {len:Nat} {ns:List Nd} (h:zay w a len ns) (hb:Below w.heap.size w w'):zay w' a len ns :=
 h.keep hb.size (fun b _ _ hlt=>hb.block b hlt)
theorem zay.at {w:World} {a:Option Addr} {len:Nat} {ns:List Nd} (h:zay w a len ns) (hz:0<len):∃ b off,a=some ⟨b,off,none⟩∧b<w.heap.size ∧
 ∀ j,j<len→w.cell? ⟨b,off+j*4,none⟩=some (.int .i64 (ns.getD j nd0).1)∧w.cell? ⟨b,off+j*4+1,none⟩=some (.int .i64 (ns.getD j nd0).2.1)∧w.cell? ⟨b,off+j*4+2,none⟩=some (.string ⟨(ns.getD j nd0).2.2.1.toArray⟩)∧w.cell? ⟨b,off+j*4+3,none⟩=some (.string ⟨(ns.getD j nd0).2.2.2.toArray⟩):=by
 obtain ⟨b,off,rfl,hb,_⟩:=h.2 0 hz;refine ⟨b,off,rfl,hb,fun j hj=>?_⟩;obtain ⟨b',off',e,_,c⟩:=h.2 j hj;injection e with e;injection e with e1 e2;subst e1 e2;exact c
def zdo (ns:List Nd):Prop:=∀ j,(ns.getD j nd0).2.2.1.length≤1048576∧(ns.getD j nd0).2.2.2.length≤1048576
def zdk (ns:List Nd) (k o:Nat):Int:=match zbN (ns.drop k) o with | some d=>(k:Int)+d | none=>-1
theorem zgU {ns:List Nd} {k:Nat} (hk:k<ns.length):zdk ns k 1=endV ns (k:Int):=by rw [zea];unfold endN zdk;rw [if_pos hk];cases zbN (ns.drop k) 1<;>rfl
theorem zhU (ns:List Nd) (k:Nat):zdk ns k 0=(k:Int):=by unfold zdk;rw [zcG];simp
theorem zfB {ns:List Nd} {k o:Nat} (hk:ns.length≤k):zdk ns k (o+1)=-1:=by unfold zdk;rw [end_over hk]
theorem zjX {ns:List Nd} {k o:Nat} (hk:k<ns.length) (hn:zaM (ns.getD k nd0)=false):zdk ns k (o+1)=-1:=by
 have hg:ns.getD k nd0=ns[k]:=by simp [List.getD,hk]
 rw [hg] at hn;unfold zdk;rw [end_bad hk hn]
theorem zgV {ns:List Nd} {k o:Nat} (hk:k<ns.length) (hn:zaM (ns.getD k nd0)=true):zdk ns k (o+1)=zdk ns (k+1) (o+zct (ns.getD k nd0)):=by
 have hg:ns.getD k nd0=ns[k]:=by simp [List.getD,hk]
 rw [hg] at hn ⊢;unfold zdk;rw [zp1 hk hn];cases zbN (ns.drop (k+1)) (o+zct ns[k]) with
 | none=>rfl
 | some d=>simp only [Option.map_some];omega
theorem znR (a:Option Addr) (len cap:Nat) (ns:List Nd) (at_:Int) (w:World) (hin:zay w a len ns) (hsh:zdo ns) (hlen:len≤1048576) :
 Calls Tryz.prog 153 #[.slice a len cap,.int .i64 at_] w fun e w'=>e=.returned (.int .i64 (endV ns at_))∧Below w.heap.size w w':=by
 obtain rfl:ns.length=len:=hin.1;by_cases hout:at_<0∨(ns.length:Int)≤at_
 ·
  have HE:Hid (endV ns at_=-1):=ziH ns at_ hout;by_cases h0:at_<0
  ·
   go_enter Tryz.func153,Tryz.ntmps153
   go_wp2;go_ret;exact ⟨by rw [HE.out];rfl,Below.refl _ _⟩
  ·
   have h1:(ns.length:Int)≤at_:=by omega
   clear hout
   go_enter Tryz.func153,Tryz.ntmps153
   go_wp2;go_ret;exact ⟨by rw [HE.out];rfl,Below.refl _ _⟩
 ·
  obtain ⟨k0,rfl⟩:∃ k0:Nat,at_=(k0:Int):=Int.eq_ofNat_of_zero_le (by omega)
  have hk0:k0<ns.length:=by omega
  have h0:¬(k0:Int)<0:=by omega
  have h1:¬(ns.length:Int)≤(k0:Int):=by omega
  have HE:Hid (zdk ns k0 1=endV ns (k0:Int)):=zgU hk0;have HI:Hid (zay w a ns.length ns):=hin;have HS:Hid (zdo ns):=hsh;clear hout hin hsh
  go_enter Tryz.func153,Tryz.ntmps153
  go_wp2
  go_loopw [1,5] (fun av ov wr=>∃ k o:Nat,av=.int .i64 k∧ov=.int .i64 o∧k≤ns.length∧o≤1+3*k∧Hid (zdk ns k o=endV ns (k0:Int))∧Below w.heap.size w wr) (fun av _ _=>ns.length-(intOf av).toNat)
  case atStart=>exact ⟨k0,1,rfl,rfl,by omega,by omega,HE,Below.refl _ _⟩
  case round =>
   obtain ⟨k,o,rfl,rfl,hk,ho,HT,hb⟩:=hrel;clear HE;by_cases hoz:o=0
   ·
    subst hoz;have HF:Hid ((k:Int)=endV ns (k0:Int)):=by exact (by rw [←HT.out,zhU]:(k:Int)=endV ns (k0:Int))
    go_wp2;go_ret;exact ⟨by rw [←HF.out];rfl,hb⟩
   ·
    obtain ⟨o',rfl⟩:∃ o',o=o'+1:=⟨o-1,by omega⟩
    have ho1:(0:Int)<((o'+1:Nat):Int):=by omega
    by_cases hkl:(ns.length:Int)≤(k:Int)
    ·
     have HF:Hid (endV ns (k0:Int)=-1):=by exact (by rw [←HT.out,zfB (by omega)]:endV ns (k0:Int)=-1)
     clear hoz;go_wp2;go_ret;exact ⟨by rw [HF.out];rfl,hb⟩
    ·
     obtain ⟨b,off,rfl,hbl,hcells⟩:=(HI.out.below hb).at (by omega);obtain ⟨c0,c1,c2,c3⟩:=hcells k (by omega);have hs:=HS.out k;obtain ⟨n,hn⟩:∃ n,ns.getD k nd0=n:=⟨_,rfl⟩
     rw [hn] at c0 c1 c2 c3 hs;have HN:Hid (ns.getD k nd0=n):=hn;have HC:Hid (_):=fun W:World=>zmE n W hs.1 hs.2
     have HK:Hid (_):=fun W:World=>zlE n W
     have hkv:=@zlX n;obtain ⟨kd,aa,p,f⟩:=n;unfold za9 at HC HK;simp only at c0 c1 c2 c3 hs HC HK;clear hn hcells hoz;go_wp2_with fail
     refine Calls.mono (HC.out _) ?_;rintro e w1 ⟨rfl,hb1⟩;have hB1:=hb.trans (hb1.mono hb.size);have bc:=hb1.block b hbl;have d0:=(World.cell?_of_block (a:=⟨b,off+k*4,none⟩) bc).trans c0;have d1:=(World.cell?_of_block (a:=⟨b,off+k*4+1,none⟩) bc).trans c1;have d2:=(World.cell?_of_block (a:=⟨b,off+k*4+2,none⟩) bc).trans c2;have d3:=(World.cell?_of_block (a:=⟨b,off+k*4+3,none⟩) bc).trans c3;clear c0 c1 c2 c3 hb1 hb HC bc;rcases hnb:zaM (kd,aa,p,f) with _ | _
     ·
      have HF:Hid (endV ns (k0:Int)=-1):=by exact (by rw [←HT.out,zjX (by omega) (by rw [HN.out];exact hnb)]:endV ns (k0:Int)=-1)
      clear hnb hkv;go_wp2;go_ret;exact ⟨by rw [HF.out];rfl,hB1⟩
     ·
      obtain ⟨hk1,hk3⟩:=hkv hnb
      have HT2:Hid (zdk ns (k+1) (o'+zct (kd,aa,p,f))=endV ns (k0:Int)):=by have:=zgV (o:=o') (show k<ns.length by omega) (by rw [HN.out];exact hnb);rw [HN.out] at this;exact (by rw [←this];exact HT.out:zdk ns (k+1) (o'+zct (kd,aa,p,f))=endV ns (k0:Int))
      clear hnb hkv;go_wp2_with fail
      refine Calls.mono (HK.out _) ?_;rintro e w2 ⟨rfl,hb2⟩;rw [hk1];have hB2:=hB1.trans (hb2.mono hB1.size);obtain ⟨q,hq⟩:∃ q,zct (kd,aa,p,f)=q:=⟨_,rfl⟩
      rw [hq] at HT2 hk3 ⊢;have hqi:(q:Int)≤3:=by omega
      clear hk1 hq hb2 hB1 d0 d1 d2 d3 HK;go_wp2;go_roundw
      case rel=>exact ⟨k+1,o'+q,by go_num,by go_num,by omega,by omega,HT2,hB2⟩
      case measure=>simp [intOf];omega
def leT (a b:List UInt8):Bool:=Op.bytesLess a b || (a==b)
def zfl (l:List (List UInt8)):Bool:=decide (∀ i,i<l.length-1→leT (l.getD (i+1) []) (l.getD i [])=false)
theorem zjd {l:List (List UInt8)} {j:Nat} (hj:l.length≤j+1) (h:∀ i,i<j→leT (l.getD (i+1) []) (l.getD i [])=false):zfl l=true:=decide_eq_true (fun i hi=>h i (by omega))
theorem zlL {l:List (List UInt8)} {j:Nat} (hj:j+1<l.length) (h:leT (l.getD (j+1) []) (l.getD j [])=true):zfl l=false:=decide_eq_false (fun g=>by rw [g j (by omega)] at h;cases h)
def zaG (l:List (List UInt8)):Bool:=decide (∀ i,i<l.length→zaE (l.getD i [])=true) && (decide (l.length≤6) && zfl l)
theorem zkP {l:List (List UInt8)} {j:Nat} (hj:j<l.length) (h:zaE (l.getD j [])=false):zaG l=false:=by
 unfold zaG;rw [decide_eq_false (fun g=>by rw [g j hj] at h;cases h)];rfl
theorem zjG {l:List (List UInt8)} (h:∀ i,i<l.length→zaE (l.getD i [])=true):zaG l=(decide (l.length≤6) && zfl l):=by
 unfold zaG;rw [decide_eq_true h];rfl
abbrev Fn:=List UInt8 × Int × List Nd
abbrev Pk:=List UInt8 × List (List UInt8) × List Fn
def fn0:Fn:=([],0,[])
def zev (f:Fn):Bool:=zaE f.1 && (inB f.2.1 0 3 && zch f.2.2)
def atGo (s:List UInt8):List Fn→Nat→Int
 | [],_=>-1
 | f :: r,k=>if f.1=s then (k:Int) else atGo s r (k+1)
def atV (fs:List Fn) (s:List UInt8):Int:=atGo s fs 0
theorem zh0 {fs:List Fn} {k:Nat} (hk:k<fs.length) (s:List UInt8):atGo s (fs.drop k) k=if (fs.getD k fn0).1=s then (k:Int) else atGo s (fs.drop (k+1)) (k+1):=by
 rw [List.drop_eq_getElem_cons hk,atGo];have:fs.getD k fn0=fs[k]:=by rw [List.getD_eq_getElem?_getD,List.getElem?_eq_getElem hk];rfl
 rw [this]
def zbs (fs:List Fn) (i:Nat):Prop:=zev (fs.getD i fn0)=true∧atV fs (fs.getD i fn0).1=(i:Int)
instance (fs:List Fn) (i:Nat):Decidable (zbs fs i):=by unfold zbs;infer_instance
def pkgB (p:Pk):Bool:=(zaE p.1 && (zaG p.2.1 && inB (p.2.2.length:Int) 1 8)) && decide (∀ i,i<p.2.2.length→zbs p.2.2 i)

def Code (w:World) (B:Nat) (a:Option Addr) (len:Nat):Prop :=
 ∀ j,j<len→∃ b off x,a=some ⟨b,off,none⟩∧b<B∧w.cell? ⟨b,off+j,none⟩=some (.int .u8 x)∧0≤x∧x≤255
structure Cur (w:World) (B:Nat) (a:Option Addr) (len cap:Nat):Prop where
 code:Code w B a len
 short:len≤4096
 c0:w.cell? ⟨B,0,none⟩=some (.slice a len cap)
 c12:∃ i:Nat,∃ h:Int,i≤len∧w.cell? ⟨B,1,none⟩=some (.int .i64 i)∧w.cell? ⟨B,2,none⟩=some (.int .i64 h)
 free:∀ j,w.frozen? ⟨B,j,none⟩=false
theorem zap (w:World) (row:Option Nat):w.grownBy w.drew row:=⟨rfl,rfl,rfl,Nat.le_refl _,fun _ _ _=>rfl⟩
theorem zau (w:World) (B o:Nat) (v:Value):w.grownBy (w.setCell ⟨B,o,none⟩ v) (some B) :=
 ⟨rfl,rfl,rfl,by simp,fun k _ hne=>Below.heap_setCell w _ v k (fun e=>hne (by rw [e]))⟩
theorem Cur.kept {w w':World} {B:Nat} {a:Option Addr} {len cap:Nat} {row:Option Nat} (h:Cur w B a len cap) (hg:w.grownBy w' row) (hne:∀ k,row=some k→B<k):Cur w' B a len cap:=by
 have hlt:B<w.heap.size:=World.block_lt_of_cell? w ⟨B,0,none⟩ h.c0;have hb:∀ k,k≤B→w'.heap[k]?=w.heap[k]?:=fun k hk=>hg.block k (by omega) (fun e=>by have:=hne k e.symm;omega)
 have hB:=hb B (Nat.le_refl _);refine ⟨?_,h.short,?_,?_,?_⟩
 ·intro j hj;obtain ⟨b,off,x,e1,e2,e3,e0⟩:=h.code j hj;exact ⟨b,off,x,e1,e2,(World.cell?_of_block (hb b (by omega))).trans e3,e0⟩
 ·exact (World.cell?_of_block hB).trans h.c0
 ·obtain ⟨i,n,hi,e1,e2⟩:=h.c12;exact ⟨i,n,hi,(World.cell?_of_block hB).trans e1,(World.cell?_of_block hB).trans e2⟩
 ·intro j;exact (World.frozen?_of_block hB).trans (h.free j)
theorem Cur.lt {w:World} {B:Nat} {a:Option Addr} {len cap:Nat} (h:Cur w B a len cap):B<w.heap.size:=World.block_lt_of_cell? w ⟨B,0,none⟩ h.c0
theorem Cur.set1 {w:World} {B:Nat} {a:Option Addr} {len cap:Nat} (h:Cur w B a len cap) (i:Nat) (hi:i≤len):Cur (w.setCell ⟨B,1,none⟩ (.int .i64 i)) B a len cap:=by
 obtain ⟨i0,n,_,e1,e2⟩:=h.c12;refine ⟨?_,h.short,?_,⟨i,n,hi,World.cell?_setCell_same _ _ _ e1,?_⟩,?_⟩
 ·intro j hj;obtain ⟨b,off,x,e3,e4,e5,e0⟩:=h.code j hj;exact ⟨b,off,x,e3,e4,(World.cell?_setCell_other _ _ _ _ (by intro e;injection e with e6;omega)).trans e5,e0⟩
 ·exact (World.cell?_setCell_other _ _ _ _ (by simp)).trans h.c0
 ·exact (World.cell?_setCell_other _ _ _ _ (by simp)).trans e2
 ·intro j;rw [World.frozen?_setCell];exact h.free j
theorem Cur.set2 {w:World} {B:Nat} {a:Option Addr} {len cap:Nat} (h:Cur w B a len cap) (m:Int):Cur (w.setCell ⟨B,2,none⟩ (.int .i64 m)) B a len cap:=by
 obtain ⟨i0,n,hi,e1,e2⟩:=h.c12;refine ⟨?_,h.short,?_,⟨i0,m,hi,?_,World.cell?_setCell_same _ _ _ e2⟩,?_⟩
 ·intro j hj;obtain ⟨b,off,x,e3,e4,e5,e0⟩:=h.code j hj;exact ⟨b,off,x,e3,e4,(World.cell?_setCell_other _ _ _ _ (by intro e;injection e with e6;omega)).trans e5,e0⟩
 ·exact (World.cell?_setCell_other _ _ _ _ (by simp)).trans h.c0
 ·exact (World.cell?_setCell_other _ _ _ _ (by simp)).trans e1
 ·intro j;rw [World.frozen?_setCell];exact h.free j
theorem Cur.drew {w:World} {B:Nat} {a:Option Addr} {len cap:Nat} (h:Cur w B a len cap):Cur w.drew B a len cap:=⟨h.code,h.short,h.c0,h.c12,h.free⟩
theorem byteNo (w:World) (B:Nat) (a:Option Addr) (len cap i:Nat) (n:Int) (hi:len≤i)
 (c0:w.cell? ⟨B,0,none⟩=some (.slice a len cap)) (c1:w.cell? ⟨B,1,none⟩=some (.int .i64 i)) (c2:w.cell? ⟨B,2,none⟩=some (.int .i64 n)) (f2:w.frozen? ⟨B,2,none⟩=false) :
 Calls Tryz.prog 58 #[.pointer (some ⟨B,0,none⟩)] w fun e w'=>∃ x m:Int,e=.returned (.int .i64 x)∧0≤x∧x≤255∧w'=(w.setCell ⟨B,2,none⟩ (.int .i64 m)).drew.drew:=by
 have hA:=and255
 go_enter Tryz.func58,Tryz.ntmps58
 go_wp2
 go_region
 all_goals (try go_wp2)
 go_region
 all_goals (try go_wp2)
 go_ret;exact ⟨_,_,rfl,by omega,by omega,rfl⟩
theorem byteYes (w:World) (B b off:Nat) (len cap i:Nat) (n x:Int) (hi:i<len) (hil:len≤4096)
 (c0:w.cell? ⟨B,0,none⟩=some (.slice (some ⟨b,off,none⟩) len cap)) (c1:w.cell? ⟨B,1,none⟩=some (.int .i64 i)) (c2:w.cell? ⟨B,2,none⟩=some (.int .i64 n)) (f1:w.frozen? ⟨B,1,none⟩=false) (f2:w.frozen? ⟨B,2,none⟩=false)
 (hbB:b≠B) (cx:w.cell? ⟨b,off+i,none⟩=some (.int .u8 x)) :
 Calls Tryz.prog 58 #[.pointer (some ⟨B,0,none⟩)] w fun e w'=>∃ x m:Int,e=.returned (.int .i64 x)∧0≤x∧x≤255∧w'=((w.setCell ⟨B,2,none⟩ (.int .i64 m)).setCell ⟨B,1,none⟩ (.int .i64 ((i+1:Nat):Int))).drew.drew.drew:=by
 have hA:=and255;have hBb:B≠b:=fun e=>hbB e.symm
 go_enter Tryz.func58,Tryz.ntmps58
 go_wp2
 go_region
 all_goals (try go_wp2)
 go_region
 all_goals (try go_wp2)
 go_region
 all_goals (try go_wp2)
 go_ret;exact ⟨_,_,rfl,by omega,by omega,rfl⟩
theorem zfd (w:World) (B:Nat) (a:Option Addr) (len cap:Nat) (h:Cur w B a len cap) :
 Calls Tryz.prog 58 #[.pointer (some ⟨B,0,none⟩)] w fun e w'=>∃ x:Int,e=.returned (.int .i64 x)∧0≤x∧x≤255∧Cur w' B a len cap∧w.grownBy w' (some B):=by
 obtain ⟨i,n,hi,c1,c2⟩:=h.c12;have hs:=h.short;by_cases hlt:i<len
 ·obtain ⟨b,off,x,rfl,hb,cx,_⟩:=h.code i hlt;refine (byteYes w B b off len cap i n x hlt hs h.c0 c1 c2 (h.free 1) (h.free 2) (by omega) cx).mono ?_;rintro e w' ⟨y,m,rfl,h0,h1,rfl⟩;exact ⟨y,rfl,h0,h1,((h.set2 m).set1 (i+1) (by omega)).drew.drew.drew,((((zau _ _ _ _).trans (zau _ _ _ _)).trans (zap _ _)).trans (zap _ _)).trans (zap _ _)⟩
 ·refine (byteNo w B a len cap i n (by omega) h.c0 c1 c2 (h.free 2)).mono ?_;rintro e w' ⟨y,m,rfl,h0,h1,rfl⟩;exact ⟨y,rfl,h0,h1,(h.set2 m).drew.drew,((zau _ _ _ _).trans (zap _ _)).trans (zap _ _)⟩
theorem zad (w:World) (B:Nat) (a:Option Addr) (len cap:Nat) (n:Int) (hn:0<n) (hn':n≤4294967296) (h:Cur w B a len cap) :
 Calls Tryz.prog 30 #[.pointer (some ⟨B,0,none⟩),.int .i64 n] w fun e w'=>∃ x:Int,e=.returned (.int .i64 x)∧0≤x∧x<n∧Cur w' B a len cap∧w.grownBy w' (some B):=by
 have hz:(n==0)=false:=beq_eq_false_iff_ne.2 (by omega);by_cases hs:n≤256
 ·
  go_enter Tryz.func30,Tryz.ntmps30
  go_wp2_with fail
  refine (zfd _ B a len cap h).mono ?_;rintro e w1 ⟨x,rfl,h0,h1,hc,hg⟩;go_wp2;go_ret;exact ⟨_,rfl,Int.emod_nonneg _ (by omega),Int.emod_lt_of_pos _ hn,hc,hg⟩
 ·
  go_enter Tryz.func30,Tryz.ntmps30
  go_wp2_with fail
  refine (zfd _ B a len cap h).mono ?_;rintro e w1 ⟨x1,rfl,l1,u1,hc1,hg1⟩;go_wp2_with fail
  refine (zfd _ B a len cap hc1).mono ?_;rintro e w2 ⟨x2,rfl,l2,u2,hc2,hg2⟩;go_wp2_with fail
  refine (zfd _ B a len cap hc2).mono ?_;rintro e w3 ⟨x3,rfl,l3,u3,hc3,hg3⟩;go_wp2_with fail
  refine (zfd _ B a len cap hc3).mono ?_;rintro e w4 ⟨x4,rfl,l4,u4,hc4,hg4⟩;go_wp2;go_ret;exact ⟨_,rfl,Int.emod_nonneg _ (by omega),Int.emod_lt_of_pos _ hn,hc4,((hg1.trans hg2).trans hg3).trans hg4⟩
theorem zbO (w:World) (B:Nat) (a:Option Addr) (len cap:Nat) (n:Int) (hn:0<n) (hn':n≤4294967296) (h:Cur w B a len cap) :
 Calls Tryz.prog 29 #[.pointer (some ⟨B,0,none⟩),.int .i64 n] w fun e w'=>∃ x:Bool,e=.returned (.bool x)∧Cur w' B a len cap∧w.grownBy w' (some B):=by
 go_enter Tryz.func29,Tryz.ntmps29
 go_wp2_with fail
 refine (zad _ B a len cap n hn hn' h).mono ?_;rintro e w1 ⟨x,rfl,h0,h1,hc,hg⟩;go_wp2;go_ret;exact ⟨_,rfl,hc,hg⟩
theorem zpa (w:World) (a:Option Addr) (len cap:Nat) (m:Int) (hl:len≤4096) (hc:Code w w.heap.size a len) :
 Cur (w.alloc (.cells #[.slice a len cap,.int .i64 0,.int .i64 m] 72)) w.heap.size a len cap:=by
 refine ⟨?_,hl,by simp,⟨0,m,Nat.zero_le _,by simp,by simp⟩,fun j=>by simp⟩;intro j hj;obtain ⟨b,off,x,e1,e2,e3,e0⟩:=hc j hj;exact ⟨b,off,x,e1,e2,(World.cell?_of_block (Below.heap_alloc _ _ _ e2)).trans e3,e0⟩
theorem newSome (w:World) (b off len cap:Nat) (hl:len≤4096) (hc:∀ j,j<len→∃ x,w.cell? ⟨b,off+j,none⟩=some (.int .u8 x)) :
 Calls Tryz.prog 22 #[.slice (some ⟨b,off,none⟩) len cap] w fun e w'=>e=.returned (.pointer (some ⟨w.heap.size,0,none⟩))∧∃ m:Int,w'=w.alloc (.cells #[.slice (some ⟨b,off,none⟩) len cap,.int .i64 0,.int .i64 m] 72):=by
 have HC:Hid (∀ j,j<len→∃ x,w.cell? ⟨b,off+j,none⟩=some (.int .u8 x)):=hc;clear hc
 go_enter Tryz.func22,Tryz.ntmps22
 go_wp2
 go_loop [3,4] (fun h i=>∃ k:Nat,∃ m:Int,k≤len∧i=.int .i64 k∧h=.int .i64 m) (fun _ i=>len-(intOf i).toNat)
 case atStart=>exact ⟨0,_,Nat.zero_le _,rfl,rfl⟩
 case round =>
  obtain ⟨k,m,hk,rfl,rfl⟩:=hrel;by_cases hlt:k<len
  ·
   obtain ⟨x,cx⟩:=HC.out k hlt;go_wp2
   go_round
   case rel=>exact ⟨k+1,_,by omega,by go_num,rfl⟩
   case measure=>simp [intOf];omega
  ·go_wp2;go_ret;exact ⟨rfl,m,rfl⟩
theorem newNone (w:World) (a:Option Addr) (cap:Nat) :
 Calls Tryz.prog 22 #[.slice a 0 cap] w fun e w'=>e=.returned (.pointer (some ⟨w.heap.size,0,none⟩))∧∃ m:Int,w'=w.alloc (.cells #[.slice a 0 cap,.int .i64 0,.int .i64 m] 72):=by
 go_enter Tryz.func22,Tryz.ntmps22
 go_wp2;refine wp_loop_rounds 1 ?_;rw [rounds_succ];go_wp2;go_ret;exact ⟨rfl,_,rfl⟩
theorem ziJ (w:World) (a:Option Addr) (len cap:Nat) (hl:len≤4096) (hc:Code w w.heap.size a len) :
 Calls Tryz.prog 22 #[.slice a len cap] w fun e w'=>e=.returned (.pointer (some ⟨w.heap.size,0,none⟩))∧Cur w' w.heap.size a len cap∧w.grownBy w' none:=by
 by_cases hz:len=0
 ·subst hz;refine (newNone w a cap).mono ?_;rintro e w' ⟨rfl,m,rfl⟩;exact ⟨rfl,zpa w a 0 cap m hl hc,World.grownBy_alloc _ _ _⟩
 ·
  obtain ⟨b,off,x,rfl,_,_⟩:=hc 0 (by omega);refine (newSome w b off len cap hl ?_).mono ?_
  ·intro j hj;obtain ⟨b',off',x',e1,_,e3,_⟩:=hc j hj;injection e1 with e1;injection e1 with e4 e5;subst e4 e5;exact ⟨x',e3⟩
  ·rintro e w' ⟨rfl,m,rfl⟩;exact ⟨rfl,zpa w _ len cap m hl hc,World.grownBy_alloc _ _ _⟩
theorem Cur.below {w w':World} {B:Nat} {a:Option Addr} {len cap:Nat} (h:Cur w B a len cap) (hb:Below w.heap.size w w'):Cur w' B a len cap :=
 h.kept (row:=none) ⟨hb.os,hb.tape,hb.output,hb.size,fun k hk _=>hb.block k hk⟩ (by simp)
def za7 (w:World) (a:Option Addr) (len:Nat) (ts:List (List UInt8)):Prop :=
 ts.length=len∧∀ j,j<len→∃ b off,a=some ⟨b,off,none⟩∧b<w.heap.size∧w.cell? ⟨b,off+j,none⟩=some (.string ⟨(ts.getD j []).toArray⟩)
theorem za7.below {w w':World} {a:Option Addr} {len:Nat} {ts:List (List UInt8)} (h:za7 w a len ts) (hb:Below w.heap.size w w'):za7 w' a len ts:=by
 refine ⟨h.1,fun j hj=>?_⟩;obtain ⟨b,off,e,hlt,c⟩:=h.2 j hj;exact ⟨b,off,e,Nat.lt_of_lt_of_le hlt hb.size,(hb.cell (p:=⟨b,off+j,none⟩) hlt).trans c⟩
theorem za7.at {w:World} {a:Option Addr} {len:Nat} {ts:List (List UInt8)} (h:za7 w a len ts) (hz:0<len):∃ b off,a=some ⟨b,off,none⟩∧b<w.heap.size∧∀ j,j<len→w.cell? ⟨b,off+j,none⟩=some (.string ⟨(ts.getD j []).toArray⟩):=by
 obtain ⟨b,off,rfl,hb,_⟩:=h.2 0 hz;refine ⟨b,off,rfl,hb,fun j hj=>?_⟩;obtain ⟨b',off',e,_,c⟩:=h.2 j hj;injection e with e;injection e with e1 e2;subst e1 e2;exact c
theorem zaP {w:World} {base n:Nat} {v:Value} {ts:List (List UInt8)} (h:w.ownsRow base 9 1 v n (strV ts)):ts.length=n∧∃ a cap,v=.slice a n cap∧za7 w a n ts:=by
 have hlen:ts.length=n:=by have:=h.1;rw [strV_len] at this;omega
 refine ⟨hlen,?_⟩;rcases zaR h with ⟨rfl,rfl,_⟩ | ⟨g,cp,rfl⟩
 ·exact ⟨none,0,rfl,hlen,fun j hj=>by omega⟩
 ·refine ⟨some ⟨g,0,none⟩,cp,rfl,hlen,fun j hj=>⟨g,0,rfl,(h.lt g rfl).2,?_⟩⟩;rw [Nat.zero_add];exact zfh h hlen j hj
theorem zj7 (x y:Int) (w:World) :
 Calls Tryz.prog 72 #[.int .i64 x,.int .i64 y] w fun e w'=>e=.returned (.int .i64 (if x<y then x else y))∧w'=w:=by
 by_cases h:x<y
 ·
  go_enter Tryz.func72,Tryz.ntmps72
  go_wp2;go_ret;exact ⟨rfl,rfl⟩
 ·
  go_enter Tryz.func72,Tryz.ntmps72
  go_wp2;go_ret;exact ⟨rfl,rfl⟩
theorem zhu (a:Option Addr) (len cap:Nat) (ns:List Nd) (w:World) (hin:zay w a len ns) (hsh:zdo ns) (hlen:len≤1048576) :
 Calls Tryz.prog 128 #[.slice a len cap] w fun e w'=>e=.returned (.bool (zch ns))∧Below w.heap.size w w':=by
 obtain rfl:ns.length=len:=hin.1;have HC:Hid (_):=fun W (h:zay W a ns.length ns)=>znR a ns.length cap ns 0 W h hsh hlen
 have HI:Hid (zay w a ns.length ns):=hin;clear hin hsh;by_cases h:1≤(ns.length:Int)∧(ns.length:Int)≤60
 ·
  have HB:Hid (inB (ns.length:Int) 1 60=true):=zdO _ _ _ h.1 h.2
  have HT:Hid (zch ns=(endV ns 0==(ns.length:Int))):=by exact (by unfold zch;rw [Bool.eq_iff_iff,decide_eq_true_iff,beq_iff_eq];constructor;exact fun x=>x.2;exact fun x=>⟨by omega,x⟩:zch ns=(endV ns 0==(ns.length:Int)))
  go_enter Tryz.func128,Tryz.ntmps128
  go_wp2_with fail
  refine (zca _ _ _ _).mono ?_;rintro e w1 ⟨rfl,rfl⟩;rw [HB.out];go_wp2_with fail
  refine Calls.mono (HC.out _ HI.out) ?_;rintro e w2 ⟨rfl,hb2⟩;go_wp2;go_ret;exact ⟨by rw [HT.out];rfl,hb2⟩
 ·
  have HB:Hid (inB (ns.length:Int) 1 60=false):=zcx _ _ _ (by omega);have HT:Hid (zch ns=false):=by exact (decide_eq_false (fun x=>h (by omega)):zch ns=false)
  go_enter Tryz.func128,Tryz.ntmps128
  go_wp2_with fail
  refine (zca _ _ _ _).mono ?_;rintro e w1 ⟨rfl,rfl⟩;rw [HB.out];go_wp2;go_ret;exact ⟨by rw [HT.out];rfl,Below.refl _ _⟩
theorem zdc {p:Pk} (h:pkgB p=true):zaE p.1=true∧(∀ x∈p.2.1,zaE x=true)∧p.2.1.length≤6∧(1≤p.2.2.length∧p.2.2.length≤8)∧(∀ f∈p.2.2,zev f=true):=by
 unfold pkgB zaG inB at h;simp only [Bool.and_eq_true,decide_eq_true_eq] at h;obtain ⟨⟨h1,⟨h2,h3,_⟩,h4⟩,h5⟩:=h;refine ⟨h1,fun x hx=>?_,h3,by omega,fun f hf=>?_⟩
 ·
  obtain ⟨i,hi,rfl⟩:=List.getElem_of_mem hx;have:=h2 i hi
  rwa [List.getD_eq_getElem?_getD,List.getElem?_eq_getElem hi] at this
 ·
  obtain ⟨i,hi,rfl⟩:=List.getElem_of_mem hf;have:=(h5 i hi).1
  rwa [List.getD_eq_getElem?_getD,List.getElem?_eq_getElem hi] at this
def pk0:Pk:=([],[],[])
end Go.Proofs.YtponeoijfaepnaaGreatDoor
