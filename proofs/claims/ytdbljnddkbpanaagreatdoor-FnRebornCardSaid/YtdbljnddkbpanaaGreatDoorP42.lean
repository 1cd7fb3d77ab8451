/-
  Parts of one proof, one behind the other: HeapK, HeapP, OrdI.
-/
import Derived.Test.YtdbljnddkbpanaaGreatDoorP41
import Derived.Test.YtdbljnddkbpanaaGreatDoorP39
import Derived.Laws.MakeOwn
namespace Go.Proofs.YtdbljnddkbpanaaGreatDoor
open Go.RowKit
set_option maxHeartbeats 4000000 in
set_option maxRecDepth 100000 in
theorem heapDown (B nb g N n cp:Nat) (l:List Nat) (w:World) (h:HpIn w B nb (.slice (some ⟨g,0,none⟩) N cp) l) (hN:l.length=N) (hn:n+1=N) (hdn:HpDn l 0 n) (hbig:N≤1000) :
 Calls Tryz.prog 175 #[.iface 168 (.pointer (some ⟨nb,0,none⟩)),.int .i64 0,.int .i64 (n:Int)] w fun e w'=>∃ bb:Bool,e=.returned (.bool bb)∧∃ l',HpIn w' B nb (.slice (some ⟨g,0,none⟩) N cp) l'∧l'.length=N∧l'.Perm l∧HpN l' n∧(∀ q,n≤q→l'.getD q 0=l.getD q 0)∧w.grownBy w' (some g):=by
 have HH:Hid (HpIn w B nb (.slice (some ⟨g,0,none⟩) N cp) l):=h
 have HL:Hid (l.length=N):=hN
 have HD:Hid (HpDn l 0 n):=hdn
 clear h hN hdn
 go_enter Tryz.func175,Tryz.ntmps175
 go_wp2
 go_loopw [7,8,9,10] (fun iv _ _ _ wr=>∃ (i:Nat) (lk:List Nat),iv=.int .i64 (i:Int)∧i<N∧Hid (HpIn wr B nb (.slice (some ⟨g,0,none⟩) N cp) lk)∧Hid (lk.length=N)∧Hid (HpDn lk i n)∧Hid (lk.Perm l)∧Hid (∀ q,n≤q→lk.getD q 0=l.getD q 0)∧Hid (w.grownBy wr (some g))) (fun iv _ _ _ _=>N-(intOf iv).toNat)
 case atStart=>exact ⟨0,l,rfl,by omega,HH,HL,HD,List.Perm.refl _,(fun _ _=>rfl),World.grownBy.refl _ _⟩
 case round =>
  obtain ⟨i,lk,rfl,hi,HHk,HLk,HDk,HPk,HKk,HGk⟩:=hrel
  by_cases h1:n≤2*i+1
  ·
   have h1z:(n:Int)≤2*(i:Int)+1:=by omega
   have HSt:Hid (HpN lk n):=zmG HDk.out (fun q h1 h2 h3=>by omega)
   clear h1
   go_wp2
   go_ret
   exact ⟨_,rfl,lk,HHk.out,HLk.out,HPk.out,HSt.out,HKk.out,HGk.out⟩
  ·
   have h1z:¬(n:Int)≤2*(i:Int)+1:=by omega
   have h0z:¬2*(i:Int)+1<0:=by omega
   by_cases h2:2*i+2<n
   ·
    have h2z:2*(i:Int)+1+1<(n:Int):=by omega
    have mL:=zfh HHk.out.cell
    have HL0:Hid (Calls Tryz.prog 216 #[.slice (some ⟨g,0,none⟩) N cp,.int .i64 (2*(i:Int)+1+1),.int .i64 (2*(i:Int)+1)] wr fun e w'=>e=.returned (.bool (decide (lk.getD (2*i+2) 0<lk.getD (2*i+1) 0)))∧Below wr.heap.size wr w'):=by
     have hL:=zjx B g cp N lk (2*i+2) (2*i+1) wr (HHk.out.rown HLk.out) HLk.out (by omega) (by omega)
     rw [show ((2*i+2:Nat):Int)=2*(i:Int)+1+1 by omega,show ((2*i+1:Nat):Int)=2*(i:Int)+1 by omega] at hL
     exact hL
    by_cases h3:lk.getD (2*i+2) 0<lk.getD (2*i+1) 0
    ·
     rw [decide_eq_true h3] at HL0
     have HMin:Hid (∀ q,0<q→q<n→(q-1) / 2=i→lk.getD (2*i+2) 0≤lk.getD q 0):=fun q q0 qn qp=>by
      rcases (show q=2*i+1∨q=2*i+2 by omega) with e | e<;>rw [e]<;>omega
     clear h3
     go_wp2_with fail
     refine HL0.out.mono ?_
     rintro e w1 ⟨rfl,hb1⟩
     have HH1:Hid (HpIn w1 B nb (.slice (some ⟨g,0,none⟩) N cp) lk):=HHk.out.below hb1
     have HG1:Hid (w.grownBy w1 (some g)):=HGk.out.trans ⟨hb1.os,hb1.tape,hb1.output,hb1.size,fun k hk _=>hb1.block k hk⟩
     clear hb1 mL HL0
     have mL2:=zfh HH1.out.cell
     have HL2:Hid (Calls Tryz.prog 216 #[.slice (some ⟨g,0,none⟩) N cp,.int .i64 (2*(i:Int)+1+1),.int .i64 (i:Int)] w1 fun e w'=>e=.returned (.bool (decide (lk.getD (2*i+2) 0<lk.getD i 0)))∧Below w1.heap.size w1 w'):=by
      have hL:=zjx B g cp N lk (2*i+2) i w1 (HH1.out.rown HLk.out) HLk.out (by omega) (by omega)
      rw [show ((2*i+2:Nat):Int)=2*(i:Int)+1+1 by omega] at hL
      exact hL
     by_cases hlt:lk.getD (2*i+2) 0<lk.getD i 0
     ·
      rw [decide_eq_true hlt] at HL2
      have HSt:Hid (HpDn (sw lk i (2*i+2)) (2*i+2) n):=zm0 HDk.out (by rw [HLk.out];omega) (by omega) (by omega) (by omega) HMin.out hlt
      clear hlt HMin
      go_wp2_with fail
      refine HL2.out.mono ?_
      rintro e w2 ⟨rfl,hb2⟩
      have HH2:Hid (HpIn w2 B nb (.slice (some ⟨g,0,none⟩) N cp) lk):=HH1.out.below hb2
      have mS:=zfg HH2.out.cell
      have HG2:Hid (w.grownBy w2 (some g)):=HG1.out.trans ⟨hb2.os,hb2.tape,hb2.output,hb2.size,fun k hk _=>hb2.block k hk⟩
      clear hb2 mL2 HL2
      go_wp2_with fail
      have HS1:Hid (Calls Tryz.prog 219 #[.slice (some ⟨g,0,none⟩) N cp,.int .i64 (i:Int),.int .i64 (2*(i:Int)+1+1)] w2 fun e w'=>e=.returned (.tuple #[])∧w'.ownsRow B 3 1 (.slice (some ⟨g,0,none⟩) N cp) N (natV (sw lk i (2*i+2)))∧w2.grownBy w' (some g)):=by
       have hS:=zjw B g cp N lk i (2*i+2) w2 (HH2.out.rown HLk.out) HLk.out (by omega) (by omega)
       rw [show ((2*i+2:Nat):Int)=2*(i:Int)+1+1 by omega] at hS
       exact hS
      refine HS1.out.mono ?_
      rintro e w3 ⟨rfl,ho3,hg3⟩
      have HH3:Hid (HpIn w3 B nb (.slice (some ⟨g,0,none⟩) N cp) (sw lk i (2*i+2))):=HH2.out.swapped ho3 (by rw [zdN];exact HLk.out) hg3
      have HG3:Hid (w.grownBy w3 (some g)):=HG2.out.trans hg3
      have HK3:Hid (∀ q,n≤q→(sw lk i (2*i+2)).getD q 0=l.getD q 0):=fun q hq=>by rw [zeU lk (by rw [HLk.out];omega) (by rw [HLk.out];omega),if_neg (by omega),if_neg (by omega)];exact HKk.out q hq
      clear ho3 hg3 HS1 mS
      go_wp2
      go_roundw
      case rel=>exact ⟨2*i+2,sw lk i (2*i+2),by go_num,by omega,HH3,by exact (by rw [zdN];exact HLk.out:(sw lk i (2*i+2)).length=N),HSt,(zgt lk (by rw [HLk.out];omega) (by rw [HLk.out];omega)).trans HPk.out,HK3,HG3⟩
      case measure=>simp [intOf];omega
     ·
      rw [decide_eq_false hlt] at HL2
      have HSt:Hid (HpN lk n):=zmG HDk.out (fun q h1 h2 h3=>by have:=HMin.out q h1 h2 h3;omega)
      clear hlt HMin
      go_wp2_with fail
      refine HL2.out.mono ?_
      rintro e w2 ⟨rfl,hb2⟩
      have HH2:Hid (HpIn w2 B nb (.slice (some ⟨g,0,none⟩) N cp) lk):=HH1.out.below hb2
      have HG2:Hid (w.grownBy w2 (some g)):=HG1.out.trans ⟨hb2.os,hb2.tape,hb2.output,hb2.size,fun k hk _=>hb2.block k hk⟩
      clear hb2 mL2 HL2
      go_wp2
      go_ret
      exact ⟨_,rfl,lk,HH2.out,HLk.out,HPk.out,HSt.out,HKk.out,HG2.out⟩
    ·
     rw [decide_eq_false h3] at HL0
     have HMin:Hid (∀ q,0<q→q<n→(q-1) / 2=i→lk.getD (2*i+1) 0≤lk.getD q 0):=fun q q0 qn qp=>by
      rcases (show q=2*i+1∨q=2*i+2 by omega) with e | e<;>rw [e]<;>omega
     clear h3
     go_wp2_with fail
     refine HL0.out.mono ?_
     rintro e w1 ⟨rfl,hb1⟩
     have HH1:Hid (HpIn w1 B nb (.slice (some ⟨g,0,none⟩) N cp) lk):=HHk.out.below hb1
     have HG1:Hid (w.grownBy w1 (some g)):=HGk.out.trans ⟨hb1.os,hb1.tape,hb1.output,hb1.size,fun k hk _=>hb1.block k hk⟩
     clear hb1 mL HL0
     have mL2:=zfh HH1.out.cell
     have HL2:Hid (Calls Tryz.prog 216 #[.slice (some ⟨g,0,none⟩) N cp,.int .i64 (2*(i:Int)+1),.int .i64 (i:Int)] w1 fun e w'=>e=.returned (.bool (decide (lk.getD (2*i+1) 0<lk.getD i 0)))∧Below w1.heap.size w1 w'):=by
      have hL:=zjx B g cp N lk (2*i+1) i w1 (HH1.out.rown HLk.out) HLk.out (by omega) (by omega)
      rw [show ((2*i+1:Nat):Int)=2*(i:Int)+1 by omega] at hL
      exact hL
     by_cases hlt:lk.getD (2*i+1) 0<lk.getD i 0
     ·
      rw [decide_eq_true hlt] at HL2
      have HSt:Hid (HpDn (sw lk i (2*i+1)) (2*i+1) n):=zm0 HDk.out (by rw [HLk.out];omega) (by omega) (by omega) (by omega) HMin.out hlt
      clear hlt HMin
      go_wp2_with fail
      refine HL2.out.mono ?_
      rintro e w2 ⟨rfl,hb2⟩
      have HH2:Hid (HpIn w2 B nb (.slice (some ⟨g,0,none⟩) N cp) lk):=HH1.out.below hb2
      have mS:=zfg HH2.out.cell
      have HG2:Hid (w.grownBy w2 (some g)):=HG1.out.trans ⟨hb2.os,hb2.tape,hb2.output,hb2.size,fun k hk _=>hb2.block k hk⟩
      clear hb2 mL2 HL2
      go_wp2_with fail
      have HS1:Hid (Calls Tryz.prog 219 #[.slice (some ⟨g,0,none⟩) N cp,.int .i64 (i:Int),.int .i64 (2*(i:Int)+1)] w2 fun e w'=>e=.returned (.tuple #[])∧w'.ownsRow B 3 1 (.slice (some ⟨g,0,none⟩) N cp) N (natV (sw lk i (2*i+1)))∧w2.grownBy w' (some g)):=by
       have hS:=zjw B g cp N lk i (2*i+1) w2 (HH2.out.rown HLk.out) HLk.out (by omega) (by omega)
       rw [show ((2*i+1:Nat):Int)=2*(i:Int)+1 by omega] at hS
       exact hS
      refine HS1.out.mono ?_
      rintro e w3 ⟨rfl,ho3,hg3⟩
      have HH3:Hid (HpIn w3 B nb (.slice (some ⟨g,0,none⟩) N cp) (sw lk i (2*i+1))):=HH2.out.swapped ho3 (by rw [zdN];exact HLk.out) hg3
      have HG3:Hid (w.grownBy w3 (some g)):=HG2.out.trans hg3
      have HK3:Hid (∀ q,n≤q→(sw lk i (2*i+1)).getD q 0=l.getD q 0):=fun q hq=>by rw [zeU lk (by rw [HLk.out];omega) (by rw [HLk.out];omega),if_neg (by omega),if_neg (by omega)];exact HKk.out q hq
      clear ho3 hg3 HS1 mS
      go_wp2
      go_roundw
      case rel=>exact ⟨2*i+1,sw lk i (2*i+1),by go_num,by omega,HH3,by exact (by rw [zdN];exact HLk.out:(sw lk i (2*i+1)).length=N),HSt,(zgt lk (by rw [HLk.out];omega) (by rw [HLk.out];omega)).trans HPk.out,HK3,HG3⟩
      case measure=>simp [intOf];omega
     ·
      rw [decide_eq_false hlt] at HL2
      have HSt:Hid (HpN lk n):=zmG HDk.out (fun q h1 h2 h3=>by have:=HMin.out q h1 h2 h3;omega)
      clear hlt HMin
      go_wp2_with fail
      refine HL2.out.mono ?_
      rintro e w2 ⟨rfl,hb2⟩
      have HH2:Hid (HpIn w2 B nb (.slice (some ⟨g,0,none⟩) N cp) lk):=HH1.out.below hb2
      have HG2:Hid (w.grownBy w2 (some g)):=HG1.out.trans ⟨hb2.os,hb2.tape,hb2.output,hb2.size,fun k hk _=>hb2.block k hk⟩
      clear hb2 mL2 HL2
      go_wp2
      go_ret
      exact ⟨_,rfl,lk,HH2.out,HLk.out,HPk.out,HSt.out,HKk.out,HG2.out⟩
   ·
    have h2z:¬2*(i:Int)+1+1<(n:Int):=by omega
    have HMin:Hid (∀ q,0<q→q<n→(q-1) / 2=i→lk.getD (2*i+1) 0≤lk.getD q 0):=fun q q0 qn qp=>by
     have e:q=2*i+1:=by omega
     rw [e];omega
    have mL2:=zfh HHk.out.cell
    have HL2:Hid (Calls Tryz.prog 216 #[.slice (some ⟨g,0,none⟩) N cp,.int .i64 (2*(i:Int)+1),.int .i64 (i:Int)] wr fun e w'=>e=.returned (.bool (decide (lk.getD (2*i+1) 0<lk.getD i 0)))∧Below wr.heap.size wr w'):=by
     have hL:=zjx B g cp N lk (2*i+1) i wr (HHk.out.rown HLk.out) HLk.out (by omega) (by omega)
     rw [show ((2*i+1:Nat):Int)=2*(i:Int)+1 by omega] at hL
     exact hL
    by_cases hlt:lk.getD (2*i+1) 0<lk.getD i 0
    ·
     rw [decide_eq_true hlt] at HL2
     have HSt:Hid (HpDn (sw lk i (2*i+1)) (2*i+1) n):=zm0 HDk.out (by rw [HLk.out];omega) (by omega) (by omega) (by omega) HMin.out hlt
     clear hlt HMin
     go_wp2_with fail
     refine HL2.out.mono ?_
     rintro e w2 ⟨rfl,hb2⟩
     have HH2:Hid (HpIn w2 B nb (.slice (some ⟨g,0,none⟩) N cp) lk):=HHk.out.below hb2
     have mS:=zfg HH2.out.cell
     have HG2:Hid (w.grownBy w2 (some g)):=HGk.out.trans ⟨hb2.os,hb2.tape,hb2.output,hb2.size,fun k hk _=>hb2.block k hk⟩
     clear hb2 mL2 HL2
     go_wp2_with fail
     have HS1:Hid (Calls Tryz.prog 219 #[.slice (some ⟨g,0,none⟩) N cp,.int .i64 (i:Int),.int .i64 (2*(i:Int)+1)] w2 fun e w'=>e=.returned (.tuple #[])∧w'.ownsRow B 3 1 (.slice (some ⟨g,0,none⟩) N cp) N (natV (sw lk i (2*i+1)))∧w2.grownBy w' (some g)):=by
      have hS:=zjw B g cp N lk i (2*i+1) w2 (HH2.out.rown HLk.out) HLk.out (by omega) (by omega)
      rw [show ((2*i+1:Nat):Int)=2*(i:Int)+1 by omega] at hS
      exact hS
     refine HS1.out.mono ?_
     rintro e w3 ⟨rfl,ho3,hg3⟩
     have HH3:Hid (HpIn w3 B nb (.slice (some ⟨g,0,none⟩) N cp) (sw lk i (2*i+1))):=HH2.out.swapped ho3 (by rw [zdN];exact HLk.out) hg3
     have HG3:Hid (w.grownBy w3 (some g)):=HG2.out.trans hg3
     have HK3:Hid (∀ q,n≤q→(sw lk i (2*i+1)).getD q 0=l.getD q 0):=fun q hq=>by rw [zeU lk (by rw [HLk.out];omega) (by rw [HLk.out];omega),if_neg (by omega),if_neg (by omega)];exact HKk.out q hq
     clear ho3 hg3 HS1 mS
     go_wp2
     go_roundw
     case rel=>exact ⟨2*i+1,sw lk i (2*i+1),by go_num,by omega,HH3,by exact (by rw [zdN];exact HLk.out:(sw lk i (2*i+1)).length=N),HSt,(zgt lk (by rw [HLk.out];omega) (by rw [HLk.out];omega)).trans HPk.out,HK3,HG3⟩
     case measure=>simp [intOf];omega
    ·
     rw [decide_eq_false hlt] at HL2
     have HSt:Hid (HpN lk n):=zmG HDk.out (fun q h1 h2 h3=>by have:=HMin.out q h1 h2 h3;omega)
     clear hlt HMin
     go_wp2_with fail
     refine HL2.out.mono ?_
     rintro e w2 ⟨rfl,hb2⟩
     have HH2:Hid (HpIn w2 B nb (.slice (some ⟨g,0,none⟩) N cp) lk):=HHk.out.below hb2
     have HG2:Hid (w.grownBy w2 (some g)):=HGk.out.trans ⟨hb2.os,hb2.tape,hb2.output,hb2.size,fun k hk _=>hb2.block k hk⟩
     clear hb2 mL2 HL2
     go_wp2
     go_ret
     exact ⟨_,rfl,lk,HH2.out,HLk.out,HPk.out,HSt.out,HKk.out,HG2.out⟩
theorem zb0.next {a b c:World} {S:Nat→Prop} {g:Nat} (h:zb0 a b S) (k:b.grownBy c (some g)) (hg:S g∨a.heap.size≤g):zb0 a c S :=
 ⟨k.os.trans h.os,k.tape.trans h.tape,k.output.trans h.output,Nat.le_trans h.size k.size,fun i hi hs=>(k.block i (Nat.lt_of_lt_of_le hi h.size) (fun e=>by
  injection e with e
  subst e
  rcases hg with hg | hg
  ·
   exact hs hg
  ·
   omega)).trans (h.block i hi hs)⟩
set_option maxHeartbeats 2000000 in
set_option maxRecDepth 100000 in
theorem upPop (B nb g n cp:Nat) (l:List Nat) (w:World) (h:HpIn w B nb (.slice (some ⟨g,0,none⟩) (n+1) cp) l) (hn:l.length=n+1) (hbig:n≤1000) :
 Calls Tryz.prog 217 #[.pointer (some ⟨nb,0,none⟩)] w fun e w'=>e=.returned (.iface 3 (.int .i64 ((l.getD n 0:Nat):Int)))∧HpIn w' B nb (.slice (some ⟨g,0,none⟩) n cp) (l.take n)∧w.grownBy w' (some nb):=by
 have c0:=h.cell
 have f0:=h.box.frozenAt 0
 have hrow:=h.rown hn
 have c1:=zbS hrow hn n (by omega)
 have hcap:=zle hrow
 have hcp:(n:Int)≤(cp:Int):=by omega
 obtain ⟨hst,hgs⟩:=h.box.stored 0 (.slice (some ⟨g,0,none⟩) n cp)
 have hrow2:=own_take hrow n (by omega)
 rw [zoP] at hrow2
 have HE:Hid (HpIn (w.setCell ⟨nb,0,none⟩ (.slice (some ⟨g,0,none⟩) n cp)) B nb (.slice (some ⟨g,0,none⟩) n cp) (l.take n)):=⟨hst,by
  have:=hrow2.kept hgs (Or.inr (fun e=>h.ne e))
  rw [List.length_take,hn,show min n (n+1)=n by omega]
  exact this⟩
 have HG:Hid (w.grownBy (w.setCell ⟨nb,0,none⟩ (.slice (some ⟨g,0,none⟩) n cp)) (some nb)):=hgs
 obtain ⟨x,hx⟩:∃ x,l.getD n 0=x:=⟨_,rfl⟩
 rw [hx] at c1 ⊢
 clear h hrow hst hgs hrow2 hx hn hcap
 go_enter Tryz.func217,Tryz.ntmps217
 go_wp2
 go_ret
 exact ⟨rfl,HE.out,HG.out⟩
set_option maxHeartbeats 2000000 in
set_option maxRecDepth 100000 in
theorem zmB (B nb:Nat) (v:Value) (l:List Nat) (x:Nat) (w:World) (h:HpIn w B nb v l) (hp:HpN l l.length) (hl:l.length≤100) :
 Calls Tryz.prog 135 #[.iface 168 (.pointer (some ⟨nb,0,none⟩)),.iface 3 (.int .i64 (x:Int))] w fun e w'=>e=.returned (.tuple #[])∧∃ v' l',HpIn w' B nb v' l'∧HpN l' l'.length∧l'.Perm (x :: l)∧zb0 w w' (fun k=>k=nb∨v.ownBlock=some k)∧zpY w v v':=by
 have HH:Hid (HpIn w B nb v l):=h
 have HP:Hid (HpN l l.length):=hp
 have mP:=findPush (w:=w) (nb:=nb)
 clear h hp
 go_enter Tryz.func135,Tryz.ntmps135
 go_wp2_with fail
 refine (upPush B nb v l x w HH.out (by omega)).mono ?_
 rintro e w1 ⟨rfl,v1,h1,hw1,hn1⟩
 have hlen:(l++[x]).length=l.length+1:=by simp
 obtain ⟨g,c,rfl⟩:=zaw (h1.rown hlen) (by omega)
 have HH1:Hid (HpIn w1 B nb (.slice (some ⟨g,0,none⟩) (l.length+1) c) (l++[x])):=h1
 have HW1:Hid (zb0 w w1 (fun k=>k=nb∨v.ownBlock=some k)):=hw1
 have HN1:Hid (zpY w v (.slice (some ⟨g,0,none⟩) (l.length+1) c)):=hn1
 have HL1:Hid ((l++[x]).length=l.length+1):=hlen
 have mN:=zpp h1.cell
 clear h1 hw1 hn1 hlen mP
 go_wp2_with (go_at_call 136;refine (upLen _ _ _ _).mono ?_;rintro e w2 ⟨rfl,hw2⟩;obtain rfl:=hw2.symm)
 refine (heapUp B nb g (l.length+1) c (l++[x]) l.length w1 HH1.out HL1.out (by omega) (up_start HP.out x) (by omega)).mono ?_
 rintro e w3 ⟨rfl,l3,h3,hl3,hp3,hn3,hg3⟩
 have HE:Hid (HpIn w3 B nb (.slice (some ⟨g,0,none⟩) (l.length+1) c) l3∧HpN l3 l3.length∧l3.Perm (x :: l)∧zb0 w w3 (fun k=>k=nb∨v.ownBlock=some k)):=⟨h3,by rw [hl3];exact hn3,hp3.trans (by simp),HW1.out.next hg3 (by
  rcases HN1.out g rfl with e | e
  ·
   exact Or.inl (Or.inr e)
  ·
   exact Or.inr e)⟩
 clear h3 hl3 hp3 hn3 hg3 mN
 go_wp2
 go_end0
 exact ⟨rfl,_,l3,HE.out.1,HE.out.2.1,HE.out.2.2.1,HE.out.2.2.2,HN1.out⟩
set_option maxHeartbeats 2000000 in
set_option maxRecDepth 100000 in
theorem heapPop (B nb g n cp:Nat) (l:List Nat) (w:World) (h:HpIn w B nb (.slice (some ⟨g,0,none⟩) (n+1) cp) l) (hn:l.length=n+1) (hp:HpN l l.length) (hbig:n≤900) :
 Calls Tryz.prog 160 #[.iface 168 (.pointer (some ⟨nb,0,none⟩))] w fun e w'=>e=.returned (.iface 3 (.int .i64 ((l.getD 0 0:Nat):Int)))∧∃ l',HpIn w' B nb (.slice (some ⟨g,0,none⟩) n cp) l'∧HpN l' l'.length∧l'.length=n∧(l.getD 0 0 :: l').Perm l∧(∀ y∈l,l.getD 0 0≤y)∧zb0 w w' (fun k=>k=nb∨k=g):=by
 have HH:Hid (HpIn w B nb (.slice (some ⟨g,0,none⟩) (n+1) cp) l):=h
 have HP:Hid (HpN l l.length):=hp
 have HL:Hid (l.length=n+1):=hn
 have mN:=zpp h.cell
 have mS:=zfg h.cell
 clear h hp hn
 go_enter Tryz.func160,Tryz.ntmps160
 go_wp2_with (go_at_call 136;refine (upLen _ _ _ _).mono ?_;rintro e w2 ⟨rfl,hw2⟩;obtain rfl:=hw2.symm)
 have hS:=zjw B g cp (n+1) l 0 n w (HH.out.rown HL.out) HL.out (by omega) (by omega)
 refine hS.mono ?_
 rintro e w1 ⟨rfl,ho1,hg1⟩
 have HH1:Hid (HpIn w1 B nb (.slice (some ⟨g,0,none⟩) (n+1) cp) (sw l 0 n)):=HH.out.swapped ho1 (by rw [zdN];exact HL.out) hg1
 have HG1:Hid (w.grownBy w1 (some g)):=hg1
 have HL1:Hid ((sw l 0 n).length=n+1):=by exact (by rw [zdN];exact HL.out:(sw l 0 n).length=n+1)
 clear ho1 hg1 hS mS mN
 go_wp2_with fail
 refine (heapDown B nb g (n+1) n cp (sw l 0 n) w1 HH1.out HL1.out rfl (dn_start HP.out HL.out) (by omega)).mono ?_
 rintro e w2 ⟨bb,rfl,l2,h2,hl2,hp2,hn2,hk2,hg2⟩
 have HH2:Hid (HpIn w2 B nb (.slice (some ⟨g,0,none⟩) (n+1) cp) l2):=h2
 have HL2:Hid (l2.length=n+1):=hl2
 have HG2:Hid (w.grownBy w2 (some g)):=HG1.out.trans hg2
 have hla:l2.getD n 0=l.getD 0 0:=by rw [hk2 n (Nat.le_refl _),zeU l (by rw [HL.out];omega) (by rw [HL.out];omega),if_pos rfl]
 have hpp:=hp_pop HL.out HP.out (hp2.trans (zgt l (by rw [HL.out];omega) (by rw [HL.out];omega))) hla
 have HE:Hid (HpN (l2.take n) (l2.take n).length∧(l2.take n).length=n∧(l.getD 0 0 :: l2.take n).Perm l∧(∀ y∈l,l.getD 0 0≤y)):=⟨hp_take hn2 (by omega),by rw [List.length_take];omega,hpp.1,hpp.2⟩
 have HLa:Hid (l2.getD n 0=l.getD 0 0):=hla
 have mP:=findPop (w:=w2) (nb:=nb)
 clear h2 hl2 hp2 hn2 hk2 hg2 hla hpp
 go_wp2_with fail
 refine (upPop B nb g n cp l2 w2 HH2.out HL2.out (by omega)).mono ?_
 rintro e w3 ⟨rfl,h3,hg3⟩
 rw [HLa.out]
 have HF:Hid (HpIn w3 B nb (.slice (some ⟨g,0,none⟩) n cp) (l2.take n)∧zb0 w w3 (fun k=>k=nb∨k=g)):=⟨h3,(zb0.of_grown HG2.out (fun k e=>by injection e with e;exact Or.inr e.symm)).next hg3 (Or.inl (Or.inl rfl))⟩
 clear h3 hg3 mP
 go_wp2
 go_ret
 exact ⟨rfl,l2.take n,HF.out.1,HE.out.1,HE.out.2.1,HE.out.2.2.1,HE.out.2.2.2,HF.out.2⟩
set_option maxHeartbeats 2000000 in
set_option maxRecDepth 100000 in
theorem ziY (B nb g n cp:Nat) (l:List Nat) (w:World) (h:HpIn w B nb (.slice (some ⟨g,0,none⟩) (n+1) cp) l) (hn:l.length=n+1) (hp:HpN l l.length) (hbig:n≤900) :
 Calls Tryz.prog 137 #[.pointer (some ⟨nb,0,none⟩)] w fun e w'=>e=.returned (.int .i64 ((l.getD 0 0:Nat):Int))∧∃ l',HpIn w' B nb (.slice (some ⟨g,0,none⟩) n cp) l'∧HpN l' l'.length∧l'.length=n∧(l.getD 0 0 :: l').Perm l∧(∀ y∈l,l.getD 0 0≤y)∧zb0 w w' (fun k=>k=nb∨k=g):=by
 have hP:=heapPop B nb g n cp l w h hn hp hbig
 obtain ⟨x,hx⟩:∃ x,l.getD 0 0=x:=⟨_,rfl⟩
 rw [hx] at hP ⊢
 have hta:∀ W:World,(Instr.typeAssert (.iface 3 (.int .i64 (x:Int))) 20 3 false).run Tryz.prog W=.ok (.int .i64 (x:Int)) W:=asInt x
 clear h hn hp hx
 go_enter Tryz.func137,Tryz.ntmps137
 go_wp2_with fail
 refine hP.mono ?_
 rintro e w1 ⟨rfl,hE⟩
 have HE:Hid (_):=hE
 clear hE hP
 go_wp2
 go_ret
 exact ⟨rfl,HE.out⟩
def lenS8:Value→Nat
 | .slice _ n _=>n
 | _=>0
theorem zoT (n:Nat):(madeCells (Value.int .i64 0).cells n).toList=natV (List.replicate n 0):=by
 apply List.ext_getElem
 ·
  simp [madeCells,natV]
 ·
  intro i h1 h2
  simp [madeCells,natV,Value.cells,Nat.mod_one]
structure Po8 (X:World) (B wb nb n:Nat) (hv ov:Value) (ws hl out:List Nat):Prop where
 hp:HpIn X B nb hv hl
 hn:HpN hl hl.length
 ow:X.ownsRow B 3 1 (.slice (some ⟨wb,0,none⟩) n n) n (natV ws)
 wl:ws.length=n
 nw:hv.ownBlock≠some wb
 oo:X.ownsRow B 3 1 ov out.length (natV out)
 n1:ov.ownBlock≠some wb
 n2:∀ k,ov.ownBlock=some k→hv.ownBlock≠some k
section
variable {X Y:World} {B wb nb n:Nat} {hv ov:Value} {ws hl out:List Nat}
theorem Po8.wn (s:Po8 X B wb nb n hv ov ws hl out):wb≠nb:=by
 rcases zak s.ow s.hp.box (by decide) with e | e
 ·
  cases e
 ·
  exact fun e2=>e (by rw [e2];rfl)
theorem Po8.on (s:Po8 X B wb nb n hv ov ws hl out):ov.ownBlock≠some nb:=by
 rcases zak s.oo s.hp.box (by decide) with e | e
 ·
  rw [e];simp
 ·
  exact fun e2=>e (by rw [e2];rfl)
theorem Po8.below (s:Po8 X B wb nb n hv ov ws hl out) (hb:Below X.heap.size X Y):Po8 Y B wb nb n hv ov ws hl out :=
 ⟨s.hp.below hb,s.hn,za6 s.ow hb,s.wl,s.nw,za6 s.oo hb,s.n1,s.n2⟩
theorem Po8.setw (s:Po8 X B wb nb n hv ov ws hl out) (hB:B≤X.heap.size) (i x:Nat):Po8 (X.setCell ⟨wb,i,none⟩ (.int .i64 (x:Int))) B wb nb n hv ov (ws.set i x) hl out∧Below B X (X.setCell ⟨wb,i,none⟩ (.int .i64 (x:Int))):=by
 obtain ⟨h1,hg⟩:=s.ow.stored i (.int .i64 (x:Int))
 rw [zgh] at h1
 have hw:zb0 X (X.setCell ⟨wb,i,none⟩ (.int .i64 (x:Int))) (fun k=>k=wb):=zb0.of_grown hg (fun k e=>by injection e with e;exact e.symm)
 refine ⟨⟨s.hp.wrote hw s.wn.symm (fun k e e2=>s.nw (by rw [e,e2])),s.hn,h1,by rw [List.length_set];exact s.wl,s.nw,zbz s.oo hw (fun k e e2=>s.n1 (by rw [e,e2])),s.n1,s.n2⟩,hw.below hB (fun k e=>by rw [e];exact (s.ow.lt wb rfl).1)⟩
theorem Po8.push (s:Po8 X B wb nb n hv ov ws hl out) (hB:B≤X.heap.size) {v':Value} {l':List Nat} (h1:HpIn Y B nb v' l') (h2:HpN l' l'.length) (hw:zb0 X Y (fun k=>k=nb∨hv.ownBlock=some k)) (hn:zpY X hv v') :
 Po8 Y B wb nb n v' ov ws l' out∧Below B X Y:=by
 have hwl:=(s.ow.lt wb rfl).2
 refine ⟨⟨h1,h2,zbz s.ow hw (fun k e e2=>?_),s.wl,fun e=>?_,zbz s.oo hw (fun k e e2=>?_),s.n1,fun k e e2=>?_⟩,hw.below hB (fun k e=>?_)⟩
 ·
  injection e with e
  subst e
  rcases e2 with e2 | e2
  ·
   exact s.wn e2
  ·
   exact s.nw e2
 ·
  rcases hn wb e with e | e
  ·
   exact s.nw e
  ·
   omega
 ·
  rcases e2 with e2 | e2
  ·
   exact s.on (by rw [e,e2])
  ·
   exact s.n2 k e e2
 ·
  rcases hn k e2 with e2 | e2
  ·
   exact s.n2 k e e2
  ·
   have:=(s.oo.lt k e).2;omega
 ·
  rcases e with e | e
  ·
   rw [e];exact s.hp.lt.1
  ·
   exact (s.hp.row.lt k e).1
theorem Po8.app (s:Po8 X B wb nb n hv ov ws hl out) (hB:B≤X.heap.size) (hl8:out.length≤1000) (x:Nat) :
 ∃ g' c' Y,(Builtin.append_ #[134,134] 134 #[ov,.slice (some ⟨X.heap.size,0,none⟩) 1 1]).run Tryz.prog (X.alloc (.cells #[.int .i64 (x:Int)] 3))=.ok (.slice (some ⟨g',0,none⟩) (out.length+1) c') Y ∧
  Po8 Y B wb nb n hv (.slice (some ⟨g',0,none⟩) (out.length+1) c') ws hl (out++[x])∧Below B X Y:=by
 obtain ⟨v',Y,hr,ho,hg,hat⟩:=zeY 134 Tryz.underlying134 x s.oo hB (by omega)
 obtain ⟨g',c',rfl⟩:=zaw ho (by omega)
 have hwl:=(s.ow.lt wb rfl).2
 have hw:zb0 X Y (fun k=>ov.ownBlock=some k):=zb0.of_grown hg (fun k e=>e)
 refine ⟨g',c',Y,hr,⟨s.hp.wrote hw s.on (fun k e e2=>s.n2 k e2 e),s.hn,zbz s.ow hw (fun k e e2=>?_),s.wl,s.nw,by rw [List.length_append,List.length_singleton];exact ho,fun e=>?_,fun k e e2=>?_⟩,hw.below hB (fun k e=>(s.oo.lt k e).1)⟩
 ·
  injection e with e
  subst e
  exact s.n1 e2
 ·
  rcases hat with h | h
  ·
   exact s.n1 (by rw [←h];exact e)
  ·
   rw [h] at e;injection e with e;omega
 ·
  rcases hat with h | h
  ·
   exact s.n2 k (by rw [←h];exact e) e2
  ·
   rw [h] at e;injection e with e
   have:=(s.hp.row.lt k e2).2
   omega
theorem Po8.newo (s:Po8 X B wb nb n hv (.slice none 0 0) ws hl []) (hB:B≤X.heap.size):Po8 (X.alloc (.cells #[] 3)) B wb nb n hv (.slice (some ⟨X.heap.size,0,none⟩) 0 0) ws hl []:=by
 have hb:Below X.heap.size X (X.alloc (.cells #[] 3)):=(Below.refl _ _).alloc (Nat.le_refl _) _
 have s2:=s.below hb
 refine ⟨s2.hp,s2.hn,s2.ow,s2.wl,s2.nw,World.ownsRow_lit (base:=B) (e:=3) (size:=1) X #[] 0 hB (by decide) rfl,fun e=>?_,fun k e e2=>?_⟩
 ·
  injection e with e
  have e3:X.heap.size=wb:=e
  have:=(s.ow.lt wb rfl).2
  omega
 ·
  injection e with e
  have e3:X.heap.size=k:=e
  have:=(s.hp.row.lt k e2).2
  omega
end
theorem zoq (w:World) (n:Nat) (hn:n≤1000):Po8 (((w.alloc (.cells (madeCells (Value.int .i64 0).cells n) 3)).alloc (.cells #[] 3)).alloc (.cells #[.slice (some ⟨w.heap.size+1,0,none⟩) 0 0] 169)) w.heap.size w.heap.size (w.heap.size+2) n (.slice (some ⟨w.heap.size+1,0,none⟩) 0 0) (.slice none 0 0) (List.replicate n 0) [] []:=by
 obtain ⟨W1,hW1⟩:∃ W1,w.alloc (.cells (madeCells (Value.int .i64 0).cells n) 3)=W1:=⟨_,rfl⟩
 have h1:=World.ownsRow_lit (base:=w.heap.size) (e:=3) (size:=1) w (madeCells (Value.int .i64 0).cells n) n (Nat.le_refl _) (by unfold maxLen;omega) (by rw [size_madeCells];omega)
 rw [zoT,hW1] at h1
 have s1:W1.heap.size=w.heap.size+1:=by rw [←hW1];simp
 have h2:=World.ownsRow_lit (base:=w.heap.size) (e:=3) (size:=1) W1 #[] 0 (by omega) (by decide) rfl
 rw [hW1]
 obtain ⟨W2,hW2⟩:∃ W2,W1.alloc (.cells #[] 3)=W2:=⟨_,rfl⟩
 have h1b:W2.ownsRow w.heap.size 3 1 (.slice (some ⟨w.heap.size,0,none⟩) n n) n (natV (List.replicate n 0)):=by rw [←hW2];exact h1.alloc _
 rw [hW2] at h2 ⊢
 have s2:W2.heap.size=w.heap.size+2:=by rw [←hW2];simp;omega
 rw [s1] at h2
 have h3:=World.ownsRow_lit (base:=w.heap.size) (e:=169) (size:=1) W2 #[.slice (some ⟨w.heap.size+1,0,none⟩) 0 0] 1 (by omega) (by decide) rfl
 rw [s2] at h3
 exact ⟨⟨h3,h2.alloc _⟩,(fun k h1 h2=>by simp at h2),h1b.alloc _,List.length_replicate,(fun e=>by injection e with e;have e2:w.heap.size+1=w.heap.size:=e;omega),World.ownsRow_nil _ _ _ _,(fun e=>by cases e),(fun k e=>by cases e)⟩
end Go.Proofs.YtdbljnddkbpanaaGreatDoor
