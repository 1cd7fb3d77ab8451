/-
  Parts of one proof, one behind the other: HeapK, HeapP, OrdI, OrdJ.
-/
import Derived.Test.YtponeoijfaepnaaGreatDoorP35
namespace Go.Proofs.YtponeoijfaepnaaGreatDoor
open Go.RowKit
set_option maxHeartbeats 8000000
set_option maxRecDepth 100000
theorem heapDown (B nb g N n cp:Nat) (l:List Nat) (w:World) (h:HpIn w B nb (.slice (some ⟨g,0,none⟩) N cp) l) (hN:l.length=N) (hn:n+1=N) (hdn:HpDn l 0 n) (hbig:N≤1000) :
 Calls Tryz.prog 197 #[.iface 197 (.pointer (some ⟨nb,0,none⟩)),.int .i64 0,.int .i64 (n:Int)] w fun e w'=>∃ bb:Bool,e=.returned (.bool bb)∧∃ l',HpIn w' B nb (.slice (some ⟨g,0,none⟩) N cp) l'∧l'.length=N∧l'.Perm l∧HpN l' n∧(∀ q,n≤q→l'.getD q 0=l.getD q 0)∧w.grownBy w' (some g):=by
 have HH:Hid (HpIn w B nb (.slice (some ⟨g,0,none⟩) N cp) l):=h;have HL:Hid (l.length=N):=hN;have HD:Hid (HpDn l 0 n):=hdn;clear h hN hdn
 go_enter Tryz.func197,Tryz.ntmps197
 go_wp2
 go_loopw [7,8,9,10] (fun iv _ _ _ wr=>∃ (i:Nat) (lk:List Nat),iv=.int .i64 (i:Int)∧i<N∧Hid (HpIn wr B nb (.slice (some ⟨g,0,none⟩) N cp) lk)∧Hid (lk.length=N)∧Hid (HpDn lk i n)∧Hid (lk.Perm l)∧Hid (∀ q,n≤q→lk.getD q 0=l.getD q 0)∧Hid (w.grownBy wr (some g))) (fun iv _ _ _ _=>N-(intOf iv).toNat)
 case atStart=>exact ⟨0,l,rfl,by omega,HH,HL,HD,List.Perm.refl _,(fun _ _=>rfl),World.grownBy.refl _ _⟩
 case round =>
  obtain ⟨i,lk,rfl,hi,HHk,HLk,HDk,HPk,HKk,HGk⟩:=hrel;by_cases h1:n≤2*i+1
  ·
   have h1z:(n:Int)≤2*(i:Int)+1:=by omega
   have HSt:Hid (HpN lk n):=zma HDk.out (fun q h1 h2 h3=>by omega);clear h1;go_wp2;go_ret;exact ⟨_,rfl,lk,HHk.out,HLk.out,HPk.out,HSt.out,HKk.out,HGk.out⟩
  ·
   have h1z:¬(n:Int)≤2*(i:Int)+1:=by omega
   have h0z:¬2*(i:Int)+1<0:=by omega
   by_cases h2:2*i+2<n
   ·
    have h2z:2*(i:Int)+1+1<(n:Int):=by omega
    have mL:=zfb HHk.out.cell
    have HL0:Hid (Calls Tryz.prog 235 #[.slice (some ⟨g,0,none⟩) N cp,.int .i64 (2*(i:Int)+1+1),.int .i64 (2*(i:Int)+1)] wr fun e w'=>e=.returned (.bool (decide (lk.getD (2*i+2) 0<lk.getD (2*i+1) 0)))∧Below wr.heap.size wr w'):=by have hL:=ziW B g cp N lk (2*i+2) (2*i+1) wr (HHk.out.rown HLk.out) HLk.out (by omega) (by omega);rw [show ((2*i+2:Nat):Int)=2*(i:Int)+1+1 by omega,show ((2*i+1:Nat):Int)=2*(i:Int)+1 by omega] at hL;exact hL
    by_cases h3:lk.getD (2*i+2) 0<lk.getD (2*i+1) 0
    ·
     rw [decide_eq_true h3] at HL0
     have HMin:Hid (∀ q,0<q→q<n→(q-1) / 2=i→lk.getD (2*i+2) 0≤lk.getD q 0):=fun q q0 qn qp=>by
      rcases (show q=2*i+1∨q=2*i+2 by omega) with e | e<;>rw [e]<;>omega
     clear h3;go_wp2_with fail
     refine HL0.out.mono ?_;rintro e w1 ⟨rfl,hb1⟩;have HH1:Hid (HpIn w1 B nb (.slice (some ⟨g,0,none⟩) N cp) lk):=HHk.out.below hb1;have HG1:Hid (w.grownBy w1 (some g)):=HGk.out.trans ⟨hb1.os,hb1.tape,hb1.output,hb1.size,fun k hk _=>hb1.block k hk⟩;clear hb1 mL HL0;have mL2:=zfb HH1.out.cell
     have HL2:Hid (Calls Tryz.prog 235 #[.slice (some ⟨g,0,none⟩) N cp,.int .i64 (2*(i:Int)+1+1),.int .i64 (i:Int)] w1 fun e w'=>e=.returned (.bool (decide (lk.getD (2*i+2) 0<lk.getD i 0)))∧Below w1.heap.size w1 w'):=by have hL:=ziW B g cp N lk (2*i+2) i w1 (HH1.out.rown HLk.out) HLk.out (by omega) (by omega);rw [show ((2*i+2:Nat):Int)=2*(i:Int)+1+1 by omega] at hL;exact hL
     by_cases hlt:lk.getD (2*i+2) 0<lk.getD i 0
     ·
      rw [decide_eq_true hlt] at HL2;have HSt:Hid (HpDn (sw lk i (2*i+2)) (2*i+2) n):=zlq HDk.out (by rw [HLk.out];omega) (by omega) (by omega) (by omega) HMin.out hlt;clear hlt HMin;go_wp2_with fail
      refine HL2.out.mono ?_;rintro e w2 ⟨rfl,hb2⟩;have HH2:Hid (HpIn w2 B nb (.slice (some ⟨g,0,none⟩) N cp) lk):=HH1.out.below hb2;have mS:=zfa HH2.out.cell;have HG2:Hid (w.grownBy w2 (some g)):=HG1.out.trans ⟨hb2.os,hb2.tape,hb2.output,hb2.size,fun k hk _=>hb2.block k hk⟩;clear hb2 mL2 HL2;go_wp2_with fail
      have HS1:Hid (Calls Tryz.prog 238 #[.slice (some ⟨g,0,none⟩) N cp,.int .i64 (i:Int),.int .i64 (2*(i:Int)+1+1)] w2 fun e w'=>e=.returned (.tuple #[])∧w'.ownsRow B 3 1 (.slice (some ⟨g,0,none⟩) N cp) N (natV (sw lk i (2*i+2)))∧w2.grownBy w' (some g)):=by have hS:=ziV B g cp N lk i (2*i+2) w2 (HH2.out.rown HLk.out) HLk.out (by omega) (by omega);rw [show ((2*i+2:Nat):Int)=2*(i:Int)+1+1 by omega] at hS;exact hS
      refine HS1.out.mono ?_;rintro e w3 ⟨rfl,ho3,hg3⟩;have HH3:Hid (HpIn w3 B nb (.slice (some ⟨g,0,none⟩) N cp) (sw lk i (2*i+2))):=HH2.out.swapped ho3 (by rw [zdD];exact HLk.out) hg3;have HG3:Hid (w.grownBy w3 (some g)):=HG2.out.trans hg3;have HK3:Hid (∀ q,n≤q→(sw lk i (2*i+2)).getD q 0=l.getD q 0):=fun q hq=>by rw [zeF lk (by rw [HLk.out];omega) (by rw [HLk.out];omega),if_neg (by omega),if_neg (by omega)];exact HKk.out q hq
      clear ho3 hg3 HS1 mS;go_wp2;go_roundw
      case rel=>exact ⟨2*i+2,sw lk i (2*i+2),by go_num,by omega,HH3,by exact (by rw [zdD];exact HLk.out:(sw lk i (2*i+2)).length=N),HSt,(zgk lk (by rw [HLk.out];omega) (by rw [HLk.out];omega)).trans HPk.out,HK3,HG3⟩
      case measure=>simp [intOf];omega
     ·
      rw [decide_eq_false hlt] at HL2;have HSt:Hid (HpN lk n):=zma HDk.out (fun q h1 h2 h3=>by have:=HMin.out q h1 h2 h3;omega);clear hlt HMin;go_wp2_with fail
      refine HL2.out.mono ?_;rintro e w2 ⟨rfl,hb2⟩;have HH2:Hid (HpIn w2 B nb (.slice (some ⟨g,0,none⟩) N cp) lk):=HH1.out.below hb2;have HG2:Hid (w.grownBy w2 (some g)):=HG1.out.trans ⟨hb2.os,hb2.tape,hb2.output,hb2.size,fun k hk _=>hb2.block k hk⟩;clear hb2 mL2 HL2;go_wp2;go_ret;exact ⟨_,rfl,lk,HH2.out,HLk.out,HPk.out,HSt.out,HKk.out,HG2.out⟩
    ·
     rw [decide_eq_false h3] at HL0
     have HMin:Hid (∀ q,0<q→q<n→(q-1) / 2=i→lk.getD (2*i+1) 0≤lk.getD q 0):=fun q q0 qn qp=>by
      rcases (show q=2*i+1∨q=2*i+2 by omega) with e | e<;>rw [e]<;>omega
     clear h3;go_wp2_with fail
     refine HL0.out.mono ?_;rintro e w1 ⟨rfl,hb1⟩;have HH1:Hid (HpIn w1 B nb (.slice (some ⟨g,0,none⟩) N cp) lk):=HHk.out.below hb1;have HG1:Hid (w.grownBy w1 (some g)):=HGk.out.trans ⟨hb1.os,hb1.tape,hb1.output,hb1.size,fun k hk _=>hb1.block k hk⟩;clear hb1 mL HL0;have mL2:=zfb HH1.out.cell
     have HL2:Hid (Calls Tryz.prog 235 #[.slice (some ⟨g,0,none⟩) N cp,.int .i64 (2*(i:Int)+1),.int .i64 (i:Int)] w1 fun e w'=>e=.returned (.bool (decide (lk.getD (2*i+1) 0<lk.getD i 0)))∧Below w1.heap.size w1 w'):=by have hL:=ziW B g cp N lk (2*i+1) i w1 (HH1.out.rown HLk.out) HLk.out (by omega) (by omega);rw [show ((2*i+1:Nat):Int)=2*(i:Int)+1 by omega] at hL;exact hL
     by_cases hlt:lk.getD (2*i+1) 0<lk.getD i 0
     ·
      rw [decide_eq_true hlt] at HL2;have HSt:Hid (HpDn (sw lk i (2*i+1)) (2*i+1) n):=zlq HDk.out (by rw [HLk.out];omega) (by omega) (by omega) (by omega) HMin.out hlt;clear hlt HMin;go_wp2_with fail
      refine HL2.out.mono ?_;rintro e w2 ⟨rfl,hb2⟩;have HH2:Hid (HpIn w2 B nb (.slice (some ⟨g,0,none⟩) N cp) lk):=HH1.out.below hb2;have mS:=zfa HH2.out.cell;have HG2:Hid (w.grownBy w2 (some g)):=HG1.out.trans ⟨hb2.os,hb2.tape,hb2.output,hb2.size,fun k hk _=>hb2.block k hk⟩;clear hb2 mL2 HL2;go_wp2_with fail
      have HS1:Hid (Calls Tryz.prog 238 #[.slice (some ⟨g,0,none⟩) N cp,.int .i64 (i:Int),.int .i64 (2*(i:Int)+1)] w2 fun e w'=>e=.returned (.tuple #[])∧w'.ownsRow B 3 1 (.slice (some ⟨g,0,none⟩) N cp) N (natV (sw lk i (2*i+1)))∧w2.grownBy w' (some g)):=by have hS:=ziV B g cp N lk i (2*i+1) w2 (HH2.out.rown HLk.out) HLk.out (by omega) (by omega);rw [show ((2*i+1:Nat):Int)=2*(i:Int)+1 by omega] at hS;exact hS
      refine HS1.out.mono ?_;rintro e w3 ⟨rfl,ho3,hg3⟩;have HH3:Hid (HpIn w3 B nb (.slice (some ⟨g,0,none⟩) N cp) (sw lk i (2*i+1))):=HH2.out.swapped ho3 (by rw [zdD];exact HLk.out) hg3;have HG3:Hid (w.grownBy w3 (some g)):=HG2.out.trans hg3;have HK3:Hid (∀ q,n≤q→(sw lk i (2*i+1)).getD q 0=l.getD q 0):=fun q hq=>by rw [zeF lk (by rw [HLk.out];omega) (by rw [HLk.out];omega),if_neg (by omega),if_neg (by omega)];exact HKk.out q hq
      clear ho3 hg3 HS1 mS;go_wp2;go_roundw
      case rel=>exact ⟨2*i+1,sw lk i (2*i+1),by go_num,by omega,HH3,by exact (by rw [zdD];exact HLk.out:(sw lk i (2*i+1)).length=N),HSt,(zgk lk (by rw [HLk.out];omega) (by rw [HLk.out];omega)).trans HPk.out,HK3,HG3⟩
      case measure=>simp [intOf];omega
     ·
      rw [decide_eq_false hlt] at HL2;have HSt:Hid (HpN lk n):=zma HDk.out (fun q h1 h2 h3=>by have:=HMin.out q h1 h2 h3;omega);clear hlt HMin;go_wp2_with fail
      refine HL2.out.mono ?_;rintro e w2 ⟨rfl,hb2⟩;have HH2:Hid (HpIn w2 B nb (.slice (some ⟨g,0,none⟩) N cp) lk):=HH1.out.below hb2;have HG2:Hid (w.grownBy w2 (some g)):=HG1.out.trans ⟨hb2.os,hb2.tape,hb2.output,hb2.size,fun k hk _=>hb2.block k hk⟩;clear hb2 mL2 HL2;go_wp2;go_ret;exact ⟨_,rfl,lk,HH2.out,HLk.out,HPk.out,HSt.out,HKk.out,HG2.out⟩
   ·
    have h2z:¬2*(i:Int)+1+1<(n:Int):=by omega
    have HMin:Hid (∀ q,0<q→q<n→(q-1) / 2=i→lk.getD (2*i+1) 0≤lk.getD q 0):=fun q q0 qn qp=>by
     have e:q=2*i+1:=by omega
     rw [e];omega
    have mL2:=zfb HHk.out.cell
    have HL2:Hid (Calls Tryz.prog 235 #[.slice (some ⟨g,0,none⟩) N cp,.int .i64 (2*(i:Int)+1),.int .i64 (i:Int)] wr fun e w'=>e=.returned (.bool (decide (lk.getD (2*i+1) 0<lk.getD i 0)))∧Below wr.heap.size wr w'):=by have hL:=ziW B g cp N lk (2*i+1) i wr (HHk.out.rown HLk.out) HLk.out (by omega) (by omega);rw [show ((2*i+1:Nat):Int)=2*(i:Int)+1 by omega] at hL;exact hL
    by_cases hlt:lk.getD (2*i+1) 0<lk.getD i 0
    ·
     rw [decide_eq_true hlt] at HL2;have HSt:Hid (HpDn (sw lk i (2*i+1)) (2*i+1) n):=zlq HDk.out (by rw [HLk.out];omega) (by omega) (by omega) (by omega) HMin.out hlt;clear hlt HMin;go_wp2_with fail
     refine HL2.out.mono ?_;rintro e w2 ⟨rfl,hb2⟩;have HH2:Hid (HpIn w2 B nb (.slice (some ⟨g,0,none⟩) N cp) lk):=HHk.out.below hb2;have mS:=zfa HH2.out.cell;have HG2:Hid (w.grownBy w2 (some g)):=HGk.out.trans ⟨hb2.os,hb2.tape,hb2.output,hb2.size,fun k hk _=>hb2.block k hk⟩;clear hb2 mL2 HL2;go_wp2_with fail
     have HS1:Hid (Calls Tryz.prog 238 #[.slice (some ⟨g,0,none⟩) N cp,.int .i64 (i:Int),.int .i64 (2*(i:Int)+1)] w2 fun e w'=>e=.returned (.tuple #[])∧w'.ownsRow B 3 1 (.slice (some ⟨g,0,none⟩) N cp) N (natV (sw lk i (2*i+1)))∧w2.grownBy w' (some g)):=by have hS:=ziV B g cp N lk i (2*i+1) w2 (HH2.out.rown HLk.out) HLk.out (by omega) (by omega);rw [show ((2*i+1:Nat):Int)=2*(i:Int)+1 by omega] at hS;exact hS
     refine HS1.out.mono ?_;rintro e w3 ⟨rfl,ho3,hg3⟩;have HH3:Hid (HpIn w3 B nb (.slice (some ⟨g,0,none⟩) N cp) (sw lk i (2*i+1))):=HH2.out.swapped ho3 (by rw [zdD];exact HLk.out) hg3;have HG3:Hid (w.grownBy w3 (some g)):=HG2.out.trans hg3;have HK3:Hid (∀ q,n≤q→(sw lk i (2*i+1)).getD q 0=l.getD q 0):=fun q hq=>by rw [zeF lk (by rw [HLk.out];omega) (by rw [HLk.out];omega),if_neg (by omega),if_neg (by omega)];exact HKk.out q hq
     clear ho3 hg3 HS1 mS;go_wp2;go_roundw
     case rel=>exact ⟨2*i+1,sw lk i (2*i+1),by go_num,by omega,HH3,by exact (by rw [zdD];exact HLk.out:(sw lk i (2*i+1)).length=N),HSt,(zgk lk (by rw [HLk.out];omega) (by rw [HLk.out];omega)).trans HPk.out,HK3,HG3⟩
     case measure=>simp [intOf];omega
    ·
     rw [decide_eq_false hlt] at HL2;have HSt:Hid (HpN lk n):=zma HDk.out (fun q h1 h2 h3=>by have:=HMin.out q h1 h2 h3;omega);clear hlt HMin;go_wp2_with fail
     refine HL2.out.mono ?_;rintro e w2 ⟨rfl,hb2⟩;have HH2:Hid (HpIn w2 B nb (.slice (some ⟨g,0,none⟩) N cp) lk):=HHk.out.below hb2;have HG2:Hid (w.grownBy w2 (some g)):=HGk.out.trans ⟨hb2.os,hb2.tape,hb2.output,hb2.size,fun k hk _=>hb2.block k hk⟩;clear hb2 mL2 HL2;go_wp2;go_ret;exact ⟨_,rfl,lk,HH2.out,HLk.out,HPk.out,HSt.out,HKk.out,HG2.out⟩
theorem zaZ.next {a b c:World} {S:Nat→Prop} {g:Nat} (h:zaZ a b S) (k:b.grownBy c (some g)) (hg:S g∨a.heap.size≤g):zaZ a c S :=
 ⟨k.os.trans h.os,k.tape.trans h.tape,k.output.trans h.output,Nat.le_trans h.size k.size,fun i hi hs=>(k.block i (Nat.lt_of_lt_of_le hi h.size) (fun e=>by
  injection e with e;subst e;rcases hg with hg | hg
  ·exact hs hg
  ·omega)).trans (h.block i hi hs)⟩
theorem upPop (B nb g n cp:Nat) (l:List Nat) (w:World) (h:HpIn w B nb (.slice (some ⟨g,0,none⟩) (n+1) cp) l) (hn:l.length=n+1) (hbig:n≤1000) :
 Calls Tryz.prog 236 #[.pointer (some ⟨nb,0,none⟩)] w fun e w'=>e=.returned (.iface 3 (.int .i64 ((l.getD n 0:Nat):Int)))∧HpIn w' B nb (.slice (some ⟨g,0,none⟩) n cp) (l.take n)∧w.grownBy w' (some nb):=by
 have c0:=h.cell;have f0:=h.box.frozenAt 0;have hrow:=h.rown hn;have c1:=zbS hrow hn n (by omega);have hcap:=zkB hrow;have hcp:(n:Int)≤(cp:Int):=by omega
 obtain ⟨hst,hgs⟩:=h.box.stored 0 (.slice (some ⟨g,0,none⟩) n cp);have hrow2:=own_take hrow n (by omega);rw [zoq] at hrow2
 have HE:Hid (HpIn (w.setCell ⟨nb,0,none⟩ (.slice (some ⟨g,0,none⟩) n cp)) B nb (.slice (some ⟨g,0,none⟩) n cp) (l.take n)):=⟨hst,by
  have:=hrow2.kept hgs (Or.inr (fun e=>h.ne e));rw [List.length_take,hn,show min n (n+1)=n by omega];exact this⟩
 have HG:Hid (w.grownBy (w.setCell ⟨nb,0,none⟩ (.slice (some ⟨g,0,none⟩) n cp)) (some nb)):=hgs;obtain ⟨x,hx⟩:∃ x,l.getD n 0=x:=⟨_,rfl⟩
 rw [hx] at c1 ⊢;clear h hrow hst hgs hrow2 hx hn hcap
 go_enter Tryz.func236,Tryz.ntmps236
 go_wp2;go_ret;exact ⟨rfl,HE.out,HG.out⟩
theorem zm5 (B nb:Nat) (v:Value) (l:List Nat) (x:Nat) (w:World) (h:HpIn w B nb v l) (hp:HpN l l.length) (hl:l.length≤100) :
 Calls Tryz.prog 171 #[.iface 197 (.pointer (some ⟨nb,0,none⟩)),.iface 3 (.int .i64 (x:Int))] w fun e w'=>e=.returned (.tuple #[])∧∃ v' l',HpIn w' B nb v' l'∧HpN l' l'.length∧l'.Perm (x :: l)∧zaZ w w' (fun k=>k=nb∨v.ownBlock=some k)∧zpp w v v':=by
 have HH:Hid (HpIn w B nb v l):=h;have HP:Hid (HpN l l.length):=hp;have mP:=findPush (w:=w) (nb:=nb);clear h hp
 go_enter Tryz.func171,Tryz.ntmps171
 go_wp2_with fail
 refine (upPush B nb v l x w HH.out (by omega)).mono ?_;rintro e w1 ⟨rfl,v1,h1,hw1,hn1⟩;have hlen:(l++[x]).length=l.length+1:=by simp
 obtain ⟨g,c,rfl⟩:=zaw (h1.rown hlen) (by omega);have HH1:Hid (HpIn w1 B nb (.slice (some ⟨g,0,none⟩) (l.length+1) c) (l++[x])):=h1;have HW1:Hid (zaZ w w1 (fun k=>k=nb∨v.ownBlock=some k)):=hw1;have HN1:Hid (zpp w v (.slice (some ⟨g,0,none⟩) (l.length+1) c)):=hn1;have HL1:Hid ((l++[x]).length=l.length+1):=hlen;have mN:=zoW h1.cell;clear h1 hw1 hn1 hlen mP
 go_wp2_with (go_at_call 172;refine (upLen _ _ _ _).mono ?_;rintro e w2 ⟨rfl,hw2⟩;obtain rfl:=hw2.symm)
 refine (heapUp B nb g (l.length+1) c (l++[x]) l.length w1 HH1.out HL1.out (by omega) (up_start HP.out x) (by omega)).mono ?_;rintro e w3 ⟨rfl,l3,h3,hl3,hp3,hn3,hg3⟩
 have HE:Hid (HpIn w3 B nb (.slice (some ⟨g,0,none⟩) (l.length+1) c) l3∧HpN l3 l3.length∧l3.Perm (x :: l)∧zaZ w w3 (fun k=>k=nb∨v.ownBlock=some k)):=⟨h3,by rw [hl3];exact hn3,hp3.trans (by simp),HW1.out.next hg3 (by
  rcases HN1.out g rfl with e | e
  ·exact Or.inl (Or.inr e)
  ·exact Or.inr e)⟩
 clear h3 hl3 hp3 hn3 hg3 mN;go_wp2
 go_end0
 exact ⟨rfl,_,l3,HE.out.1,HE.out.2.1,HE.out.2.2.1,HE.out.2.2.2,HN1.out⟩
theorem heapPop (B nb g n cp:Nat) (l:List Nat) (w:World) (h:HpIn w B nb (.slice (some ⟨g,0,none⟩) (n+1) cp) l) (hn:l.length=n+1) (hp:HpN l l.length) (hbig:n≤900) :
 Calls Tryz.prog 190 #[.iface 197 (.pointer (some ⟨nb,0,none⟩))] w fun e w'=>e=.returned (.iface 3 (.int .i64 ((l.getD 0 0:Nat):Int)))∧∃ l',HpIn w' B nb (.slice (some ⟨g,0,none⟩) n cp) l'∧HpN l' l'.length∧l'.length=n∧(l.getD 0 0 :: l').Perm l∧(∀ y∈l,l.getD 0 0≤y)∧zaZ w w' (fun k=>k=nb∨k=g):=by
 have HH:Hid (HpIn w B nb (.slice (some ⟨g,0,none⟩) (n+1) cp) l):=h;have HP:Hid (HpN l l.length):=hp;have HL:Hid (l.length=n+1):=hn;have mN:=zoW h.cell;have mS:=zfa h.cell;clear h hp hn
 go_enter Tryz.func190,Tryz.ntmps190
 go_wp2_with (go_at_call 172;refine (upLen _ _ _ _).mono ?_;rintro e w2 ⟨rfl,hw2⟩;obtain rfl:=hw2.symm)
 have hS:=ziV B g cp (n+1) l 0 n w (HH.out.rown HL.out) HL.out (by omega) (by omega);refine hS.mono ?_;rintro e w1 ⟨rfl,ho1,hg1⟩;have HH1:Hid (HpIn w1 B nb (.slice (some ⟨g,0,none⟩) (n+1) cp) (sw l 0 n)):=HH.out.swapped ho1 (by rw [zdD];exact HL.out) hg1;have HG1:Hid (w.grownBy w1 (some g)):=hg1;have HL1:Hid ((sw l 0 n).length=n+1):=by exact (by rw [zdD];exact HL.out:(sw l 0 n).length=n+1)
 clear ho1 hg1 hS mS mN;go_wp2_with fail
 refine (heapDown B nb g (n+1) n cp (sw l 0 n) w1 HH1.out HL1.out rfl (dn_start HP.out HL.out) (by omega)).mono ?_;rintro e w2 ⟨bb,rfl,l2,h2,hl2,hp2,hn2,hk2,hg2⟩;have HH2:Hid (HpIn w2 B nb (.slice (some ⟨g,0,none⟩) (n+1) cp) l2):=h2;have HL2:Hid (l2.length=n+1):=hl2;have HG2:Hid (w.grownBy w2 (some g)):=HG1.out.trans hg2;have hla:l2.getD n 0=l.getD 0 0:=by rw [hk2 n (Nat.le_refl _),zeF l (by rw [HL.out];omega) (by rw [HL.out];omega),if_pos rfl]
 have hpp:=hp_pop HL.out HP.out (hp2.trans (zgk l (by rw [HL.out];omega) (by rw [HL.out];omega))) hla;have HE:Hid (HpN (l2.take n) (l2.take n).length∧(l2.take n).length=n∧(l.getD 0 0 :: l2.take n).Perm l∧(∀ y∈l,l.getD 0 0≤y)):=⟨hp_take hn2 (by omega),by rw [List.length_take];omega,hpp.1,hpp.2⟩;have HLa:Hid (l2.getD n 0=l.getD 0 0):=hla;have mP:=findPop (w:=w2) (nb:=nb);clear h2 hl2 hp2 hn2 hk2 hg2 hla hpp;go_wp2_with fail
 refine (upPop B nb g n cp l2 w2 HH2.out HL2.out (by omega)).mono ?_;rintro e w3 ⟨rfl,h3,hg3⟩;rw [HLa.out];have HF:Hid (HpIn w3 B nb (.slice (some ⟨g,0,none⟩) n cp) (l2.take n)∧zaZ w w3 (fun k=>k=nb∨k=g)):=⟨h3,(zaZ.of_grown HG2.out (fun k e=>by injection e with e;exact Or.inr e.symm)).next hg3 (Or.inl (Or.inl rfl))⟩;clear h3 hg3 mP;go_wp2;go_ret;exact ⟨rfl,l2.take n,HF.out.1,HE.out.1,HE.out.2.1,HE.out.2.2.1,HE.out.2.2.2,HF.out.2⟩
theorem ziu (B nb g n cp:Nat) (l:List Nat) (w:World) (h:HpIn w B nb (.slice (some ⟨g,0,none⟩) (n+1) cp) l) (hn:l.length=n+1) (hp:HpN l l.length) (hbig:n≤900) :
 Calls Tryz.prog 173 #[.pointer (some ⟨nb,0,none⟩)] w fun e w'=>e=.returned (.int .i64 ((l.getD 0 0:Nat):Int))∧∃ l',HpIn w' B nb (.slice (some ⟨g,0,none⟩) n cp) l'∧HpN l' l'.length∧l'.length=n∧(l.getD 0 0 :: l').Perm l∧(∀ y∈l,l.getD 0 0≤y)∧zaZ w w' (fun k=>k=nb∨k=g):=by
 have hP:=heapPop B nb g n cp l w h hn hp hbig;obtain ⟨x,hx⟩:∃ x,l.getD 0 0=x:=⟨_,rfl⟩
 rw [hx] at hP ⊢;have hta:∀ W:World,(Instr.typeAssert (.iface 3 (.int .i64 (x:Int))) 20 3 false).run Tryz.prog W=.ok (.int .i64 (x:Int)) W:=asInt x
 clear h hn hp hx
 go_enter Tryz.func173,Tryz.ntmps173
 go_wp2_with fail
 refine hP.mono ?_;rintro e w1 ⟨rfl,hE⟩;have HE:Hid (_):=hE;clear hE hP;go_wp2;go_ret;exact ⟨rfl,HE.out⟩
def lenS8:Value→Nat
 | .slice _ n _=>n
 | _=>0
theorem zot (n:Nat):(madeCells (Value.int .i64 0).cells n).toList=natV (List.replicate n 0):=by
 apply List.ext_getElem
 ·simp [madeCells,natV]
 ·intro i h1 h2;simp [madeCells,natV,Value.cells,Nat.mod_one]
structure Po8 (X:World) (B wb nb n:Nat) (hv ov:Value) (ws hl out:List Nat):Prop where
 hp:HpIn X B nb hv hl
 hn:HpN hl hl.length
 ow:X.ownsRow B 3 1 (.slice (some ⟨wb,0,none⟩) n n) n (natV ws)
 wl:ws.length=n
 nw:hv.ownBlock≠some wb
 oo:X.ownsRow B 3 1 ov out.length (natV out)
 n1:ov.ownBlock≠some wb
 n2:∀ k,ov.ownBlock=some k→hv.ownBlock≠some k
section
variable {X Y:World} {B wb nb n:Nat} {hv ov:Value} {ws hl out:List Nat}
theorem Po8.wn (s:Po8 X B wb nb n hv ov ws hl out):wb≠nb:=by
 rcases zam s.ow s.hp.box (by decide) with e | e
 ·cases e
 ·exact fun e2=>e (by rw [e2];rfl)
theorem Po8.on (s:Po8 X B wb nb n hv ov ws hl out):ov.ownBlock≠some nb:=by
 rcases zam s.oo s.hp.box (by decide) with e | e
 ·rw [e];simp
 ·exact fun e2=>e (by rw [e2];rfl)
theorem Po8.below (s:Po8 X B wb nb n hv ov ws hl out) (hb:Below X.heap.size X Y):Po8 Y B wb nb n hv ov ws hl out :=
 ⟨s.hp.below hb,s.hn,za5 s.ow hb,s.wl,s.nw,za5 s.oo hb,s.n1,s.n2⟩
theorem Po8.setw (s:Po8 X B wb nb n hv ov ws hl out) (hB:B≤X.heap.size) (i x:Nat):Po8 (X.setCell ⟨wb,i,none⟩ (.int .i64 (x:Int))) B wb nb n hv ov (ws.set i x) hl out∧Below B X (X.setCell ⟨wb,i,none⟩ (.int .i64 (x:Int))):=by
 obtain ⟨h1,hg⟩:=s.ow.stored i (.int .i64 (x:Int));rw [zga] at h1;have hw:zaZ X (X.setCell ⟨wb,i,none⟩ (.int .i64 (x:Int))) (fun k=>k=wb):=zaZ.of_grown hg (fun k e=>by injection e with e;exact e.symm);refine ⟨⟨s.hp.wrote hw s.wn.symm (fun k e e2=>s.nw (by rw [e,e2])),s.hn,h1,by rw [List.length_set];exact s.wl,s.nw,zbR s.oo hw (fun k e e2=>s.n1 (by rw [e,e2])),s.n1,s.n2⟩,hw.below hB (fun k e=>by rw [e];exact (s.ow.lt wb rfl).1)⟩
theorem Po8.push (s:Po8 X B wb nb n hv ov ws hl out) (hB:B≤X.heap.size) {v':Value} {l':List Nat} (h1:HpIn Y B nb v' l') (h2:HpN l' l'.length) (hw:zaZ X Y (fun k=>k=nb∨hv.ownBlock=some k)) (hn:zpp X hv v') :
 Po8 Y B wb nb n v' ov ws l' out∧Below B X Y:=by
 have hwl:=(s.ow.lt wb rfl).2;refine ⟨⟨h1,h2,zbR s.ow hw (fun k e e2=>?_),s.wl,fun e=>?_,zbR s.oo hw (fun k e e2=>?_),s.n1,fun k e e2=>?_⟩,hw.below hB (fun k e=>?_)⟩
 ·
  injection e with e;subst e;rcases e2 with e2 | e2
  ·exact s.wn e2
  ·exact s.nw e2
 ·
  rcases hn wb e with e | e
  ·exact s.nw e
  ·omega
 ·
  rcases e2 with e2 | e2
  ·exact s.on (by rw [e,e2])
  ·exact s.n2 k e e2
 ·
  rcases hn k e2 with e2 | e2
  ·exact s.n2 k e e2
  ·have:=(s.oo.lt k e).2;omega
 ·
  rcases e with e | e
  ·rw [e];exact s.hp.lt.1
  ·exact (s.hp.row.lt k e).1
theorem Po8.app (s:Po8 X B wb nb n hv ov ws hl out) (hB:B≤X.heap.size) (hl8:out.length≤1000) (x:Nat) :
 ∃ g' c' Y,(Builtin.append_ #[163,163] 163 #[ov,.slice (some ⟨X.heap.size,0,none⟩) 1 1]).run Tryz.prog (X.alloc (.cells #[.int .i64 (x:Int)] 3))=.ok (.slice (some ⟨g',0,none⟩) (out.length+1) c') Y ∧
  Po8 Y B wb nb n hv (.slice (some ⟨g',0,none⟩) (out.length+1) c') ws hl (out++[x])∧Below B X Y:=by
 obtain ⟨v',Y,hr,ho,hg,hat⟩:=zeL 163 Tryz.underlying163 x s.oo hB (by omega);obtain ⟨g',c',rfl⟩:=zaw ho (by omega);have hwl:=(s.ow.lt wb rfl).2;have hw:zaZ X Y (fun k=>ov.ownBlock=some k):=zaZ.of_grown hg (fun k e=>e);refine ⟨g',c',Y,hr,⟨s.hp.wrote hw s.on (fun k e e2=>s.n2 k e2 e),s.hn,zbR s.ow hw (fun k e e2=>?_),s.wl,s.nw,by rw [List.length_append,List.length_singleton];exact ho,fun e=>?_,fun k e e2=>?_⟩,hw.below hB (fun k e=>(s.oo.lt k e).1)⟩
 ·injection e with e;subst e;exact s.n1 e2
 ·
  rcases hat with h | h
  ·exact s.n1 (by rw [←h];exact e)
  ·rw [h] at e;injection e with e;omega
 ·
  rcases hat with h | h
  ·exact s.n2 k (by rw [←h];exact e) e2
  ·
   rw [h] at e;injection e with e
   have:=(s.hp.row.lt k e2).2;omega
theorem Po8.newo (s:Po8 X B wb nb n hv (.slice none 0 0) ws hl []) (hB:B≤X.heap.size):Po8 (X.alloc (.cells #[] 3)) B wb nb n hv (.slice (some ⟨X.heap.size,0,none⟩) 0 0) ws hl []:=by
 have hb:Below X.heap.size X (X.alloc (.cells #[] 3)):=(Below.refl _ _).alloc (Nat.le_refl _) _;have s2:=s.below hb;refine ⟨s2.hp,s2.hn,s2.ow,s2.wl,s2.nw,World.ownsRow_lit (base:=B) (e:=3) (size:=1) X #[] 0 hB (by decide) rfl,fun e=>?_,fun k e e2=>?_⟩
 ·injection e with e;have e3:X.heap.size=wb:=e;have:=(s.ow.lt wb rfl).2;omega
 ·injection e with e;have e3:X.heap.size=k:=e;have:=(s.hp.row.lt k e2).2;omega
end
theorem zo1 (w:World) (n:Nat) (hn:n≤1000):Po8 (((w.alloc (.cells (madeCells (Value.int .i64 0).cells n) 3)).alloc (.cells #[] 3)).alloc (.cells #[.slice (some ⟨w.heap.size+1,0,none⟩) 0 0] 198)) w.heap.size w.heap.size (w.heap.size+2) n (.slice (some ⟨w.heap.size+1,0,none⟩) 0 0) (.slice none 0 0) (List.replicate n 0) [] []:=by
 obtain ⟨W1,hW1⟩:∃ W1,w.alloc (.cells (madeCells (Value.int .i64 0).cells n) 3)=W1:=⟨_,rfl⟩
 have h1:=World.ownsRow_lit (base:=w.heap.size) (e:=3) (size:=1) w (madeCells (Value.int .i64 0).cells n) n (Nat.le_refl _) (by unfold maxLen;omega) (by rw [size_madeCells];omega);rw [zot,hW1] at h1;have s1:W1.heap.size=w.heap.size+1:=by rw [←hW1];simp
 have h2:=World.ownsRow_lit (base:=w.heap.size) (e:=3) (size:=1) W1 #[] 0 (by omega) (by decide) rfl;rw [hW1];obtain ⟨W2,hW2⟩:∃ W2,W1.alloc (.cells #[] 3)=W2:=⟨_,rfl⟩
 have h1b:W2.ownsRow w.heap.size 3 1 (.slice (some ⟨w.heap.size,0,none⟩) n n) n (natV (List.replicate n 0)):=by rw [←hW2];exact h1.alloc _
 rw [hW2] at h2 ⊢;have s2:W2.heap.size=w.heap.size+2:=by rw [←hW2];simp;omega
 rw [s1] at h2;have h3:=World.ownsRow_lit (base:=w.heap.size) (e:=198) (size:=1) W2 #[.slice (some ⟨w.heap.size+1,0,none⟩) 0 0] 1 (by omega) (by decide) rfl;rw [s2] at h3;exact ⟨⟨h3,h2.alloc _⟩,(fun k h1 h2=>by simp at h2),h1b.alloc _,List.length_replicate,(fun e=>by injection e with e;have e2:w.heap.size+1=w.heap.size:=e;omega),World.ownsRow_nil _ _ _ _,(fun e=>by cases e),(fun k e=>by cases e)⟩
theorem g_len8 {ps:List Pk} {out:List Nat} {f:Nat} (g:Kf8 ps out f):out.length+1≤8:=by
 have h1:=(g.or.step (zaf g.pj).1.nodup g.nx).len;have h2:=(zaf g.pj).2.1.2;simp [zaJ] at h1;omega
theorem zdh (a:Option Addr) (len cap:Nat) (ps:List Pk) (w:World) (h:zab w a len cap ps) (hpj:zaK ps=true) :
 Calls Tryz.prog 141 #[.slice a len cap] w fun e w'=>∃ v,e=.returned v∧∃ out,w'.ownsRow w.heap.size 3 1 v out.length (natV out)∧zaJ ps out=zaz ps∧(∀ x∈out,x<len)∧out.length≤8∧Below w.heap.size w w':=by
 obtain rfl:ps.length=len:=h.hlen;have hn8:ps.length≤8:=(zaf hpj).2.1.2;have HI:Hid (zab w a ps.length cap ps):=h;have HP:Hid (zaK ps=true):=hpj;clear h hpj;obtain ⟨i0,hi,hz0,hz1,hz2⟩:=info_parts info3
 have hmk:∀ W:World,(Instr.makeSlice 163 (.int .i64 (ps.length:Int)) (.int .i64 (ps.length:Int))).run Tryz.prog W=.ok (.slice (some ⟨W.heap.size,0,none⟩) ps.length ps.length) (W.alloc (.cells (madeCells (Value.int .i64 0).cells ps.length) 3)):=fun W=>by
  have h:=run_make (P:=Tryz.prog) W 163 3 i0 (.int .i64 0) Tryz.underlying163 hi hz0 .i64 .i64 (ps.length:Int) (ps.length:Int) (by omega) (by omega) (by rw [hz2];omega) (by omega);rw [hz1] at h
  simpa using h
 clear hi hz0 hz1 hz2;have HS0:Hid (_):=zo1 w ps.length (by omega);have HB0:Hid (Below w.heap.size w (((w.alloc (.cells (madeCells (Value.int .i64 0).cells ps.length) 3)).alloc (.cells #[] 3)).alloc (.cells #[.slice (some ⟨w.heap.size+1,0,none⟩) 0 0] 198))):=(((Below.refl _ _).alloc (Nat.le_refl _) _).alloc (by simp) _).alloc (by simp;omega) _;have HK0:Hid (Ks8 ps 0 (List.replicate ps.length 0) []):=Ks8.zero ps List.length_replicate;obtain ⟨nb,hnb⟩:∃ nb,w.heap.size+1+1=nb:=⟨_,rfl⟩
 rw [show w.heap.size+2=w.heap.size+1+1 from rfl,hnb] at HS0
 go_enter Tryz.func141,Tryz.ntmps141
 go_wp2
 go_loopw [17] (fun iv wr=>∃ (k:Nat) (hv:Value) (ws hl:List Nat),iv=.int .i64 (k:Int)∧k≤ps.length∧Hid (Po8 wr w.heap.size w.heap.size nb ps.length hv (.slice none 0 0) ws hl [])∧Hid (Ks8 ps k ws hl)∧Hid (Below w.heap.size w wr)) (fun iv _=>ps.length-(intOf iv).toNat)
 case atStart=>exact ⟨0,_,_,_,rfl,by omega,HS0,HK0,HB0⟩
 case round =>
  obtain ⟨k,hv,ws,hl,rfl,hk,HS,HK,HB⟩:=hrel;clear HS0 HB0 HK0 hmk;by_cases hlt:(k:Int)<(ps.length:Int)
  ·
   have hk2:k<ps.length:=by omega
   have HPo:Hid (_):=zdP a ps.length cap ps k wr (HI.out.below HB.out) hk2;obtain ⟨m,hm⟩:∃ m,wt8 ps [] k=m:=⟨_,rfl⟩
   have hlm:(plc ps (zbe ps k)).length=m:=by rw [←wt8_nil];exact hm
   have hhl:=HK.out.hlen (by omega);go_wp2_with fail
   refine Calls.mono HPo.out ?_;rintro e w1 ⟨v1,rfl,ho1,hb1⟩;rw [hlm] at ho1;obtain ⟨pa,pc,rfl,_⟩:=zbA ho1 hlm;have s1:=HS.out.below hb1;have hB1:Below w.heap.size w w1:=HB.out.trans (hb1.mono HB.out.size);obtain ⟨s2,hB2⟩:=s1.setw hB1.size k m;have c1:=zbS s1.ow s1.wl k hk2;have f1:=s1.ow.frozenAt k;have c2:=zbS s2.ow s2.wl k hk2;rw [zcC (by rw [s1.wl];exact hk2),if_pos rfl] at c2;obtain ⟨W2,hW2⟩:∃ W2,w1.setCell ⟨w.heap.size,k,none⟩ (.int .i64 (m:Int))=W2:=⟨_,rfl⟩
   rw [hW2] at s2 hB2 c2;have HS2:Hid (Po8 W2 w.heap.size w.heap.size nb ps.length hv (.slice none 0 0) (ws.set k m) hl []):=s2;have HB2:Hid (Below w.heap.size w W2):=hB1.trans hB2;have HM:Hid (wt8 ps [] k=m):=hm;clear HPo ho1 hb1 s1 hB1 s2 hB2 hlm hm HS HB;by_cases hm0:m=0
   ·
    subst hm0;have hW3:w1.setCell ⟨w.heap.size,k,none⟩ (.int .i64 0)=W2:=hW2;have c3:W2.cell? ⟨w.heap.size,k,none⟩=some (.int .i64 0):=c2;go_wp2_with fail
    refine (zm5 w.heap.size nb hv hl k W2 HS2.out.hp HS2.out.hn (by omega)).mono ?_;rintro e w3 ⟨rfl,v3,l3,h3,hn3,hp3,hw3,hat3⟩;obtain ⟨s3,hB3⟩:=HS2.out.push HB2.out.size h3 hn3 hw3 hat3;have HS3:Hid (Po8 w3 w.heap.size w.heap.size nb ps.length v3 (.slice none 0 0) (ws.set k 0) l3 []):=s3;have HB3:Hid (Below w.heap.size w w3):=HB2.out.trans hB3
    have HK3:Hid (Ks8 ps (k+1) (ws.set k 0) l3):=by have:=HK.out.push hk2 HM.out hp3;rw [HM.out] at this;exact this
    clear h3 hn3 hp3 hw3 hat3 s3 hB3;go_wp2;go_roundw
    case rel=>exact ⟨k+1,v3,_,l3,by go_num,by omega,HS3,HK3,HB3⟩
    case measure=>simp [intOf];omega
   ·
    have hmz:¬(m:Int)=0:=by omega
    have HK3:Hid (Ks8 ps (k+1) (ws.set k m) hl):=by have:=HK.out.pass hk2 (by rw [HM.out];exact hm0);rw [HM.out] at this;exact this
    go_wp2;go_roundw
    case rel=>exact ⟨k+1,hv,_,hl,by go_num,by omega,HS2,HK3,HB2⟩
    case measure=>simp [intOf];omega
  ·
   obtain rfl:k=ps.length:=by omega
   obtain ⟨V,hV⟩:∃ V,V=wr:=⟨_,rfl⟩
   subst hV;have HA0:Hid (Ka8 ps [] ws hl):=HK.out.start;have HS0:Hid (Po8 (V.alloc (.cells #[] 3)) w.heap.size w.heap.size nb ps.length hv (.slice (some ⟨V.heap.size,0,none⟩) 0 0) ws hl []):=HS.out.newo HB.out.size;have HB0:Hid (Below w.heap.size w (V.alloc (.cells #[] 3))):=HB.out.alloc HB.out.size _;clear HK HS HB;go_wp2
   go_loopw [6] (fun ov wr=>∃ (m:Nat) (oa:Option Addr) (oc:Nat) (hv:Value) (ws hl out:List Nat),ov=.slice oa m oc∧m≤8∧Hid (out.length=m)∧Hid (Po8 wr w.heap.size w.heap.size nb ps.length hv (.slice oa m oc) ws hl out)∧Hid (Ka8 ps out ws hl)∧Hid (Below w.heap.size w wr)) (fun ov _=>100-lenS8 ov)
   case atStart=>exact ⟨0,_,0,hv,ws,hl,[],rfl,by omega,rfl,HS0,HA0,HB0⟩
   case round =>
    obtain ⟨m,oa,oc,hv,ws,hl,out,rfl,hm8,HLo,HS,HA,HB⟩:=hrel;clear HS0 HA0 HB0;obtain ⟨Z,hZ⟩:∃ Z,Z=wr:=⟨_,rfl⟩
    subst hZ;obtain ⟨q,hq⟩:∃ q,hl.length=q:=⟨_,rfl⟩
    obtain ⟨ha,hc,rfl,_⟩:=zbA (HS.out.hp.rown hq) hq;have c0:=HS.out.hp.cell;rcases Nat.eq_zero_or_pos q with hq0 | hq0
    ·
     subst hq0;have hnil:hl=[]:=List.eq_nil_of_length_eq_zero hq;subst hnil;have HE:Hid (zaJ ps out=zaz ps∧(∀ x∈out,x<ps.length)):=⟨HA.out.done,HA.out.lt⟩;have HO:Hid (Z.ownsRow w.heap.size 3 1 (.slice oa m oc) out.length (natV out)):=HS.out.oo;clear hq
     go_wp2_with (go_at_call 172;refine (upLen _ _ _ _).mono ?_;rintro e w2 ⟨rfl,hw2⟩;obtain rfl:=hw2.symm)
     go_ret;exact ⟨_,rfl,out,HO.out,HE.out.1,HE.out.2,by rw [HLo.out];exact hm8,HB.out⟩
    ·
     obtain ⟨q,rfl⟩:∃ p,q=p+1:=⟨q-1,by omega⟩
     obtain ⟨g,hc2,hge⟩:=zaw (HS.out.hp.rown hq) (by omega);injection hge with e1 _ e3;subst e1;subst e3;have hhl:=HA.out.hlen;have HT:Hid (_):=ziu w.heap.size nb g q hc hl Z HS.out.hp hq HS.out.hn (by omega);have hqz:(0:Int)<(q:Int)+1:=by omega
     obtain ⟨f,hf⟩:∃ f,hl.getD 0 0=f:=⟨_,rfl⟩
     rw [hf] at HT;clear hq hf
     go_wp2_with (go_at_call 172;refine (upLen _ _ _ _).mono ?_;rintro e w2 ⟨rfl,hw2⟩;obtain rfl:=hw2.symm)
     refine Calls.mono HT.out ?_;rintro e w1 ⟨rfl,l1,h1,hn1,_,hp1,hmin1,hw1⟩;obtain ⟨s1,hB1⟩:=HS.out.push HB.out.size h1 hn1 (hw1.mono (fun k e=>e.imp id (fun e=>by rw [e];rfl))) (fun k e=>Or.inl e);obtain ⟨kf,kb⟩:=HA.out.take HP.out hp1 hmin1;have hBw1:=HB.out.trans hB1;obtain ⟨g',c',Y,hr,s2,hB2⟩:=s1.app hBw1.size (by rw [HLo.out];omega) f;rw [HLo.out] at hr s2;have HF:Hid (Kf8 ps out f):=kf;have HKb0:Hid (Kb8 ps out f 0 ws l1):=kb;have HSb0:Hid (Po8 Y w.heap.size w.heap.size nb ps.length (.slice (some ⟨g,0,none⟩) q hc) (.slice (some ⟨g',0,none⟩) (m+1) c') ws l1 (out++[f])):=s2;have HBb0:Hid (Below w.heap.size w Y):=hBw1.trans hB2
     have hm7:m+1≤8:=by have h1:=(g_len8 kf);rw [HLo.out] at h1;omega
     have hfl:=kf.fl;clear HT h1 hn1 hp1 hmin1 hw1 s1 hB1 kf kb hBw1 s2 hB2 HS HA HB c0 hhl
     go_wp2_with (at_builtin;refine za0 rfl (.tmp 46) (.tmp 48) 163 rfl _ _ _ rfl rfl hr ?_;clear hr)
     go_loopw [52] (fun iv wx=>∃ (k:Nat) (hv:Value) (ws hl:List Nat),iv=.int .i64 (k:Int)∧k≤ps.length∧Hid (Po8 wx w.heap.size w.heap.size nb ps.length hv (.slice (some ⟨g',0,none⟩) (m+1) c') ws hl (out++[f]))∧Hid (Kb8 ps out f k ws hl)∧Hid (Below w.heap.size w wx)) (fun iv _=>ps.length-(intOf iv).toNat)
     case atStart=>exact ⟨0,_,ws,l1,rfl,by omega,HSb0,HKb0,HBb0⟩
     case round =>
      obtain ⟨k,hv,ws,hl,rfl,hk,HS,HK,HB⟩:=hrel;clear HSb0 HKb0 HBb0;by_cases hlt:(k:Int)<(ps.length:Int)
      ·
       have hk2:k<ps.length:=by omega
       have hok:=HI.out.below HB.out;obtain ⟨b,off,rfl,hbl,c0,ia,il,ic,fa,fl,fc,c1,c2,hpk⟩:=hok.each k hk2;obtain ⟨b',off',he,hbl',cf,_⟩:=hok.each f hfl;simp only [Option.some.injEq,Addr.mk.injEq,and_true] at he;obtain ⟨rfl,rfl⟩:=he;have hil:=hpk.il;have hti:za7 wr ia il (zbe ps k):=hpk.i;obtain ⟨x,hx⟩:∃ x,(ps.getD k pk0).1=x:=⟨_,rfl⟩
       obtain ⟨y,hy⟩:∃ y,(ps.getD f pk0).1=y:=⟨_,rfl⟩
       rw [hx] at c0;rw [hy] at cf;have HY:Hid (nmAt ps f=y):=hy;obtain ⟨bx,hbx⟩:=Box3.new wr (.string ⟨x.toArray⟩) (.slice ia il ic) (.slice fa fl fc) 99;obtain ⟨X,hX⟩:∃ X,wr.alloc (.cells #[.string ⟨x.toArray⟩,.slice ia il ic,.slice fa fl fc] 99)=X:=⟨_,rfl⟩
       rw [hX] at bx hbx;have d0:=bx.c0;have d1:=bx.c1;have d2:=bx.c2;have df:X.cell? ⟨b,off+f*3,none⟩=some (.string ⟨y.toArray⟩):=(hbx.cell (p:=⟨b,off+f*3,none⟩) hbl').trans cf;have HTi:Hid (za7 X ia il (zbe ps k)):=hti.below hbx;have HSX:Hid (Po8 X w.heap.size w.heap.size nb ps.length hv (.slice (some ⟨g',0,none⟩) (m+1) c') ws hl (out++[f])):=HS.out.below hbx;have HBX:Hid (Below w.heap.size w X):=HB.out.trans (hbx.mono HB.out.size);have hfz:(f:Int)<(ps.length:Int):=by omega
       have hhl:=HK.out.hlen;have HC:Hid (∀ W,za7 W ia il (zbe ps k)→Calls Tryz.prog 116 #[.slice ia il ic,.string ⟨y.toArray⟩] W fun e w'=>e=.returned (.bool (decide (y∈zbe ps k)))∧w'=W):=fun W hW=>zey ia il ic (zbe ps k) y W hW hil
       clear hok bx hbx hpk hti hx hy HS HB cf;by_cases hin:y∈zbe ps k
       ·
        rw [decide_eq_true hin] at HC;obtain ⟨hd0,hd6,hd7⟩:=HK.out.less HF.out hk2 (by rw [HY.out];exact hin);obtain ⟨d,hd⟩:∃ d,ws.getD k 0=d+1:=⟨ws.getD k 0-1,by omega⟩
        have HKd:Hid (d≠0→Kb8 ps out f (k+1) (ws.set k d) hl):=fun h=>by
         have:=HK.out.down HF.out hk2 (by rw [HY.out];exact hin) (by rw [hd];simpa using h);rw [hd] at this;exact this
        have HKp:Hid (d=0→∀ hl2:List Nat,hl2.Perm (k :: hl)→Kb8 ps out f (k+1) (ws.set k d) hl2):=fun h hl2 hp=>by
         have:=HK.out.push HF.out hk2 (by rw [HY.out];exact hin) (by rw [hd];simpa using h) hp;rw [hd] at this;exact this
        have HD:Hid (ws.getD k 0=d+1):=hd;have hdb:d≤5:=by omega
        clear hin hd0 hd6 hd7 hd HK;go_wp2_with fail
        go_quiet (first | (go_at_call 116;refine Calls.quiet_of_same (HC.out _ (HTi.out.below ⟨rfl,rfl,rfl,Nat.le_refl _,fun _ _=>rfl⟩))))
        generalize hX5:X.drewN _=X5;have hb5:Below X.heap.size X X5:=by rw [←hX5];exact ⟨rfl,rfl,rfl,Nat.le_refl _,fun _ _=>rfl⟩
        have s5:=HSX.out.below hb5;have hB5:Below w.heap.size w X5:=HBX.out.trans (hb5.mono HBX.out.size);obtain ⟨s6,hB6⟩:=s5.setw hB5.size k d;have e1:=zbS s5.ow s5.wl k hk2;rw [HD.out] at e1;have f1:=s5.ow.frozenAt k;have e2:=zbS s6.ow s6.wl k hk2;rw [zcC (by rw [s5.wl];exact hk2),if_pos rfl] at e2;obtain ⟨W6,hW6⟩:∃ W6,X5.setCell ⟨w.heap.size,k,none⟩ (.int .i64 (d:Int))=W6:=⟨_,rfl⟩
        rw [hW6] at s6 hB6 e2;have HS6:Hid (Po8 W6 w.heap.size w.heap.size nb ps.length hv (.slice (some ⟨g',0,none⟩) (m+1) c') (ws.set k d) hl (out++[f])):=s6;have HB6:Hid (Below w.heap.size w W6):=hB5.trans hB6;clear c0 c1 c2 hX5 hb5 s5 hB5 s6 hB6 d0 d1 d2 df HC HSX HBX HD;by_cases hd0:d=0
        ·
         subst hd0;have hW7:X5.setCell ⟨w.heap.size,k,none⟩ (.int .i64 0)=W6:=hW6;have e3:W6.cell? ⟨w.heap.size,k,none⟩=some (.int .i64 0):=e2;have e4:X5.cell? ⟨w.heap.size,k,none⟩=some (.int .i64 1):=e1;go_wp2_with fail
         refine (zm5 w.heap.size nb hv hl k W6 HS6.out.hp HS6.out.hn (by omega)).mono ?_;rintro e w7 ⟨rfl,v7,l7,h7,hn7,hp7,hw7,hat7⟩;obtain ⟨s7,hB7⟩:=HS6.out.push HB6.out.size h7 hn7 hw7 hat7;have HS7:Hid (Po8 w7 w.heap.size w.heap.size nb ps.length v7 (.slice (some ⟨g',0,none⟩) (m+1) c') (ws.set k 0) l7 (out++[f])):=s7;have HB7:Hid (Below w.heap.size w w7):=HB6.out.trans hB7;have HK7:Hid (Kb8 ps out f (k+1) (ws.set k 0) l7):=HKp.out (by simp) l7 hp7;clear h7 hn7 hp7 hw7 hat7 s7 hB7;go_wp2;go_roundw
         case rel=>exact ⟨k+1,v7,_,l7,by go_num,by omega,HS7,HK7,HB7⟩
         case measure=>simp [intOf];omega
        ·
         have hdz:¬(d:Int)=0:=by omega
         have HK7:Hid (Kb8 ps out f (k+1) (ws.set k d) hl):=HKd.out hd0;go_wp2;go_roundw
         case rel=>exact ⟨k+1,hv,_,hl,by go_num,by omega,HS6,HK7,HB6⟩
         case measure=>simp [intOf];omega
       ·
        rw [decide_eq_false hin] at HC;have HK2:Hid (Kb8 ps out f (k+1) ws hl):=HK.out.skip HF.out hk2 (by rw [HY.out];exact hin);clear hin HK;go_wp2_with fail
        go_quiet (first | (go_at_call 116;refine Calls.quiet_of_same (HC.out _ (HTi.out.below ⟨rfl,rfl,rfl,Nat.le_refl _,fun _ _=>rfl⟩))))
        generalize hX5:X.drewN _=X5;have hb5:Below X.heap.size X X5:=by rw [←hX5];exact ⟨rfl,rfl,rfl,Nat.le_refl _,fun _ _=>rfl⟩
        have HS5:Hid (Po8 X5 w.heap.size w.heap.size nb ps.length hv (.slice (some ⟨g',0,none⟩) (m+1) c') ws hl (out++[f])):=HSX.out.below hb5;have HB5:Hid (Below w.heap.size w X5):=HBX.out.trans (hb5.mono HBX.out.size);clear c0 c1 c2 hX5 hb5 d0 d1 d2 df HC HSX HBX;go_wp2;go_roundw
        case rel=>exact ⟨k+1,hv,ws,hl,by go_num,by omega,HS5,HK2,HB5⟩
        case measure=>simp [intOf];omega
      ·
       obtain rfl:k=ps.length:=by omega
       have HA2:Hid (Ka8 ps (out++[f]) ws hl):=HK.out.out HF.out;have HL2:Hid ((out++[f]).length=m+1):=by exact (by rw [List.length_append,List.length_singleton,HLo.out]:(out++[f]).length=m+1)
       go_wp2;go_roundw
       case rel=>exact ⟨m+1,_,c',hv,ws,hl,out++[f],rfl,by omega,HL2,HS,HA2,HB⟩
       case measure=>simp [lenS8];omega
end Go.Proofs.YtponeoijfaepnaaGreatDoor
