/-
  Parts of one proof, one behind the other: TaskS4, TaskS5, TaskC, TaskD, Hash, FromHex, Lists, ListsX, FrameS.
-/
import Derived.Test.YtdbljnddkbpanaaGreatDoorP16
import Derived.Test.YtdbljnddkbpanaaGreatDoorP15
import Derived.Test.YtdbljnddkbpanaaGreatDoorRows
import Derived.Test.YtdbljnddkbpanaaGreatDoorP1
import Derived.WalkKit
import Derived.WalkLawsBesides
import Derived.OpenShut
import Derived.Test.YtdbljnddkbpanaaGreatDoorP5
import Derived.Laws.Externs
import Derived.Handy
import Derived.Test.YtdbljnddkbpanaaGreatDoorP3
import Derived.Test.YtdbljnddkbpanaaGreatDoorP2
namespace Go.Proofs.YtdbljnddkbpanaaGreatDoor
open Go.RowKit
theorem znO {ts:List Ta} {e n:Int} {j:List UInt8} (h:¬(((inB (ts.length:Int) 1 8 && inB e 1 1000) && inB n 0 1000000)=true∧j.length≤60000)):zay (ts,e,n,j)=false:=by
 rw [Bool.eq_false_iff]
 intro k
 obtain ⟨h1,h2,h3,h4,_⟩:=zau.1 k
 refine h ⟨?_,h4⟩
 simp only at h1 h2 h3
 unfold inB
 simp only [Bool.and_eq_true,decide_eq_true_eq]
 omega
theorem deskB_no {ts:List Ta} {e n:Int} {j:List UInt8} {i:Nat} (hi:i<ts.length) (h:¬zcG ts i):zay (ts,e,n,j)=false:=by
 rw [Bool.eq_false_iff]
 intro k
 exact h ((zau.1 k).one i hi)
theorem zpE {ts:List Ta} {e n:Int} {j:List UInt8} (h1:inB (ts.length:Int) 1 8=true) (h2:inB e 1 1000=true) (h3:inB n 0 1000000=true) (h4:j.length≤60000) (h:∀ i,i<ts.length→zcG ts i):zay (ts,e,n,j)=true:=by
 unfold inB at h1 h2 h3
 have h1:=of_decide_eq_true h1
 exact zau.2 ⟨by show 1≤ts.length∧ts.length≤8;omega,of_decide_eq_true h2,of_decide_eq_true h3,h4,h⟩
set_option maxHeartbeats 4000000 in
set_option maxRecDepth 100000 in
theorem zng (a:Option Addr) (len cap:Nat) (ts:List Ta) (ep nw:Int) (jr:List UInt8) (w:World) (hin:zaK w a len ts) (hsh:zav ts) (hlen:len≤1048576) :
 Calls Tryz.prog 27 #[.agg #[.slice a len cap,.int .i64 ep,.int .i64 nw,.string ⟨jr.toArray⟩]] w
  fun e w'=>e=.returned (.bool (zay (ts,ep,nw,jr)))∧Below w.heap.size w w':=by
 obtain rfl:ts.length=len:=hin.1
 obtain ⟨W,hW⟩:∃ W,w.alloc (.cells #[.slice a ts.length cap,.int .i64 ep,.int .i64 nw,.string ⟨jr.toArray⟩] 29)=W:=⟨_,rfl⟩
 have hbW:Below w.heap.size w W:=by rw [←hW];exact (Below.refl _ _).alloc (Nat.le_refl _) _
 have hA:W.heap[w.heap.size]?=some (.cells #[.slice a ts.length cap,.int .i64 ep,.int .i64 nw,.string ⟨jr.toArray⟩] 29):=by rw [←hW];exact heap_alloc_new w _
 obtain ⟨D,hD⟩:∃ D,w.heap.size=D:=⟨_,rfl⟩
 rw [hD] at hA
 have k0:W.cell? ⟨D,0,none⟩=some (.slice a ts.length cap):=by simp [World.cell?,hA]
 have k1:W.cell? ⟨D,1,none⟩=some (.int .i64 ep):=by simp [World.cell?,hA]
 have k2:W.cell? ⟨D,2,none⟩=some (.int .i64 nw):=by simp [World.cell?,hA]
 have k3:W.cell? ⟨D,3,none⟩=some (.string ⟨jr.toArray⟩):=by simp [World.cell?,hA]
 have hDl:D<W.heap.size:=World.block_lt_of_cell? W ⟨D,0,none⟩ k0
 have HI:Hid (∀ Z,Below W.heap.size W Z→zaK Z a ts.length ts):=fun Z hz=>(hin.below hbW).below hz
 have HB:Hid (∀ Z,Below W.heap.size W Z→Below D w Z):=fun Z hz=>hD▸hbW.trans (hz.mono hbW.size)
 have HC:Hid (∀ Z,Below W.heap.size W Z→Z.cell? ⟨D,0,none⟩=some (.slice a ts.length cap)):=fun Z hz=>(hz.cell (p:=⟨D,0,none⟩) hDl).trans k0
 have HN:Hid (_):=zc0 (ts.length:Int) 1 8 W
 have HE:Hid (_):=zc0 ep 1 1000 W
 have HT:Hid (_):=zmb nw W
 have HS:Hid (zav ts):=hsh
 have HB0:Hid (Below W.heap.size W W):=Below.refl _ _
 have HH:Hid (¬(((inB (ts.length:Int) 1 8 && inB ep 1 1000) && inB nw 0 1000000)=true∧jr.length≤60000)→zay (ts,ep,nw,jr)=false):=znO
 have HY:Hid (inB (ts.length:Int) 1 8=true→inB ep 1 1000=true→inB nw 0 1000000=true→jr.length≤60000→(∀ i,i<ts.length→zcG ts i)→zay (ts,ep,nw,jr)=true):=zpE
 generalize inB (ts.length:Int) 1 8=b1 at HN HH HY
 generalize inB ep 1 1000=b2 at HE HH HY
 generalize inB nw 0 1000000=b3 at HT HH HY
 clear hin hsh hbW hA hDl
 go_enter Tryz.func27,Tryz.ntmps27
 go_wp2_with fail
 refine Calls.mono HN.out ?_
 rintro e W1 ⟨rfl,hw1⟩
 obtain rfl:=hw1.symm
 clear hw1 HN
 rcases b1 with _ | _
 ·
  have HF:Hid (_):=HH.out (fun e=>by cases e.1)
  go_wp2
  go_ret
  exact ⟨by rw [HF.out];rfl,hD▸HB.out _ HB0.out⟩
 ·
  go_wp2_with fail
  refine Calls.mono HE.out ?_
  rintro e W2 ⟨rfl,hw2⟩
  obtain rfl:=hw2.symm
  clear hw2 HE
  rcases b2 with _ | _
  ·
   have HF:Hid (_):=HH.out (fun e=>by cases e.1)
   go_wp2
   go_ret
   exact ⟨by rw [HF.out];rfl,hD▸HB.out _ HB0.out⟩
  ·
   go_wp2_with fail
   refine Calls.mono HT.out ?_
   rintro e W3 ⟨rfl,hw3⟩
   obtain rfl:=hw3.symm
   clear hw3 HT
   rcases b3 with _ | _
   ·
    have HF:Hid (_):=HH.out (fun e=>by cases e.1)
    go_wp2
    go_ret
    exact ⟨by rw [HF.out];rfl,hD▸HB.out _ HB0.out⟩
   ·
    by_cases hj6:jr.length≤60000
    ·
     have HY2:Hid (_):=HY.out (by first | rfl | trivial) (by first | rfl | trivial) (by first | rfl | trivial) hj6
     clear HY HH
     go_wp2
     go_loopw [4] (fun iv wr=>∃ i:Nat,iv=.int .i64 (i:Int)∧i≤ts.length∧Hid (∀ q,q<i→zcG ts q)∧Hid (Below W.heap.size W wr)) (fun iv _=>ts.length-(intOf iv).toNat)
     case atStart=>exact ⟨0,rfl,by omega,fun q hq=>by omega,HB0⟩
     case round =>
      obtain ⟨i,rfl,hi,HA,HBr⟩:=hrel
      by_cases hlt:(i:Int)<(ts.length:Int)
      ·
       have hI:=HI.out wr HBr.out
       obtain ⟨b,off,rfl,hbl,c0,⟨na,nc,c1,hn⟩,c2,c3,c4,c5⟩:=hI.2 i (by omega)
       clear k0
       have k0:=HC.out wr HBr.out
       have hsh:=HS.out i
       have hN1:zcG ts i↔zaF (ts.getD i ta0).1=true∧zcd (i:Int) (ts.getD i ta0)=true∧∀ k,k<i→(ts.getD k ta0).1≠(ts.getD i ta0).1:=Iff.rfl
       obtain ⟨x,hx⟩:∃ x,ts.getD i ta0=x:=⟨_,rfl⟩
       rw [hx] at c0 c1 hn c2 c3 c4 c5 hsh hN1
       obtain ⟨nm,ns,st,wk,un,ke⟩:=x
       simp only at c0 c1 hn c2 c3 c4 c5 hsh hN1
       have HNm:Hid (_):=zcg nm wr hsh.1
       have HTk:Hid (_):=specTask nm na nc ns st wk un ke i wr hn hsh.2
       have HNo:Hid (¬zcG ts i→zay (ts,ep,nw,jr)=false):=fun h=>deskB_no (by omega) h
       have HN1:Hid (_):=hN1
       clear hN1 hI hn hsh
       generalize zaF nm=b1 at HNm HN1
       generalize zcd (i:Int) (nm,ns,st,wk,un,ke)=b2 at HTk HN1
       rcases b1 with _ | _
       ·
        have HF:Hid (_):=HNo.out (fun h=>by cases (HN1.out.1 h).1)
        clear HNo HN1 HA HY2
        go_wp2_with (go_at_call 64;refine Calls.mono HNm.out ?_;rintro e w1 ⟨rfl,rfl⟩)
        go_ret
        exact ⟨by rw [HF.out];rfl,hD▸HB.out _ HBr.out⟩
       ·
        rcases b2 with _ | _
        ·
         have HF:Hid (_):=HNo.out (fun h=>by cases (HN1.out.1 h).2.1)
         clear HNo HN1 HA HY2
         go_wp2_with (first | (go_at_call 64;refine Calls.mono HNm.out ?_;rintro e w1 ⟨rfl,rfl⟩) | (go_at_call 65;refine Calls.mono HTk.out ?_;rintro e w2 ⟨rfl,hb2⟩))
         go_ret
         exact ⟨by rw [HF.out];rfl,hD▸HB.out _ (HBr.out.trans (hb2.mono HBr.out.size))⟩
        ·
         go_wp2_with (first | (go_at_call 64;refine Calls.mono HNm.out ?_;rintro e w1 ⟨rfl,rfl⟩) | (go_at_call 65;refine Calls.mono HTk.out ?_;rintro e w2 ⟨rfl,hb2⟩))
         have HB2:Hid (Below W.heap.size W w2):=HBr.out.trans (hb2.mono HBr.out.size)
         have HX:Hid (∀ Z,Below W.heap.size W Z→Z.cell? ⟨b,off+i*6,none⟩=some (.string ⟨nm.toArray⟩)):=fun Z hz=>by
          obtain ⟨b',off',e,_,d0,_⟩:=(HI.out Z hz).2 i (by omega)
          injection e with e
          injection e with e1 e2 _
          subst e1 e2
          rw [hx] at d0
          exact d0
         have HXn:Hid ((ts.getD i ta0).1=nm):=by exact (by rw [hx]:(ts.getD i ta0).1=nm)
         clear hb2 c0 c1 c2 c3 c4 c5 k0 HBr HTk HNm hx
         go_loopw [5] (fun iv wr=>∃ k:Nat,iv=.int .i64 (k:Int)∧k≤i∧Hid (∀ q,q<k→(ts.getD q ta0).1≠nm)∧Hid (Below W.heap.size W wr)) (fun iv _=>i-(intOf iv).toNat)
         case atStart=>exact ⟨0,rfl,by omega,fun q hq=>by omega,HB2⟩
         case round =>
          obtain ⟨k,rfl,hk,HQ,HBk⟩:=hrel
          rename World=>U
          clear HB2
          have k0:=HC.out U HBk.out
          have c0:=HX.out U HBk.out
          have HBd:Hid (Below W.heap.size W U.drew):=HBk.out.trans (by exact ⟨rfl,rfl,rfl,Nat.le_refl _,fun _ _=>rfl⟩)
          by_cases hkl:(k:Int)<(i:Int)
          ·
           obtain ⟨b',off',e,_,d0,_⟩:=(HI.out U HBk.out).2 k (by omega)
           injection e with e
           injection e with e1 e2 _
           subst e1 e2
           obtain ⟨y,hy⟩:∃ y,(ts.getD k ta0).1=y:=⟨_,rfl⟩
           rw [hy] at d0
           by_cases hyn:y=nm
           ·
            have HF:Hid (_):=HNo.out (fun h=>(HN1.out.1 h).2.2 k (by omega) (by rw [hy];exact hyn))
            have heb:(y==nm)=true:=by rw [hyn];simp
            clear HQ HNo HN1 HX HI HC HA hy hyn
            go_wp2
            refine wp_region_held_drew (S:=fun Z=>Z.cell? ⟨D,0,none⟩=some (.slice (some ⟨b,off,none⟩) ts.length cap)∧Z.cell? ⟨b,off+k*6,none⟩=some (.string ⟨y.toArray⟩)∧Z.cell? ⟨b,off+i*6,none⟩=some (.string ⟨nm.toArray⟩)) (by kernel_rfl) (by exact ⟨k0,d0,c0⟩) (fun hHeld=>?_)
            refine tkO [(0,58),(1,59),(2,60),(3,61),(4,62),(5,63),(6,64),(7,65),(8,66),(9,67),(10,68),(11,69)] ?_
            repeat (refine tkY ?_ rfl (by rfl) ?_ ?_;rotate_left;(focus (intro wq hSw;obtain ⟨z0,z1,z2⟩:=hSw;first | (go_simp;done) | (go_simp;with_reducible rfl) | (go_simp;rw [if_pos (by omega)])));simp only [zP])
            refine tkZ ?_
            refine wpAnyH_take (i:=12) (oi:=⟨some 70,_,_,_,_,_⟩) (v:=.bool true) rfl (by kernel_rfl) (by kernel_rfl) (by kernel_rfl) (fun _ _ _ h=>h) (Or.inl ⟨by rfl,?hy244⟩) (by assumption) ?rest244
            case hy244=>(intro wq hSw;clear hSw;first | (go_simp;done) | (go_simp;with_reducible rfl) | (go_simp;simp only [Result.ok.injEq,Next.value.injEq,Value.bool.injEq,decide_eq_true_eq,decide_eq_false_iff_not,and_true];first | omega | assumption))
            simp only [zP]
            refine wpAnyH_done (by kernel_rfl) ?_ _
            (try dsimp only)
            go_wp2
            go_ret
            exact ⟨by rw [HF.out];rfl,hD▸HB.out _ HBd.out⟩
           ·
            have heb:(y==nm)=false:=beq_eq_false_iff_ne.2 hyn
            have HR:Hid (∀ q,q<k+1→(ts.getD q ta0).1≠nm):=fun q hq=>by
             rcases Nat.lt_or_ge q k with g | g
             ·
              exact HQ.out q g
             ·
              obtain rfl:q=k:=by omega
              rw [hy];exact hyn
            clear HQ hy hyn
            go_wp2
            refine wp_region_held_drew (S:=fun Z=>Z.cell? ⟨D,0,none⟩=some (.slice (some ⟨b,off,none⟩) ts.length cap)∧Z.cell? ⟨b,off+k*6,none⟩=some (.string ⟨y.toArray⟩)∧Z.cell? ⟨b,off+i*6,none⟩=some (.string ⟨nm.toArray⟩)) (by kernel_rfl) (by exact ⟨k0,d0,c0⟩) (fun hHeld=>?_)
            refine tkO [(0,58),(1,59),(2,60),(3,61),(4,62),(5,63),(6,64),(7,65),(8,66),(9,67),(10,68),(11,69)] ?_
            repeat (refine tkY ?_ rfl (by rfl) ?_ ?_;rotate_left;(focus (intro wq hSw;obtain ⟨z0,z1,z2⟩:=hSw;first | (go_simp;done) | (go_simp;with_reducible rfl) | (go_simp;rw [if_pos (by omega)])));simp only [zP])
            refine tkZ ?_
            refine wpAnyH_take (i:=12) (oi:=⟨some 70,_,_,_,_,_⟩) (v:=.bool false) rfl (by kernel_rfl) (by kernel_rfl) (by kernel_rfl) (fun _ _ _ h=>h) (Or.inl ⟨by rfl,?hy257⟩) (by assumption) ?rest257
            case hy257=>(intro wq hSw;clear hSw;first | (go_simp;done) | (go_simp;with_reducible rfl) | (go_simp;simp only [Result.ok.injEq,Next.value.injEq,Value.bool.injEq,decide_eq_true_eq,decide_eq_false_iff_not,and_true];first | omega | assumption))
            simp only [zP]
            refine wpAnyH_done (by kernel_rfl) ?_ _
            (try dsimp only)
            go_wp2
            go_roundw
            case rel=>exact ⟨k+1,by go_num,by omega,HR,HBd⟩
            case measure=>simp [intOf];omega
          ·
           have HR:Hid (∀ q,q<i+1→zcG ts q):=fun q hq=>by
            rcases Nat.lt_or_ge q i with g | g
            ·
             exact HA.out q g
            ·
             obtain rfl:q=i:=by omega
             exact HN1.out.2 ⟨by first | rfl | trivial,by first | rfl | trivial,fun k' hk'=>HQ.out k' (by omega)⟩
           clear HQ HNo HN1 HA
           go_wp2
           go_roundw
           case rel=>exact ⟨i+1,by go_num,by omega,HR,HBk⟩
           case measure=>simp [intOf];omega
      ·
       have HF:Hid (_):=HY2.out (fun q hq=>HA.out q (by omega))
       clear HA HY2
       go_wp2
       go_ret
       exact ⟨by rw [HF.out];rfl,hD▸HB.out _ HBr.out⟩
    ·
     have HF:Hid (_):=HH.out (fun e=>hj6 e.2)
     go_wp2
     go_ret
     exact ⟨by rw [HF.out];rfl,hD▸HB.out _ HB0.out⟩
theorem doneD_no {d:Dk} {i:Nat} (hi:i<d.1.length) (h:(d.1.getD i ta0).2.2.1≠2):zkB d=false:=decide_eq_false (fun e=>h (e i hi))
theorem zpC {d:Dk} (h:∀ i,i<d.1.length→(d.1.getD i ta0).2.2.1=2):zkB d=true:=decide_eq_true h

def ze9 (w w':World) (v:Value) (d:Dk):Prop:=∃ va vc xs,v=.agg #[.slice va d.1.length vc,.int .i64 d.2.1,.int .i64 d.2.2.1,.string ⟨d.2.2.2.toArray⟩]∧xs.map (·.1)=d.1∧za9 w' w.heap.size (.slice va d.1.length vc) xs∧zao (xs.map tvT)∧Below w.heap.size w w'
theorem ze9.zero {w w':World} (h:Below w.heap.size w w'):ze9 w w' (.agg #[.slice none 0 0,.int .i64 0,.int .i64 0,.string ⟨#[]⟩]) dk0:=⟨none,0,[],rfl,rfl,za9.nil _ _,zao.nil,h⟩
set_option maxHeartbeats 1000000 in
set_option maxRecDepth 100000 in
theorem specTick (B:Nat) (va v1 v3:Value) (nw n:Int) (w:World) (h:B4 w B va v1 (.int .i64 nw) v3) (h0:0≤nw) (h1:nw≤1000000) (hn0:-9223372036854775808≤n) (hn1:n≤9223372036854775807) :
 Calls Tryz.prog 74 #[.pointer (some ⟨B,0,none⟩),.int .i64 n] w fun e w'=>e=.returned (.bool (inB n 0 (1000000-nw)))∧w'=if inB n 0 (1000000-nw)=true then w.setCell ⟨B,2,none⟩ (.int .i64 (nw+n)) else w:=by
 have HI:Hid (_):=zc0 n 0 (1000000-nw) w
 have k2:=h.c2
 have kf:=h.fr 2
 have HB:Hid (inB n 0 (1000000-nw)=true→0≤n∧n≤1000000-nw):=fun e=>by unfold inB at e;exact of_decide_eq_true e
 generalize inB n 0 (1000000-nw)=b at HI HB ⊢
 clear h
 rcases b with _ | _
 ·
  go_enter Tryz.func74,Tryz.ntmps74
  go_wp2_with (go_at_call 38;refine Calls.mono HI.out ?_;rintro e w1 ⟨rfl,rfl⟩)
  go_ret
  exact ⟨rfl,rfl⟩
 ·
  obtain ⟨hb0,hb1⟩:=HB.out rfl
  go_enter Tryz.func74,Tryz.ntmps74
  go_wp2_with (go_at_call 38;refine Calls.mono HI.out ?_;rintro e w1 ⟨rfl,rfl⟩)
  go_ret
  exact ⟨rfl,rfl⟩
set_option maxHeartbeats 400000 in
set_option maxRecDepth 100000 in
theorem specHash (s:ByteArray) (w:World) (hs:s.size≤maxLen) :
 Calls Tryz.prog 40 #[.string s] w fun e w'=>e=.returned (.int .i64 (zbx s.data.toList))∧w'=w:=by
 unfold maxLen at hs
 go_enter Tryz.func40,Tryz.ntmps40
 go_wp2
 go_loop [3,4] (fun h i=>∃ k:Nat,k≤s.size∧i=.int .i64 k∧h=.int .i64 (zbx (s.data.toList.take k))) (fun _ i=>s.size-(intOf i).toNat)
 case atStart=>exact ⟨0,Nat.zero_le _,rfl,rfl⟩
 case round =>
  obtain ⟨k,hk,rfl,rfl⟩:=hrel
  have hd:=zff (s.data.toList.take k)
  by_cases hlt:k<s.size
  ·
   have HS:Hid (zbx (s.data.toList.take (k+1))=zbK (zbx (s.data.toList.take k)) s[k]):=zic s k hlt
   go_wp2
   go_round
   case rel=>exact ⟨k+1,by omega,by go_num,by rw [HS.out,←stepW _ _ hd]⟩
   case measure=>simp [intOf];omega
  ·
   go_wp2
   go_ret
   exact ⟨zdV (by rw [List.take_of_length_le (by simp;omega)]),rfl⟩
set_option maxHeartbeats 400000 in
set_option maxRecDepth 100000 in
theorem implWith (h:Int) (b:UInt8) (w:World) (hd:0≤h∧h<2147483647) :
 Calls Tryz.prog 116 #[.int .i64 h,.int .u8 (b.toNat:Int)] w fun e w'=>e=.returned (.int .i64 (zbK h b))∧w'=w:=by
 have HS:Hid (_=zbK h b):=stepW h b hd
 go_enter Tryz.func116,Tryz.ntmps116
 go_wp2
 go_ret
 exact ⟨zdV (by rw [←HS.out]),rfl⟩
set_option maxHeartbeats 400000 in
set_option maxRecDepth 100000 in
theorem zgW (s:ByteArray) (w:World) (hs:s.size≤maxLen) :
 Calls Tryz.prog 115 #[.int .i64 17,.string s,.func (.func 116) #[] #[]] w fun e w'=>e=.returned (.int .i64 (zbx s.data.toList))∧w'=w:=by
 unfold maxLen at hs
 go_enter Tryz.func115,Tryz.ntmps115
 go_wp2
 go_loop [7,12] (fun h i=>∃ k:Nat,k≤s.size∧i=.int .i64 k∧h=.int .i64 (zbx (s.data.toList.take k))) (fun _ i=>s.size-(intOf i).toNat)
 case atStart=>exact ⟨0,Nat.zero_le _,rfl,rfl⟩
 case round =>
  obtain ⟨k,hk,rfl,rfl⟩:=hrel
  have hd:=zff (s.data.toList.take k)
  by_cases hlt:k<s.size
  ·
   have HS:Hid (zbx (s.data.toList.take (k+1))=zbK (zbx (s.data.toList.take k)) s[k]):=zic s k hlt
   go_wp2_with (go_at_call 116;refine (implWith _ _ _ hd).mono ?_;rintro e w' ⟨rfl,rfl⟩)
   go_round
   case rel=>exact ⟨k+1,by omega,by go_num,by rw [HS.out]⟩
   case measure=>simp [intOf];omega
  ·
   go_wp2
   go_ret
   exact ⟨zdV (by rw [List.take_of_length_le (by simp;omega)]),rfl⟩
set_option maxHeartbeats 400000 in
set_option maxRecDepth 100000 in
theorem implHash (s:ByteArray) (w:World) (hs:s.size≤maxLen) :
 Calls Tryz.prog 89 #[.string s] w fun e w'=>e=.returned (.int .i64 (zbx s.data.toList))∧w'=w:=by
 go_enter Tryz.func89,Tryz.ntmps89
 go_wp2_with (go_at_call 115;refine (zgW _ _ hs).mono ?_;rintro e w' ⟨rfl,rfl⟩)
 go_ret
 exact ⟨rfl,rfl⟩
theorem zpr (c:UInt8) (w:World):(callFunc 183 #[.string ⟨#[48,49,50,51,52,53,54,55,56,57,97,98,99,100,101,102]⟩,.int .u8 (c.toNat:Int)]).run Tryz.prog w=.ok (.value (.int .i64 (hv c))) w:=by
 rw [run_callFunc_extern Tryz.func183 (by kernel_rfl) (by kernel_rfl) (by kernel_rfl) (e:=Extern.BytealgIndexByte.indexByte) (by kernel_rfl),Lib.run_indexByteString,hv_idx]
 rfl
set_option maxHeartbeats 400000 in
set_option maxRecDepth 100000 in
theorem zpe (c:UInt8) (w:World) :
 Calls Tryz.prog 161 #[.string ⟨#[48,49,50,51,52,53,54,55,56,57,97,98,99,100,101,102]⟩,.int .u8 (c.toNat:Int)] w fun e w'=>e=.returned (.int .i64 (hv c))∧w'=w:=by
 have hx:=zpr c
 go_enter Tryz.func161,Tryz.ntmps161
 go_wp2
 go_ret
 exact ⟨rfl,rfl⟩
set_option maxHeartbeats 400000 in
set_option maxRecDepth 100000 in
theorem zls (h:Int) (b:UInt8) (w:World) (hd:-1≤h∧h≤4294967295) :
 Calls Tryz.prog 139 #[.int .i64 h,.int .u8 (b.toNat:Int)] w fun e w'=>e=.returned (.int .i64 (zaA h b))∧w'=w:=by
 have hb:=zhH b
 by_cases h1:h=-1
 ·
  subst h1
  have HS:Hid (zaA (-1) b=-1):=zfd b
  go_enter Tryz.func139,Tryz.ntmps139
  go_wp2_with (go_at_call 161;refine (zpe _ _).mono ?_;rintro e w' ⟨rfl,rfl⟩)
  go_ret
  exact ⟨zdV (by rw [HS.out]),rfl⟩
 ·
  have hne:(h==-1)=false:=beq_eq_false_iff_ne.2 h1
  by_cases h2:hv b<0
  ·
   have HS:Hid (zaA h b=-1):=by unfold zaA;exact if_pos (Or.inr h2)
   clear h1
   go_enter Tryz.func139,Tryz.ntmps139
   go_wp2_with (go_at_call 161;refine (zpe _ _).mono ?_;rintro e w' ⟨rfl,rfl⟩)
   go_ret
   exact ⟨zdV (by rw [HS.out]),rfl⟩
  ·
   have HS:Hid (zaA h b=16*h+hv b):=by unfold zaA;exact if_neg (by omega)
   clear h1
   go_enter Tryz.func139,Tryz.ntmps139
   go_wp2_with (go_at_call 161;refine (zpe _ _).mono ?_;rintro e w' ⟨rfl,rfl⟩)
   go_ret
   exact ⟨zdV (by rw [HS.out]),rfl⟩
set_option maxHeartbeats 400000 in
set_option maxRecDepth 100000 in
theorem zeC (s:ByteArray) (w:World) (hs:s.size=8) :
 Calls Tryz.prog 115 #[.int .i64 0,.string s,.func (.func 139) #[] #[]] w fun e w'=>e=.returned (.int .i64 (zb7 s.data.toList))∧w'=w:=by
 have HZ:Hid (s.size=8):=hs
 have hs':s.size≤8:=by omega
 clear hs
 go_enter Tryz.func115,Tryz.ntmps115
 go_wp2
 go_loop [7,12] (fun h i=>∃ k:Nat,k≤s.size∧i=.int .i64 k∧h=.int .i64 (zb7 (s.data.toList.take k))) (fun _ i=>s.size-(intOf i).toNat)
 case atStart=>exact ⟨0,Nat.zero_le _,rfl,rfl⟩
 case round =>
  obtain ⟨k,hk,rfl,rfl⟩:=hrel
  have hd:=zgl (s.data.toList.take k) (by have:=List.length_take_le k s.data.toList;omega)
  by_cases hlt:k<s.size
  ·
   have HS:Hid (zb7 (s.data.toList.take (k+1))=zaA (zb7 (s.data.toList.take k)) s[k]):=zie s k hlt
   go_wp2_with (go_at_call 139;refine (zls _ _ _ hd).mono ?_;rintro e w' ⟨rfl,rfl⟩)
   go_round
   case rel=>exact ⟨k+1,by omega,by go_num,by rw [HS.out]⟩
   case measure=>simp [intOf];omega
  ·
   go_wp2
   go_ret
   exact ⟨zdV (by rw [List.take_of_length_le (by simp;omega)]),rfl⟩
set_option maxHeartbeats 400000 in
set_option maxRecDepth 100000 in
theorem zlF (s:ByteArray) (w:World) :
 Calls Tryz.prog 109 #[.string s] w fun e w'=>e=.returned (.tuple #[.int .i64 (zbd s.data.toList),.bool (zc3 s.data.toList)])∧w'=w:=by
 have hsz:s.data.toList.length=s.size:=by simp
 by_cases h8:s.size=8
 ·
  have hb8:((s.size:Int) !=8)=false:=by rw [h8];rfl
  by_cases h1:zb7 s.data.toList=-1
  ·
   have hn:=zj9 s.data.toList (Or.inr h1)
   have HB:Hid (zc3 s.data.toList=false∧zbd s.data.toList=0):=hn
   have hq:(zb7 s.data.toList==-1)=true:=beq_iff_eq.2 h1
   have H8:Hid (s.size=8):=h8
   clear hn hsz h8 h1
   go_enter Tryz.func109,Tryz.ntmps109
   go_wp2_with (go_at_call 115;refine (zeC _ _ H8.out).mono ?_;rintro e w' ⟨rfl,rfl⟩)
   go_ret2
   exact ⟨zhV HB.out.2.symm HB.out.1.symm,rfl⟩
  ·
   have HB:Hid (zc3 s.data.toList=true∧zbd s.data.toList=zb7 s.data.toList):=zgk s.data.toList (by omega) h1
   have hq:(zb7 s.data.toList==-1)=false:=beq_eq_false_iff_ne.2 h1
   have H8:Hid (s.size=8):=h8
   clear hsz h8 h1
   go_enter Tryz.func109,Tryz.ntmps109
   go_wp2_with (go_at_call 115;refine (zeC _ _ H8.out).mono ?_;rintro e w' ⟨rfl,rfl⟩)
   go_ret2
   exact ⟨zhV HB.out.2.symm HB.out.1.symm,rfl⟩
 ·
  have hb8:((s.size:Int) !=8)=true:=by rw [bne_iff_ne];omega
  have HB:Hid (zc3 s.data.toList=false∧zbd s.data.toList=0):=zj9 s.data.toList (Or.inl (by omega))
  clear hsz h8
  go_enter Tryz.func109,Tryz.ntmps109
  go_wp2
  go_ret2
  exact ⟨zhV HB.out.2.symm HB.out.1.symm,rfl⟩
set_option maxHeartbeats 1000000 in
set_option maxRecDepth 100000 in
theorem zl8 (s:ByteArray) (w:World) :
 Calls Tryz.prog 70 #[.string s] w fun e w'=>e=.returned (.tuple #[.int .i64 (zbd s.data.toList),.bool (zc3 s.data.toList)])∧w'=w:=by
 have hsz:s.data.toList.length=s.size:=by simp
 by_cases h8:s.size=8
 ·
  have hb8:((s.size:Int) !=8)=false:=by rw [h8];rfl
  have H8:Hid (s.size=8):=h8
  have HZ:Hid (s.data.toList.length=s.size):=hsz
  clear hsz h8
  go_enter Tryz.func70,Tryz.ntmps70
  go_wp2
  go_loop [4,5] (fun n i=>∃ k:Nat,k≤8∧i=.int .i64 k∧n=.int .i64 (zb7 (s.data.toList.take k))∧0≤zb7 (s.data.toList.take k)) (fun _ i=>8-(intOf i).toNat)
  case atStart=>exact ⟨0,Nat.zero_le _,rfl,rfl,by simp [zb7]⟩
  case round =>
   obtain ⟨k,hk,rfl,rfl,hpos⟩:=hrel
   have hd:=zgl (s.data.toList.take k) (by have:=List.length_take_le k s.data.toList;omega)
   by_cases hlt:k<8
   ·
    have hlt':k<s.size:=by have:=H8.out;omega
    have HS:Hid (zb7 (s.data.toList.take (k+1))=zaA (zb7 (s.data.toList.take k)) s[k]):=zie s k hlt'
    have HL:Hid (zb7 (s.data.toList.take (k+1))≤4294967295):=(zgl (s.data.toList.take (k+1)) (by have:=List.length_take_le (k+1) s.data.toList;omega)).2
    rcases (show (48≤s[k].toNat∧s[k].toNat≤57)∨(97≤s[k].toNat∧s[k].toNat≤102)∨s[k].toNat<48∨(57<s[k].toNat∧s[k].toNat<97)∨102<s[k].toNat from by omega) with ⟨c1,c2⟩ | ⟨c1,c2⟩ | hc
    ·
     have HV:Hid (zaA (zb7 (s.data.toList.take k)) s[k]=16*zb7 (s.data.toList.take k)+((s[k].toNat:Int)-48)):=zlN _ _ hpos c1 c2
     go_wp2
     go_round
     case rel=>exact ⟨k+1,by omega,by go_num,by rw [HS.out,HV.out],by rw [HS.out,HV.out];omega⟩
     case measure=>simp [intOf];omega
    ·
     have HV:Hid (zaA (zb7 (s.data.toList.take k)) s[k]=16*zb7 (s.data.toList.take k)+((s[k].toNat:Int)-87)):=zlM _ _ hpos c1 c2
     go_wp2
     go_round
     case rel=>exact ⟨k+1,by omega,by go_num,by rw [HS.out,HV.out];go_num,by rw [HS.out,HV.out];omega⟩
     case measure=>simp [intOf];omega
    ·
     have HV:Hid (zaA (zb7 (s.data.toList.take k)) s[k]=-1):=zkl _ _ hc
     have HB:Hid (zc3 s.data.toList=false∧zbd s.data.toList=0):=zj9 s.data.toList (Or.inr (zlR s (k+1) (by rw [HS.out,HV.out])))
     rcases hc with hc | ⟨hc,hc'⟩ | hc
     all_goals
      go_wp2
      go_ret2
      exact ⟨zhV HB.out.2.symm HB.out.1.symm,rfl⟩
   ·
    have e:s.data.toList.take k=s.data.toList:=List.take_of_length_le (by have:=H8.out;have:=HZ.out;omega)
    rw [e] at hpos hd ⊢
    have HB:Hid (zc3 s.data.toList=true∧zbd s.data.toList=zb7 s.data.toList):=zgk s.data.toList (by have:=H8.out;have:=HZ.out;omega) (by omega)
    clear e
    go_wp2
    go_ret2
    exact ⟨zhV HB.out.2.symm HB.out.1.symm,rfl⟩
 ·
  have hb8:((s.size:Int) !=8)=true:=by rw [bne_iff_ne];omega
  have HB:Hid (zc3 s.data.toList=false∧zbd s.data.toList=0):=zj9 s.data.toList (Or.inl (by omega))
  clear hsz h8
  go_enter Tryz.func70,Tryz.ntmps70
  go_wp2
  go_ret2
  exact ⟨zhV HB.out.2.symm HB.out.1.symm,rfl⟩
theorem zl3 (l x:List UInt8) (p q:Int) (w:World) (hx:zda l p q=x) (hl:l.length≤1048576) :
 Calls Tryz.prog 16 #[.string ⟨l.toArray⟩,.int .i64 p,.int .i64 q] w fun e w'=>e=.returned (.string ⟨x.toArray⟩)∧Below w.heap.size w w':=by
 subst hx;exact zn9 ⟨l.toArray⟩ p q w hl
theorem zkj (l:List UInt8) (w:World) (hl:l.length≤1048576) :
 Calls Tryz.prog 89 #[.string ⟨l.toArray⟩] w fun e w'=>e=.returned (.int .i64 (zbx l))∧w'=w :=
 implHash ⟨l.toArray⟩ w (by unfold maxLen;exact Nat.le_trans hl (by decide))
theorem zjL (l:List UInt8) (w:World) (hl:l.length≤1048576) :
 Calls Tryz.prog 40 #[.string ⟨l.toArray⟩] w fun e w'=>e=.returned (.int .i64 (zbx l))∧w'=w :=
 specHash ⟨l.toArray⟩ w (by unfold maxLen;exact Nat.le_trans hl (by decide))
theorem zi8 (n:Int) (s:List UInt8) (w:World) (h:hexS n=s) :
 Calls Tryz.prog 88 #[.int .i64 n] w fun e w'=>e=.returned (.string ⟨s.toArray⟩)∧Below w.heap.size w w':=by
 subst h;exact zpa n w
theorem zfT (t:List UInt8) (x:Int) (b:Bool) (w:World) (hx:zbd t=x) (hb:zc3 t=b) :
 Calls Tryz.prog 109 #[.string ⟨t.toArray⟩] w fun e w'=>e=.returned (.tuple #[.int .i64 x,.bool b])∧w'=w:=by
 subst hx hb;exact zlF ⟨t.toArray⟩ w
theorem zfM (t:List UInt8) (x:Int) (b:Bool) (w:World) (hx:zbd t=x) (hb:zc3 t=b) :
 Calls Tryz.prog 70 #[.string ⟨t.toArray⟩] w fun e w'=>e=.returned (.tuple #[.int .i64 x,.bool b])∧w'=w:=by
 subst hx hb;exact zl8 ⟨t.toArray⟩ w
set_option maxHeartbeats 400000 in
set_option maxRecDepth 100000 in
theorem zdT (l:List UInt8) (w:World) (hl:l.length≤1048576) :
 Calls Tryz.prog 17 #[.string ⟨l.toArray⟩] w fun e w'=>e=.returned (.string ⟨(zaj l).toArray⟩)∧Below w.heap.size w w':=by
 have hd:=zff l
 go_enter Tryz.func17,Tryz.ntmps17
 go_wp2_with fail
 refine (zjK _ _ (by omega) (by omega)).mono ?_
 rintro e w1 ⟨rfl,hb1⟩
 go_wp2_with fail
 refine (zjL l _ hl).mono ?_
 rintro e w2 ⟨rfl,rfl⟩
 go_wp2_with fail
 refine (zjK _ _ (by omega) (by omega)).mono ?_
 rintro e w3 ⟨rfl,hb3⟩
 have h8:∀ n,(hexL n).length=8:=fun _=>rfl
 have hcat:=zbU
 go_wp2
 go_ret
 exact ⟨rfl,hb1.trans (hb3.mono hb1.size)⟩
set_option maxHeartbeats 1000000 in
set_option maxRecDepth 100000 in
theorem zoe (l:List UInt8) (w:World) (hl:l.length≤1048576) :
 Calls Tryz.prog 33 #[.string ⟨l.toArray⟩] w fun e w'=>e=.returned (.tuple #[.string ⟨(zap l).toArray⟩,.int .i64 (zc8 l),.bool (zaU l)])∧w'=w:=by
 have hext:=zbL
 by_cases h16:(l.length:Int)<16
 ·
  have HF:Hid (zap l=[]∧zc8 l=0∧zaU l=false):=zcw l (by omega)
  go_enter Tryz.func33,Tryz.ntmps33
  go_wp2
  go_ret3
  exact ⟨zeG HF.out.1.symm HF.out.2.1.symm HF.out.2.2.symm,rfl⟩
 ·
  obtain ⟨k,hk⟩:∃ k:Nat,zbd (l.take 8)=(k:Int):=Int.eq_ofNat_of_zero_le (zel (l.take 8)).1
  obtain ⟨h,hh⟩:∃ h:Int,zbd ((l.drop 8).take 8)=h:=⟨_,rfl⟩
  obtain ⟨one,hone⟩:∃ b:Bool,zc3 (l.take 8)=b:=⟨_,rfl⟩
  obtain ⟨two,htwo⟩:∃ b:Bool,zc3 ((l.drop 8).take 8)=b:=⟨_,rfl⟩
  have hkb:(k:Int)≤4294967295:=by rw [←hk];exact (zel (l.take 8)).2
  have HK:Hid (zbd (l.take 8)=(k:Int)):=hk
  have HH:Hid (zbd ((l.drop 8).take 8)=h):=hh
  have H1:Hid (zc3 (l.take 8)=one):=hone
  have H2:Hid (zc3 ((l.drop 8).take 8)=two):=htwo
  clear hk hh hone htwo
  go_enter Tryz.func33,Tryz.ntmps33
  go_wp2_with fail
  refine (zfM (l.take 8) k one _ HK.out H1.out).mono ?_
  rintro e w1 ⟨rfl,rfl⟩
  go_wp2_with fail
  refine (zfM ((l.drop 8).take 8) h two _ HH.out H2.out).mono ?_
  rintro e w2 ⟨rfl,rfl⟩
  by_cases hall:one=true∧two=true∧(k:Int)≤20000∧16+(k:Int)≤(l.length:Int)
  ·
   obtain ⟨rfl,rfl,hk2,hk3⟩:=hall
   have hkk:(16+(k:Int)).toNat-16=k:=by omega
   have hk4:(16:Int)≤16+(k:Int):=by omega
   have hk5:(0:Int)≤16+(k:Int):=by omega
   go_wp2_with fail
   refine (zjL ((l.drop 16).take k) _ (by have:=List.length_take_le k (l.drop 16);omega)).mono ?_
   rintro e w3 ⟨rfl,rfl⟩
   by_cases hq:zbx ((l.drop 16).take k)=h
   ·
    have HF:Hid (zap l=(l.drop 16).take k∧zc8 l=16+(k:Int)∧zaU l=true):=by
     have:=zeo l (by rw [HK.out,HH.out,H1.out,H2.out];exact ⟨by omega,rfl,rfl,hk2,hk3,by simpa using hq⟩)
     rw [HK.out,Int.toNat_natCast] at this
     exact this
    have hqb:(zbx ((l.drop 16).take k) !=h)=false:=by rw [hq];simp
    clear hq
    go_wp2
    go_ret3
    exact ⟨zeG HF.out.1.symm HF.out.2.1.symm HF.out.2.2.symm,rfl⟩
   ·
    have HF:Hid (zap l=[]∧zc8 l=0∧zaU l=false):=zcw l (by
     rw [HK.out,HH.out,H1.out,H2.out]
     rintro ⟨_,_,_,_,_,a⟩
     exact hq (by simpa using a))
    have hqb:(zbx ((l.drop 16).take k) !=h)=true:=bne_iff_ne.2 hq
    clear hq
    go_wp2
    go_ret3
    exact ⟨zeG HF.out.1.symm HF.out.2.1.symm HF.out.2.2.symm,rfl⟩
  ·
   have HF:Hid (zap l=[]∧zc8 l=0∧zaU l=false):=zcw l (by
    rw [HK.out,HH.out,H1.out,H2.out]
    rintro ⟨_,a,b,c,d,_⟩
    exact hall ⟨a,b,c,d⟩)
   rcases one with _ | _
   ·
    go_wp2
    go_ret3
    exact ⟨zeG HF.out.1.symm HF.out.2.1.symm HF.out.2.2.symm,rfl⟩
   ·
    rcases two with _ | _
    ·
     go_wp2
     go_ret3
     exact ⟨zeG HF.out.1.symm HF.out.2.1.symm HF.out.2.2.symm,rfl⟩
    ·
     by_cases hk2:20000<(k:Int)
     ·
      go_wp2
      go_ret3
      exact ⟨zeG HF.out.1.symm HF.out.2.1.symm HF.out.2.2.symm,rfl⟩
     ·
      have hk3:(l.length:Int)<16+(k:Int):=by
       by_cases h1:(l.length:Int)<16+(k:Int)
       ·
        exact h1
       ·
        exact absurd ⟨rfl,rfl,by omega,by omega⟩ hall
      clear hall
      go_wp2
      go_ret3
      exact ⟨zeG HF.out.1.symm HF.out.2.1.symm HF.out.2.2.symm,rfl⟩
end Go.Proofs.YtdbljnddkbpanaaGreatDoor
