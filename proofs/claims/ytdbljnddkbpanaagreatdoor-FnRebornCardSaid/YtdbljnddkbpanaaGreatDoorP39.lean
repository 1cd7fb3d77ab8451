/-
  Parts of one proof, one behind the other: HeapI, HasI, PlcI, ProjJ.
-/
import Derived.Test.YtdbljnddkbpanaaGreatDoorP38
import Derived.Test.YtdbljnddkbpanaaGreatDoorP7
import Derived.Test.YtdbljnddkbpanaaGreatDoorP12
import Derived.Deep.RegionHeld3
import Derived.Lib.Hide
import Derived.Test.YtdbljnddkbpanaaGreatDoorP4
import Derived.Test.YtdbljnddkbpanaaGreatDoorP23
import Derived.Test.YtdbljnddkbpanaaGreatDoorP32
import Derived.Test.YtdbljnddkbpanaaGreatDoorP10
namespace Go.Proofs.YtdbljnddkbpanaaGreatDoor
open Go.RowKit
def natV (l:List Nat):List Value:=l.map (fun x:Nat=>Value.int .i64 (x:Int))
theorem natV_at (l:List Nat) (j:Nat) (h:j<l.length):(natV l)[j]?=some (.int .i64 ((l.getD j 0:Nat):Int)):=by
 simp [natV,List.getD,List.getElem?_eq_getElem h]
theorem zoQ (l:List Nat) (x:Nat):natV l++[.int .i64 (x:Int)]=natV (l++[x]):=by simp [natV]
theorem zgh (l:List Nat) (i x:Nat):(natV l).set i (.int .i64 (x:Int))=natV (l.set i x):=by simp [natV,List.map_set]
theorem zoP (l:List Nat) (m:Nat):(natV l).take m=natV (l.take m):=by simp [natV,List.map_take]
theorem zbS {w:World} {B g cp n:Nat} {l:List Nat} (h:w.ownsRow B 3 1 (.slice (some ⟨g,0,none⟩) n cp) n (natV l)) (hn:l.length=n) (j:Nat) (hj:j<n):w.cell? ⟨g,j,none⟩=some (.int .i64 ((l.getD j 0:Nat):Int)):=by
 rw [h.cellAt j (by omega),natV_at l j (by omega)]
theorem upLen (a:Option Addr) (n c:Nat) (w:World):Calls Tryz.prog 136 #[.slice a n c] w fun e w'=>e=.returned (.int .i64 (n:Int))∧w'=w:=by
 go_enter Tryz.func136,Tryz.ntmps136
 go_wp2
 go_ret
 exact ⟨rfl,rfl⟩
set_option maxHeartbeats 1000000 in
set_option maxRecDepth 100000 in
theorem zjx (B g cp n:Nat) (l:List Nat) (i j:Nat) (w:World) (h:w.ownsRow B 3 1 (.slice (some ⟨g,0,none⟩) n cp) n (natV l)) (hn:l.length=n) (hi:i<n) (hj:j<n) :
 Calls Tryz.prog 216 #[.slice (some ⟨g,0,none⟩) n cp,.int .i64 (i:Int),.int .i64 (j:Int)] w fun e w'=>e=.returned (.bool (decide (l.getD i 0<l.getD j 0)))∧Below w.heap.size w w':=by
 have c1:=zbS h hn i hi
 have c2:=zbS h hn j hj
 obtain ⟨x,hx⟩:∃ x,l.getD i 0=x:=⟨_,rfl⟩
 obtain ⟨y,hy⟩:∃ y,l.getD j 0=y:=⟨_,rfl⟩
 rw [hx] at c1 ⊢
 rw [hy] at c2 ⊢
 have hi2:(i:Int)<(n:Int):=by omega
 have hj2:(j:Int)<(n:Int):=by omega
 clear h hn hi hj hx hy
 go_enter Tryz.func216,Tryz.ntmps216
 go_wp2_with fail
 go_quiet (fail)
 go_wp2
 go_ret
 exact ⟨rfl,⟨rfl,rfl,rfl,Nat.le_refl _,fun _ _=>rfl⟩⟩
set_option maxHeartbeats 2000000 in
set_option maxRecDepth 100000 in
theorem zjw (B g cp n:Nat) (l:List Nat) (i j:Nat) (w:World) (h:w.ownsRow B 3 1 (.slice (some ⟨g,0,none⟩) n cp) n (natV l)) (hn:l.length=n) (hi:i<n) (hj:j<n) :
 Calls Tryz.prog 219 #[.slice (some ⟨g,0,none⟩) n cp,.int .i64 (i:Int),.int .i64 (j:Int)] w fun e w'=>e=.returned (.tuple #[])∧w'.ownsRow B 3 1 (.slice (some ⟨g,0,none⟩) n cp) n (natV (sw l i j))∧w.grownBy w' (some g):=by
 have c1:=zbS h hn i hi
 have c2:=zbS h hn j hj
 obtain ⟨s1,g1⟩:=h.stored i (.int .i64 ((l.getD j 0:Nat):Int))
 obtain ⟨s2,g2⟩:=s1.stored j (.int .i64 ((l.getD i 0:Nat):Int))
 have hg:=g1.trans g2
 rw [zgh,zgh] at s2
 have HS:Hid (((w.setCell ⟨g,i,none⟩ (.int .i64 ((l.getD j 0:Nat):Int))).setCell ⟨g,j,none⟩ (.int .i64 ((l.getD i 0:Nat):Int))).ownsRow B 3 1 (.slice (some ⟨g,0,none⟩) n cp) n (natV (sw l i j))):=s2
 have HG:Hid (w.grownBy ((w.setCell ⟨g,i,none⟩ (.int .i64 ((l.getD j 0:Nat):Int))).setCell ⟨g,j,none⟩ (.int .i64 ((l.getD i 0:Nat):Int))) (some g)):=hg
 obtain ⟨x,hx⟩:∃ x,l.getD i 0=x:=⟨_,rfl⟩
 obtain ⟨y,hy⟩:∃ y,l.getD j 0=y:=⟨_,rfl⟩
 rw [hx] at c1 HS HG
 rw [hy] at c2 HS HG
 have hi2:(i:Int)<(n:Int):=by omega
 have hj2:(j:Int)<(n:Int):=by omega
 have f1:=h.frozenAt i
 have f2:=s1.frozenAt j
 have d2:(w.setCell ⟨g,i,none⟩ (.int .i64 ((l.getD j 0:Nat):Int))).cell? ⟨g,j,none⟩=some (.int .i64 ((l.getD j 0:Nat):Int)):=by
  have s1':=s1
  rw [zgh] at s1'
  rw [zbS s1' (by rw [List.length_set];exact hn) j hj,zcJ (by omega)]
  split<;>rfl
 rw [hy] at f2 d2
 clear h hn hi hj hx hy s1 g1 s2 g2 hg
 go_enter Tryz.func219,Tryz.ntmps219
 go_wp2_with fail
 go_region
 go_wp2
 go_end0
 exact ⟨rfl,zd4 HS.out ⟨rfl,rfl,rfl,Nat.le_refl _,fun _ _ _=>rfl⟩,HG.out.trans ⟨rfl,rfl,rfl,Nat.le_refl _,fun _ _ _=>rfl⟩⟩
theorem info3:(Tryz.prog.info? 3).map (fun i=>(i.zero,i.size,i.bytes))=some (some (.int .i64 0),1,8):=by kernel_rfl
theorem zeY {X:World} {B:Nat} {v:Value} {n:Nat} {l:List Nat} (T:TypeId) (hT:Tryz.prog.underlying T=some (.slice 3)) (x:Nat) (hv:X.ownsRow B 3 1 v n (natV l)) (hb:B≤X.heap.size) (hn:n≤1048576) :
 ∃ v' Y,(Builtin.append_ #[T,T] T #[v,.slice (some ⟨X.heap.size,0,none⟩) 1 1]).run Tryz.prog (X.alloc (.cells #[.int .i64 (x:Int)] 3))=.ok v' Y∧Y.ownsRow B 3 1 v' (n+1) (natV (l++[x]))∧X.grownBy Y v.ownBlock∧(v'.ownBlock=v.ownBlock∨v'.ownBlock=some (X.heap.size+1)):=by
 obtain ⟨i0,hi,hz0,hz1,hz2⟩:=info_parts info3
 obtain ⟨v',Y,hrun,hown,hg,_,hat⟩:=run_append_own_at (P:=Tryz.prog) (X.alloc (.cells #[.int .i64 (x:Int)] 3)) B T T 3 i0 _ 1 8 hT hi hz0 hz1 hz2 rfl (by decide) _ _ _ (hv.alloc _) ⟨X.heap.size,0,none⟩ 1 1 (natV [x]) rfl (fun j u hu=>cell_one_new X _ 3 j u hu) (fun u hu=>by simp [natV] at hu;subst hu;rfl) (by unfold maxLen;omega) (by omega) (by simp;omega)
 exact ⟨v',Y,hrun,by rw [←zoQ];exact hown,(World.grownBy_alloc X _ _).trans hg,by simpa using hat⟩
structure HpIn (w:World) (B nb:Nat) (v:Value) (l:List Nat):Prop where
 box:w.ownsRow B 169 1 (.slice (some ⟨nb,0,none⟩) 1 1) 1 [v]
 row:w.ownsRow B 3 1 v l.length (natV l)
theorem HpIn.cell {w:World} {B nb:Nat} {v:Value} {l:List Nat} (h:HpIn w B nb v l):w.cell? ⟨nb,0,none⟩=some v:=by rw [h.box.cellAt 0 (by decide)];rfl
theorem HpIn.ne {w:World} {B nb:Nat} {v:Value} {l:List Nat} (h:HpIn w B nb v l):v.ownBlock≠some nb:=by
 rcases zak h.box h.row (by decide) with e | e
 ·
  cases e
 ·
  exact fun e2=>e e2.symm
theorem HpIn.lt {w:World} {B nb:Nat} {v:Value} {l:List Nat} (h:HpIn w B nb v l):B≤nb∧nb<w.heap.size:=h.box.lt nb rfl
theorem HpIn.idle {w w':World} {B nb:Nat} {v:Value} {l:List Nat} (h:HpIn w B nb v l) (hg:w.grownBy w' none):HpIn w' B nb v l:=⟨zd4 h.box hg,zd4 h.row hg⟩
theorem HpIn.below {w w':World} {B nb:Nat} {v:Value} {l:List Nat} (h:HpIn w B nb v l) (hg:Below w.heap.size w w'):HpIn w' B nb v l:=⟨za6 h.box hg,za6 h.row hg⟩
theorem HpIn.wrote {w w':World} {B nb:Nat} {v:Value} {l:List Nat} {S:Nat→Prop} (h:HpIn w B nb v l) (hg:zb0 w w' S) (hb:¬S nb) (hv:∀ k,v.ownBlock=some k→¬S k):HpIn w' B nb v l :=
 ⟨zbz h.box hg (fun k e=>by injection e with e;rw [←e];exact hb),zbz h.row hg hv⟩
theorem HpIn.swapped {w w':World} {B nb g n cp:Nat} {l l':List Nat} (h:HpIn w B nb (.slice (some ⟨g,0,none⟩) n cp) l) (hr:w'.ownsRow B 3 1 (.slice (some ⟨g,0,none⟩) n cp) n (natV l')) (hl:l'.length=n) (hg:w.grownBy w' (some g)):HpIn w' B nb (.slice (some ⟨g,0,none⟩) n cp) l' :=
 ⟨h.box.kept hg (Or.inr (fun e=>h.ne e.symm)),by rw [hl];exact hr⟩
def zpY (w:World) (v v':Value):Prop:=∀ k,v'.ownBlock=some k→v.ownBlock=some k∨w.heap.size≤k
theorem asInt (x:Nat) (W:World):(Instr.typeAssert (.iface 3 (.int .i64 (x:Int))) 20 3 false).run Tryz.prog W=.ok (.int .i64 (x:Int)) W:=by kernel_rfl
set_option maxHeartbeats 2000000 in
set_option maxRecDepth 100000 in
theorem upPush (B nb:Nat) (v:Value) (l:List Nat) (x:Nat) (w:World) (h:HpIn w B nb v l) (hl:l.length≤1000) :
 Calls Tryz.prog 218 #[.pointer (some ⟨nb,0,none⟩),.iface 3 (.int .i64 (x:Int))] w fun e w'=>e=.returned (.tuple #[])∧∃ v',HpIn w' B nb v' (l++[x])∧zb0 w w' (fun k=>k=nb∨v.ownBlock=some k)∧zpY w v v':=by
 have hlt:=h.lt
 obtain ⟨v',Y,hrun,hown,hg,hat⟩:=zeY 169 Tryz.underlying169 x (h.idle (zaq w none)).row (by simp;omega) (by omega)
 have hne:some nb≠v.ownBlock:=fun e=>h.ne e.symm
 obtain ⟨g',c',rfl⟩:=zaw hown (by omega)
 have hboxY:Y.ownsRow B 169 1 (.slice (some ⟨nb,0,none⟩) 1 1) 1 [v]:=(h.idle (zaq w none)).box.kept hg (Or.inr hne)
 obtain ⟨hst,hgs⟩:=hboxY.stored 0 (.slice (some ⟨g',0,none⟩) (l.length+1) c')
 have HE:Hid (HpIn (Y.setCell ⟨nb,0,none⟩ (.slice (some ⟨g',0,none⟩) (l.length+1) c')) B nb (.slice (some ⟨g',0,none⟩) (l.length+1) c') (l++[x])):=⟨hst,by
  have:=hown.kept hgs (zak hown hboxY (by decide))
  rw [List.length_append,List.length_singleton];exact this⟩
 have HW:Hid (zb0 w (Y.setCell ⟨nb,0,none⟩ (.slice (some ⟨g',0,none⟩) (l.length+1) c')) (fun k=>k=nb∨v.ownBlock=some k)):=((zb0.of_grown (zaq w none) (fun k e=>by cases e)).trans (zb0.of_grown hg (fun k e=>Or.inr e))).trans (zb0.of_grown hgs (fun k e=>by injection e with e;exact Or.inl e.symm))
 have HN:Hid (zpY w v (.slice (some ⟨g',0,none⟩) (l.length+1) c')):=fun k e=>by
  rcases hat with h1 | h1
  ·
   exact Or.inl (by rw [←h1];exact e)
  ·
   rw [h1] at e;injection e with e;right;rw [←e];simp
 have c0:=h.cell
 have c1:(w.alloc (.cells #[.int .i64 (x:Int)] 3)).cell? ⟨nb,0,none⟩=some v:=by rw [(h.box.alloc _).cellAt 0 (by decide)];rfl
 have cY:Y.cell? ⟨nb,0,none⟩=some v:=by rw [hboxY.cellAt 0 (by decide)];rfl
 have fY:=hboxY.frozenAt 0
 have hta:∀ W:World,(Instr.typeAssert (.iface 3 (.int .i64 (x:Int))) 20 3 false).run Tryz.prog W=.ok (.int .i64 (x:Int)) W:=asInt x
 change (Builtin.append_ _ _ _).run Tryz.prog (w.alloc (.cells #[.int .i64 (x:Int)] 3)).drew=_ at hrun
 clear h hlt hown hg hat hne hboxY hst hgs
 go_enter Tryz.func218,Tryz.ntmps218
 go_wp2_with fail
 go_region_law (first | (refine zcQ (by rfl) (.tmp 7) (.tmp 10) 169 (by rfl) _ _ _ (by rfl) (by rfl) hrun ?_))
 all_goals
  go_wp2
  go_end0
  exact ⟨rfl,_,HE.out,HW.out,HN.out⟩
theorem zoH {l:List (List UInt8)} {x:List UInt8} (h:∀ i,i<l.length→l.getD i []≠x):¬x∈l:=fun hm=>by
 obtain ⟨i,hi,e⟩:=List.mem_iff_getElem.1 hm
 exact h i hi (by simp [List.getD,hi,e])
set_option maxHeartbeats 1000000 in
set_option maxRecDepth 100000 in
theorem indexStr (a:Option Addr) (n c:Nat) (l:List (List UInt8)) (x:List UInt8) (w:World) (hin:za5 w a n l) (hn:n≤1048576) :
 Calls Tryz.prog 108 #[.slice a n c,.string ⟨x.toArray⟩] w fun e w'=>∃ y:Int,e=.returned (.int .i64 y)∧Hid (0≤y↔x∈l)∧w'=w:=by
 obtain rfl:l.length=n:=hin.1
 have HI:Hid (za5 w a l.length l):=hin
 clear hin
 go_enter Tryz.func108,Tryz.ntmps108
 go_wp2
 go_loopw [8] (fun iv wr=>∃ k:Nat,iv=.int .i64 (k:Int)∧k≤l.length∧Hid (∀ i,i<k→l.getD i []≠x)∧wr=w) (fun iv _=>l.length-(intOf iv).toNat)
 case atStart=>exact ⟨0,rfl,by omega,(fun i hi=>by omega),rfl⟩
 case round =>
  obtain ⟨k,rfl,hk,HA,hwr⟩:=hrel
  obtain rfl:=hwr.symm
  by_cases hlt:(k:Int)<(l.length:Int)
  ·
   have hk2:k<l.length:=by omega
   obtain ⟨b,off,rfl,hbl,c0⟩:=HI.out.2 k hk2
   have hmem:l.getD k []∈l:=by simp [List.getD,hk2]
   obtain ⟨y,hy⟩:∃ y,l.getD k []=y:=⟨_,rfl⟩
   rw [hy] at c0 hmem
   by_cases hxy:x=y
   ·
    subst hxy
    have HM:Hid (0≤(k:Int)↔x∈l):=⟨fun _=>hmem,fun _=>by omega⟩
    have hself:(x==x)=true:=by simp
    clear HA hy hmem
    go_wp2
    go_ret
    exact ⟨_,rfl,HM,rfl⟩
   ·
    have HA2:Hid (∀ i,i<k+1→l.getD i []≠x):=fun i hi=>by
     rcases Nat.lt_or_ge i k with h | h
     ·
      exact HA.out i h
     ·
      obtain rfl:i=k:=by omega
      rw [hy];exact fun e=>hxy e.symm
    have hne:(x==y)=false:=beq_eq_false_iff_ne.2 hxy
    clear HA hy hmem
    go_wp2
    go_roundw
    case rel=>exact ⟨k+1,by go_num,by omega,HA2,trivial⟩
    case measure=>simp [intOf];omega
  ·
   have HM:Hid (0≤(-1:Int)↔x∈l):=⟨fun h=>by omega,fun h=>absurd h (zoH (fun i hi=>HA.out i (by omega)))⟩
   go_wp2
   go_ret
   exact ⟨_,rfl,HM,rfl⟩
theorem zeO (a:Option Addr) (n c:Nat) (l:List (List UInt8)) (x:List UInt8) (w:World) (hin:za5 w a n l) (hn:n≤1048576) :
 Calls Tryz.prog 78 #[.slice a n c,.string ⟨x.toArray⟩] w fun e w'=>e=.returned (.bool (decide (x∈l)))∧w'=w:=by
 have hI:=indexStr a n c l x w hin hn
 go_enter Tryz.func78,Tryz.ntmps78
 go_wp2_with fail
 refine hI.mono ?_
 rintro e w1 ⟨y,rfl,HM,hw⟩
 obtain rfl:=hw.symm
 clear hI
 go_wp2
 go_ret
 exact ⟨by rw [decide_eq_decide.2 HM.out.symm];rfl,rfl⟩
def ze8 (w:World) (a:Option Addr) (n:Nat) (l:List Nat):Prop:=l.length=n∧∀ j,j<n→∃ b off,a=some ⟨b,off,none⟩∧b<w.heap.size∧w.cell? ⟨b,off+j,none⟩=some (.int .i64 ((l.getD j 0:Nat):Int))
theorem ze8.below {w w':World} {a:Option Addr} {n:Nat} {l:List Nat} (h:ze8 w a n l) (hb:Below w.heap.size w w'):ze8 w' a n l :=
 ⟨h.1,fun j hj=>by
  obtain ⟨b,off,e,hlt,c⟩:=h.2 j hj
  exact ⟨b,off,e,Nat.lt_of_lt_of_le hlt hb.size,(hb.cell (p:=⟨b,off+j,none⟩) hlt).trans c⟩⟩
theorem zbu {w:World} {B n:Nat} {v:Value} {l:List Nat} (h:w.ownsRow B 3 1 v n (natV l)) (hn:l.length=n):∃ a c,v=.slice a n c∧ze8 w a n l:=by
 rcases zb4 h with ⟨rfl,rfl,_⟩ | ⟨g,c,rfl⟩
 ·
  exact ⟨none,0,rfl,hn,fun j hj=>by omega⟩
 ·
  exact ⟨_,c,rfl,hn,fun j hj=>⟨g,0,rfl,(h.lt g rfl).2,by rw [Nat.zero_add];exact zbS h hn j hj⟩⟩
theorem zcj {l:List Nat} {k:Nat} (hk:k<l.length):l.getD k 0∈l:=by simp [List.getD,hk]
theorem zoI {l:List Nat} {x:Nat} (h:∀ i,i<l.length→l.getD i 0≠x):¬x∈l:=fun hm=>by
 obtain ⟨i,hi,e⟩:=List.mem_iff_getElem.1 hm
 exact h i hi (by simp [List.getD,hi,e])
set_option maxHeartbeats 1000000 in
set_option maxRecDepth 100000 in
theorem indexNat (a:Option Addr) (n c:Nat) (l:List Nat) (x:Nat) (w:World) (hin:ze8 w a n l) (hn:n≤1048576) :
 Calls Tryz.prog 138 #[.slice a n c,.int .i64 (x:Int)] w fun e w'=>∃ y:Int,e=.returned (.int .i64 y)∧Hid (0≤y↔x∈l)∧w'=w:=by
 obtain rfl:l.length=n:=hin.1
 have HI:Hid (ze8 w a l.length l):=hin
 clear hin
 go_enter Tryz.func138,Tryz.ntmps138
 go_wp2
 go_loopw [8] (fun iv wr=>∃ k:Nat,iv=.int .i64 (k:Int)∧k≤l.length∧Hid (∀ i,i<k→l.getD i 0≠x)∧wr=w) (fun iv _=>l.length-(intOf iv).toNat)
 case atStart=>exact ⟨0,rfl,by omega,(fun i hi=>by omega),rfl⟩
 case round =>
  obtain ⟨k,rfl,hk,HA,hwr⟩:=hrel
  obtain rfl:=hwr.symm
  by_cases hlt:(k:Int)<(l.length:Int)
  ·
   have hk2:k<l.length:=by omega
   obtain ⟨b,off,rfl,hbl,c0⟩:=HI.out.2 k hk2
   have hmem:=zcj hk2
   obtain ⟨y,hy⟩:∃ y,l.getD k 0=y:=⟨_,rfl⟩
   rw [hy] at c0 hmem
   by_cases hxy:x=y
   ·
    subst hxy
    have HM:Hid (0≤(k:Int)↔x∈l):=⟨fun _=>hmem,fun _=>by omega⟩
    clear HA hy hmem
    go_wp2
    go_ret
    exact ⟨_,rfl,HM,rfl⟩
   ·
    have HA2:Hid (∀ i,i<k+1→l.getD i 0≠x):=fun i hi=>by
     rcases Nat.lt_or_ge i k with h | h
     ·
      exact HA.out i h
     ·
      obtain rfl:i=k:=by omega
      rw [hy];exact fun e=>hxy e.symm
    have hne:¬(x:Int)=(y:Int):=by omega
    have hne2:((x:Int)==(y:Int))=false:=beq_eq_false_iff_ne.2 hne
    clear HA hy hmem
    go_wp2
    go_roundw
    case rel=>exact ⟨k+1,by go_num,by omega,HA2,trivial⟩
    case measure=>simp [intOf];omega
  ·
   have HM:Hid (0≤(-1:Int)↔x∈l):=⟨fun h=>by omega,fun h=>absurd h (zoI (fun i hi=>HA.out i (by omega)))⟩
   go_wp2
   go_ret
   exact ⟨_,rfl,HM,rfl⟩
theorem zeP (a:Option Addr) (n c:Nat) (l:List Nat) (x:Nat) (w:World) (hin:ze8 w a n l) (hn:n≤1048576) :
 Calls Tryz.prog 106 #[.slice a n c,.int .i64 (x:Int)] w fun e w'=>e=.returned (.bool (decide (x∈l)))∧w'=w:=by
 have hI:=indexNat a n c l x w hin hn
 go_enter Tryz.func106,Tryz.ntmps106
 go_wp2_with fail
 refine hI.mono ?_
 rintro e w1 ⟨y,rfl,HM,hw⟩
 obtain rfl:=hw.symm
 clear hI
 go_wp2
 go_ret
 exact ⟨by rw [decide_eq_decide.2 HM.out.symm];rfl,rfl⟩
set_option maxHeartbeats 2000000 in
set_option maxRecDepth 100000 in
theorem zcU (a:Option Addr) (len cap:Nat) (ps:List Pk) (s:List UInt8) (w:World) (hin:zat w a len ps) (hlen:len≤1048576) :
 Calls Tryz.prog 45 #[.slice a len cap,.string ⟨s.toArray⟩] w fun e w'=>e=.returned (.int .i64 (at8 ps s))∧Below w.heap.size w w':=by
 obtain rfl:ps.length=len:=hin.1
 have HI:Hid (zat w a ps.length ps):=hin
 clear hin
 go_enter Tryz.func45,Tryz.ntmps45
 go_wp2
 go_loopw [9] (fun iv wr=>∃ j:Nat,iv=.int .i64 (j:Int)∧j≤ps.length∧Hid (at8 ps s=zca s (ps.drop j) j)∧Hid (Below w.heap.size w wr)) (fun iv _=>ps.length-(intOf iv).toNat)
 case atStart=>exact ⟨0,rfl,by omega,(rfl:at8 ps s=zca s (ps.drop 0) 0),Below.refl _ _⟩
 case round =>
  obtain ⟨j,rfl,hj,HA,HB⟩:=hrel
  by_cases hlt:(j:Int)<(ps.length:Int)
  ·
   obtain ⟨b,off,rfl,hbl,c0,ia,il,ic,fa,fl,fc,c1,c2,_,_⟩:=(HI.out.below HB.out).2 j (by omega)
   have hg:=ziq (ps:=ps) (k:=j) (by omega) s
   obtain ⟨x,hx⟩:∃ x,(ps.getD j pk0).1=x:=⟨_,rfl⟩
   rw [hx] at c0 hg
   obtain ⟨bx,hbx⟩:=Box3.new wr (.string ⟨x.toArray⟩) (.slice ia il ic) (.slice fa fl fc) 75
   obtain ⟨X,hX⟩:∃ X,wr.alloc (.cells #[.string ⟨x.toArray⟩,.slice ia il ic,.slice fa fl fc] 75)=X:=⟨_,rfl⟩
   rw [hX] at bx hbx
   have d0:=bx.c0
   have d1:=bx.c1
   have d2:=bx.c2
   have HB2:Hid (Below w.heap.size w X):=HB.out.trans (hbx.mono HB.out.size)
   clear bx hbx
   by_cases hxs:x=s
   ·
    subst hxs
    have HR:Hid (at8 ps x=(j:Int)):=by exact (by rw [HA.out,hg,if_pos rfl]:at8 ps x=(j:Int))
    have hself:(x==x)=true:=by simp
    clear HA hg hx
    go_wp2
    go_ret
    exact ⟨by rw [HR.out];rfl,HB2.out⟩
   ·
    have HR:Hid (at8 ps s=zca s (ps.drop (j+1)) (j+1)):=by exact (by rw [HA.out,hg,if_neg hxs]:at8 ps s=zca s (ps.drop (j+1)) (j+1))
    have hne:(x==s)=false:=by rw [beq_eq_false_iff_ne];exact hxs
    clear HA hg hx
    go_wp2
    go_roundw
    case rel=>exact ⟨j+1,by go_num,by omega,HR,HB2⟩
    case measure=>simp [intOf];omega
  ·
   have HR:Hid (at8 ps s=-1):=by exact (by rw [HA.out,List.drop_of_length_le (by omega)];rfl:at8 ps s=-1)
   go_wp2
   go_ret
   exact ⟨by rw [HR.out];rfl,HB.out⟩
set_option maxHeartbeats 2000000 in
set_option maxRecDepth 100000 in
theorem ze1 (a:Option Addr) (len cap:Nat) (ps:List Pk) (i:Nat) (w:World) (hin:zal w a len cap ps) (hi:i<len) :
 Calls Tryz.prog 134 #[.slice a len cap,.int .i64 (i:Int)] w fun e w'=>∃ v,e=.returned v∧w'.ownsRow w.heap.size 3 1 v (plc ps (zbc ps i)).length (natV (plc ps (zbc ps i)))∧Below w.heap.size w w':=by
 have HI:Hid (zal w a len cap ps):=hin
 obtain ⟨b,off,rfl,hbl,c0,ia,il,ic,fa,fl,fc,c1,c2,hpk⟩:=hin.each i hi
 have hsm:=hin.small
 have hil:=hpk.il
 obtain ⟨ims,hims⟩:∃ ims,zbc ps i=ims:=⟨_,rfl⟩
 have hti:za5 w ia il ims:=by rw [←hims];exact hpk.i
 rw [hims]
 obtain rfl:ims.length=il:=hti.1
 have HT:Hid (za5 w ia ims.length ims):=hti
 have hi2:(i:Int)<(len:Int):=by omega
 have c1a:(w.alloc (.cells #[] 3)).cell? ⟨b,off+i*3+1,none⟩=some (.slice ia ims.length ic):=(((Below.refl _ w).alloc (Nat.le_refl _) _).cell (p:=⟨b,off+i*3+1,none⟩) hbl).trans c1
 have HO0:Hid ((w.alloc (.cells #[] 3)).ownsRow w.heap.size 3 1 (.slice (some ⟨w.heap.size,0,none⟩) 0 0) 0 (natV (plc ps (ims.take 0)))):=World.ownsRow_lit (base:=w.heap.size) (e:=3) (size:=1) w #[] 0 (Nat.le_refl _) (by decide) rfl
 have HB0:Hid (Below w.heap.size w (w.alloc (.cells #[] 3))):=(Below.refl _ _).alloc (Nat.le_refl _) _
 clear hin hpk hims hti c0 c2
 go_enter Tryz.func134,Tryz.ntmps134
 go_wp2
 go_loopw [5,16] (fun pv iv wr=>∃ (k m:Nat) (pa:Option Addr) (pc:Nat),pv=.slice pa m pc∧iv=.int .i64 (k:Int)∧k≤ims.length∧m≤k∧Hid ((plc ps (ims.take k)).length=m)∧Hid (wr.ownsRow w.heap.size 3 1 (.slice pa m pc) m (natV (plc ps (ims.take k))))∧Hid (Below w.heap.size w wr)) (fun _ iv _=>ims.length-(intOf iv).toNat)
 case atStart=>exact ⟨0,0,_,0,rfl,rfl,by omega,by omega,rfl,HO0,HB0⟩
 case round =>
  obtain ⟨k,m,pa,pc,rfl,rfl,hk,hmk,HLm,HO,HB⟩:=hrel
  clear HO0 HB0
  by_cases hlt:(k:Int)<(ims.length:Int)
  ·
   have hk2:k<ims.length:=by omega
   obtain ⟨b2,off2,rfl,_,d0⟩:=(HT.out.below HB.out).2 k hk2
   have hpt:=plc_take ps ims hk2
   obtain ⟨x,hx⟩:∃ x,ims.getD k []=x:=⟨_,rfl⟩
   rw [hx] at d0 hpt
   have HP:Hid (_):=zcU (some ⟨b,off,none⟩) len cap ps x wr (HI.out.below HB.out).in (by omega)
   rcases zdt ps x with ⟨ea,_⟩ | ⟨q,hq,ea,_,_⟩
   ·
    rw [ea] at HP
    rw [ea,if_neg (by decide)] at hpt
    have HPT:Hid (plc ps (ims.take (k+1))=plc ps (ims.take k)):=hpt
    clear hpt hx ea
    go_wp2_with (go_at_call 45;refine Calls.mono HP.out ?_;rintro e w1 ⟨rfl,hb1⟩;have HB1:Hid (Below w.heap.size w w1):=HB.out.trans (hb1.mono HB.out.size);have HO1:=za6 HO.out hb1;rw [←HPT.out] at HO1;clear hb1)
    go_roundw
    case rel=>exact ⟨k+1,m,pa,pc,rfl,by go_num,by omega,by omega,by exact (by rw [HPT.out];exact HLm.out:(plc ps (ims.take (k+1))).length=m),HO1,HB1⟩
    case measure=>simp [intOf];omega
   ·
    rw [ea] at HP
    rw [ea,if_pos (by omega),Int.toNat_natCast] at hpt
    have HPT:Hid (plc ps (ims.take (k+1))=plc ps (ims.take k)++[q]):=hpt
    have hqn:¬(q:Int)=-1:=by omega
    have hqb:((q:Int) !=-1)=true:=by rw [bne_iff_ne];exact hqn
    have hqb2:((q:Int)==-1)=false:=beq_eq_false_iff_ne.2 hqn
    clear hpt hx ea
    go_wp2_with fail
    refine Calls.mono HP.out ?_
    rintro e w1 ⟨rfl,hb1⟩
    have hB1:Below w.heap.size w w1:=HB.out.trans (hb1.mono HB.out.size)
    have hO1:=za6 HO.out hb1
    obtain ⟨v',Y,hr,ho,hg,_⟩:=zeY 134 Tryz.underlying134 q hO1 hB1.size (by omega)
    obtain ⟨g',c',rfl⟩:=zaw ho (by omega)
    rw [←HPT.out] at ho
    have HOY:Hid (Y.ownsRow w.heap.size 3 1 (.slice (some ⟨g',0,none⟩) (m+1) c') (m+1) (natV (plc ps (ims.take (k+1))))):=ho
    have HBY:Hid (Below w.heap.size w Y):=hB1.grown hg hB1.size (fun q e=>(hO1.lt q e).1)
    clear hb1 hO1 hB1 ho hg HP
    go_wp2_with (at_builtin;refine za0 rfl (.tmp 25) (.tmp 27) 134 rfl _ _ _ rfl rfl hr ?_;clear hr)
    go_roundw
    case rel=>exact ⟨k+1,m+1,_,c',rfl,by go_num,by omega,by omega,by exact (by rw [HPT.out,List.length_append,List.length_singleton,HLm.out]:(plc ps (ims.take (k+1))).length=m+1),HOY,HBY⟩
    case measure=>simp [intOf];omega
  ·
   have HE:Hid (ims.take k=ims):=List.take_of_length_le (by omega)
   go_wp2
   go_ret
   exact ⟨_,rfl,by have h1:=HO.out;have h2:=HLm.out;rw [HE.out] at h1 h2;rw [h2];exact h1,HB.out⟩
structure PjSt (ps:List Pk) (k:Nat) (z:List UInt8):Prop where
 ok:∀ i,i<k→pj8 ps i
 last:(k=0∧z=[])∨(0<k∧z=(ps.getD (k-1) pk0).1)
theorem PjSt.pk {ps:List Pk} {k:Nat} (hk:k<ps.length) (h:pkgB (ps.getD k pk0)=false):zaL ps=false:=zgg hk (fun e=>by have:=e.1;rw [h] at this;cases this)
theorem PjSt.low {ps:List Pk} {k:Nat} {z:List UInt8} (s:PjSt ps k z) (hk:k<ps.length) (hp:pkgB (ps.getD k pk0)=true) (h:leT (ps.getD k pk0).1 z=true):zaL ps=false:=by
 refine zgg hk (fun e=>?_)
 rcases s.last with ⟨_,rfl⟩ | ⟨h0,rfl⟩
 ·
  rw [zoZ (zdj hp).1] at h;cases h
 ·
  rw [e.2 h0] at h;cases h
theorem PjSt.step {ps:List Pk} {k:Nat} {z:List UInt8} (s:PjSt ps k z) (hp:pkgB (ps.getD k pk0)=true) (h:leT (ps.getD k pk0).1 z=false):PjSt ps (k+1) (ps.getD k pk0).1:=by
 refine ⟨fun i hi=>?_,Or.inr ⟨by omega,by simp⟩⟩
 rcases Nat.lt_or_ge i k with hl | hl
 ·
  exact s.ok i hl
 ·
  obtain rfl:i=k:=by omega
  refine ⟨hp,fun h0=>?_⟩
  rcases s.last with ⟨e,_⟩ | ⟨_,e⟩
  ·
   omega
  ·
   rw [←e];exact h
set_option maxHeartbeats 4000000 in
set_option maxRecDepth 100000 in
theorem zfc (a:Option Addr) (len cap:Nat) (ps:List Pk) (w:World) (h:zal w a len cap ps) :
 Calls Tryz.prog 124 #[.slice a len cap] w fun e w'=>e=.returned (.bool (zaL ps))∧Below w.heap.size w w':=by
 obtain rfl:ps.length=len:=h.hlen
 have hsm:=h.small
 have HI:Hid (zal w a ps.length cap ps):=h
 clear h
 by_cases h1:(ps.length:Int)<1
 ·
  have HR:Hid (zaL ps=false):=by exact (by unfold zaL;rw [zcv _ _ _ (Or.inl h1),Bool.and_false]:zaL ps=false)
  go_enter Tryz.func124,Tryz.ntmps124
  go_wp2
  go_ret
  exact ⟨by rw [HR.out];rfl,Below.refl _ _⟩
 by_cases h8:8<(ps.length:Int)
 ·
  have HR:Hid (zaL ps=false):=by exact (by unfold zaL;rw [zcv _ _ _ (Or.inr h8),Bool.and_false]:zaL ps=false)
  go_enter Tryz.func124,Tryz.ntmps124
  go_wp2
  go_ret
  exact ⟨by rw [HR.out];rfl,Below.refl _ _⟩
 go_enter Tryz.func124,Tryz.ntmps124
 go_wp2
 go_loopw [3,16] (fun lv iv wr=>∃ (k:Nat) (z:List UInt8),lv=.string ⟨z.toArray⟩∧iv=.int .i64 (k:Int)∧k≤ps.length∧Hid (PjSt ps k z)∧Hid (Below w.heap.size w wr)) (fun _ iv _=>ps.length-(intOf iv).toNat)
 case atStart=>exact ⟨0,[],rfl,rfl,by omega,(⟨fun i hi=>by omega,Or.inl ⟨rfl,rfl⟩⟩:PjSt ps 0 []),Below.refl _ _⟩
 case round =>
  obtain ⟨k,z,rfl,rfl,hk,HZ,HB⟩:=hrel
  by_cases hlt:(k:Int)<(ps.length:Int)
  ·
   have hk2:k<ps.length:=by omega
   obtain ⟨b,off,rfl,hbl,c0,ia,il,ic,fa,fl,fc,c1,c2,hpk⟩:=(HI.out.below HB.out).each k hk2
   obtain ⟨p,hp⟩:∃ p,ps.getD k pk0=p:=⟨_,rfl⟩
   have HNo:Hid (pkgB p=false→zaL ps=false):=fun e=>PjSt.pk hk2 (by rw [hp];exact e)
   have HLow:Hid (pkgB p=true→leT p.1 z=true→zaL ps=false):=fun e1 e2=>HZ.out.low hk2 (by rw [hp];exact e1) (by rw [hp];exact e2)
   have HStep:Hid (pkgB p=true→leT p.1 z=false→PjSt ps (k+1) p.1):=fun e1 e2=>by
    have:=HZ.out.step (by rw [hp];exact e1) (by rw [hp];exact e2)
    rw [hp] at this
    exact this
   rw [hp] at c0 hpk
   clear hp HZ
   obtain ⟨x,ims,fs⟩:=p
   simp only at c0 hpk
   obtain ⟨bx,hbx⟩:=Box3.new wr (.string ⟨x.toArray⟩) (.slice ia il ic) (.slice fa fl fc) 75
   obtain ⟨X,hX⟩:∃ X,wr.alloc (.cells #[.string ⟨x.toArray⟩,.slice ia il ic,.slice fa fl fc] 75)=X:=⟨_,rfl⟩
   obtain ⟨E,hE⟩:∃ E,wr.heap.size=E:=⟨_,rfl⟩
   rw [hX] at bx hbx
   rw [hE] at bx
   have d0:=bx.c0
   have d1:=bx.c1
   have d2:=bx.c2
   have HBX:Hid (Box3 X E (.string ⟨x.toArray⟩) (.slice ia il ic) (.slice fa fl fc)):=bx
   have HC:Hid (_):=ziZ x ia il ic fa fl fc ims fs X (hpk.below hbx)
   have HB2:Hid (Below w.heap.size w X):=HB.out.trans (hbx.mono HB.out.size)
   clear bx hbx hpk HB
   rcases hpb:pkgB (x,ims,fs) with _ | _
   ·
    have HR:Hid (zaL ps=false):=HNo.out hpb
    rw [hpb] at HC
    clear hpb
    go_wp2_with (go_at_call 151;refine Calls.mono HC.out ?_;rintro e w1 ⟨rfl,hb1⟩;have HB3:Hid (Below w.heap.size w w1):=HB2.out.trans (hb1.mono HB2.out.size);clear hb1)
    go_ret
    exact ⟨by rw [HR.out];rfl,HB3.out⟩
   ·
    rcases hle:leT x z with _ | _
    ·
     have HS2:Hid (PjSt ps (k+1) x):=HStep.out hpb hle
     rw [hpb] at HC
     unfold leT at hle
     clear hpb HNo HLow HStep
     go_wp2_with (go_at_call 151;refine Calls.mono HC.out ?_;rintro e w1 ⟨rfl,hb1⟩;have HB3:Hid (Below w.heap.size w w1):=HB2.out.trans (hb1.mono HB2.out.size);have q0:=(HBX.out.below hb1).c0;clear hb1)
     go_roundw
     case rel=>exact ⟨k+1,x,rfl,by go_num,by omega,HS2,HB3⟩
     case measure=>simp [intOf];omega
    ·
     have HR:Hid (zaL ps=false):=HLow.out hpb hle
     rw [hpb] at HC
     unfold leT at hle
     clear hpb HNo HLow HStep
     go_wp2_with (go_at_call 151;refine Calls.mono HC.out ?_;rintro e w1 ⟨rfl,hb1⟩;have HB3:Hid (Below w.heap.size w w1):=HB2.out.trans (hb1.mono HB2.out.size);have q0:=(HBX.out.below hb1).c0;clear hb1)
     go_ret
     exact ⟨by rw [HR.out];rfl,HB3.out⟩
  ·
   obtain rfl:k=ps.length:=by omega
   have HR:Hid (zaL ps=true):=by exact (by rw [zjT HZ.out.ok];unfold inB;exact decide_eq_true (by omega):zaL ps=true)
   go_wp2
   go_ret
   exact ⟨by rw [HR.out];rfl,HB.out⟩
theorem zlw (a:Option Addr) (len cap:Nat) (ps:List Pk) (s:List UInt8) (w:World) (h:zal w a len cap ps) :
 Calls Tryz.prog 103 #[.slice a len cap,.string ⟨s.toArray⟩] w fun e w'=>e=.returned (.int .i64 (if zaL ps=true then at8 ps s else -1))∧Below w.heap.size w w':=by
 have HP:Hid (_):=zfc a len cap ps w h
 have HI:Hid (zal w a len cap ps):=h
 clear h
 rcases hp:zaL ps with _ | _
 ·
  rw [hp] at HP
  go_enter Tryz.func103,Tryz.ntmps103
  go_wp2_with (go_at_call 124;refine Calls.mono HP.out ?_;rintro e w1 ⟨rfl,hb1⟩)
  go_ret
  exact ⟨by simp,hb1⟩
 ·
  rw [hp] at HP
  go_enter Tryz.func103,Tryz.ntmps103
  go_wp2_with fail
  refine Calls.mono HP.out ?_
  rintro e w1 ⟨rfl,hb1⟩
  have HI1:Hid (zal w1 a len cap ps):=HI.out.below hb1
  go_wp2_with fail
  refine (zcU a len cap ps s w1 HI1.out.in HI1.out.small).mono ?_
  rintro e w2 ⟨rfl,hb2⟩
  have HB:Hid (Below w.heap.size w w2):=hb1.trans (hb2.mono hb1.size)
  clear hb1 hb2
  go_wp2
  go_ret
  exact ⟨by simp,HB.out⟩
set_option maxHeartbeats 2000000 in
set_option maxRecDepth 100000 in
theorem zlz (a:Option Addr) (len cap:Nat) (ps:List Pk) (pa:Option Addr) (n pc:Nat) (l:List Nat) (w:World) (h:zal w a len cap ps) (hl:ze8 w pa n l) (hlt:∀ x∈l,x<len) (hn:n≤1000) :
 Calls Tryz.prog 107 #[.slice a len cap,.slice pa n pc] w fun e w'=>∃ v,e=.returned v∧w'.ownsRow w.heap.size 9 1 v (zaM ps l).length (strV (zaM ps l))∧Below w.heap.size w w':=by
 obtain rfl:l.length=n:=hl.1
 have HI:Hid (zal w a len cap ps):=h
 have HL:Hid (ze8 w pa l.length l):=hl
 have HLt:Hid (∀ x∈l,x<len):=hlt
 have hsm:=h.small
 have HO0:Hid ((w.alloc (.cells #[] 9)).ownsRow w.heap.size 9 1 (.slice (some ⟨w.heap.size,0,none⟩) 0 0) 0 (strV (zaM ps (l.take 0)))):=World.ownsRow_lit (base:=w.heap.size) (e:=9) (size:=1) w #[] 0 (Nat.le_refl _) (by decide) rfl
 have HB0:Hid (Below w.heap.size w (w.alloc (.cells #[] 9))):=(Below.refl _ _).alloc (Nat.le_refl _) _
 clear h hl hlt
 go_enter Tryz.func107,Tryz.ntmps107
 go_wp2
 go_loopw [5,11] (fun nv iv wr=>∃ (k:Nat) (na:Option Addr) (nc:Nat),nv=.slice na k nc∧iv=.int .i64 (k:Int)∧k≤l.length∧Hid (wr.ownsRow w.heap.size 9 1 (.slice na k nc) k (strV (zaM ps (l.take k))))∧Hid (Below w.heap.size w wr)) (fun _ iv _=>l.length-(intOf iv).toNat)
 case atStart=>exact ⟨0,_,0,rfl,rfl,by omega,HO0,HB0⟩
 case round =>
  obtain ⟨k,na,nc,rfl,rfl,hk,HO,HB⟩:=hrel
  clear HO0 HB0
  by_cases hlt:(k:Int)<(l.length:Int)
  ·
   have hk2:k<l.length:=by omega
   obtain ⟨b2,off2,rfl,hb2l,d0⟩:=(HL.out.below HB.out).2 k hk2
   have hql:=HLt.out _ (zcj hk2)
   have hnt:zaM ps (l.take (k+1))=zaM ps (l.take k)++[nmAt ps (l.getD k 0)]:=by
    rw [List.take_succ_eq_append_getElem hk2,zf5,show l.getD k 0=l[k] by simp [List.getD,hk2]]
   obtain ⟨q,hq⟩:∃ q,l.getD k 0=q:=⟨_,rfl⟩
   rw [hq] at d0 hql hnt
   have hok:=HI.out.below HB.out
   obtain ⟨b,off,rfl,hbl,c0,_⟩:=hok.each q hql
   have hxl:=(hok.short q).1
   have hnm:nmAt ps q=(ps.getD q pk0).1:=rfl
   obtain ⟨x,hx⟩:∃ x,(ps.getD q pk0).1=x:=⟨_,rfl⟩
   rw [hnm,hx] at hnt
   rw [hx] at c0 hxl
   have HNT:Hid (zaM ps (l.take (k+1))=zaM ps (l.take k)++[x]):=hnt
   have hqz:(q:Int)<(len:Int):=by omega
   clear hok hnt hnm hx hq
   go_wp2_with fail
   refine (zbb x wr hxl).mono ?_
   rintro e w1 ⟨rfl,hb1⟩
   have hB1:Below w.heap.size w w1:=HB.out.trans (hb1.mono HB.out.size)
   have hO1:=za6 HO.out hb1
   obtain ⟨v',Y,hr,ho,hg⟩:=zcp x hO1 hB1.size (by omega)
   rw [←HNT.out] at ho
   obtain ⟨g',c',rfl⟩:=zaw ho (by omega)
   have HOY:Hid (Y.ownsRow w.heap.size 9 1 (.slice (some ⟨g',0,none⟩) (k+1) c') (k+1) (strV (zaM ps (l.take (k+1))))):=ho
   have HBY:Hid (Below w.heap.size w Y):=hB1.grown hg hB1.size (fun q e=>(hO1.lt q e).1)
   clear hb1 hO1 hB1 ho hg
   go_wp2_with (at_builtin;refine za0 rfl (.tmp 15) (.tmp 22) 35 rfl _ _ _ rfl rfl hr ?_;clear hr)
   go_roundw
   case rel=>exact ⟨k+1,_,c',rfl,by go_num,by omega,HOY,HBY⟩
   case measure=>simp [intOf];omega
  ·
   obtain rfl:k=l.length:=by omega
   have HE:Hid (l.take l.length=l):=List.take_length
   go_wp2
   go_ret
   exact ⟨_,rfl,by have h1:=HO.out;rw [HE.out] at h1;rw [show (zaM ps l).length=l.length by simp [zaM]];exact h1,HB.out⟩
end Go.Proofs.YtdbljnddkbpanaaGreatDoor
