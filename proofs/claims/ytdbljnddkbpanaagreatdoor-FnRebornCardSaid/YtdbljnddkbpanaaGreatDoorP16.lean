/-
  Parts of one proof, one behind the other: TkB, NewS.
-/
import Derived.Test.YtdbljnddkbpanaaGreatDoorP15
import Derived.Test.YtdbljnddkbpanaaGreatDoorP8
import Derived.Test.YtdbljnddkbpanaaGreatDoorP14
import Derived.Test.YtdbljnddkbpanaaGreatDoorP12
import Derived.OneCell
import Derived.BigQuiet
namespace Go.Proofs.YtdbljnddkbpanaaGreatDoor
open Go.RowKit
structure B4 (Z:World) (k:Nat) (a b c d:Value):Prop where
 lt:k<Z.heap.size
 c0:Z.cell? ⟨k,0,none⟩=some a
 c1:Z.cell? ⟨k,1,none⟩=some b
 c2:Z.cell? ⟨k,2,none⟩=some c
 c3:Z.cell? ⟨k,3,none⟩=some d
 fr:∀ j,Z.frozen? ⟨k,j,none⟩=false
theorem B4.keep {Z Y:World} {k:Nat} {a b c d:Value} (h:B4 Z k a b c d) (hk:Y.heap[k]?=Z.heap[k]?):B4 Y k a b c d :=
 ⟨by obtain ⟨h1,_⟩:=Array.getElem?_eq_some_iff.1 ((hk.trans (Array.getElem?_eq_getElem h.lt)));exact h1,(World.cell?_of_block (a:=⟨k,0,none⟩) hk).trans h.c0,(World.cell?_of_block (a:=⟨k,1,none⟩) hk).trans h.c1,(World.cell?_of_block (a:=⟨k,2,none⟩) hk).trans h.c2,(World.cell?_of_block (a:=⟨k,3,none⟩) hk).trans h.c3,fun j=>by have:=h.fr j;simp only [World.frozen?] at this ⊢;rw [hk];exact this⟩
theorem B4.below {Z Y:World} {k:Nat} {a b c d:Value} (h:B4 Z k a b c d) (hb:Below Z.heap.size Z Y):B4 Y k a b c d:=h.keep (hb.block k h.lt)
theorem B4.grown {Z Y:World} {k:Nat} {row:Option Nat} {a b c d:Value} (h:B4 Z k a b c d) (hg:Z.grownBy Y row) (hn:row≠some k):B4 Y k a b c d:=h.keep (hg.block k h.lt (fun e=>hn e.symm))
theorem B4.new (w:World) (a b c d:Value) (t:TypeId):B4 (w.alloc (.cells #[a,b,c,d] t)) w.heap.size a b c d:=by
 obtain ⟨⟨h0,h1,h2,h3⟩,hf⟩:=fourF (Below.refl _ (w.alloc (.cells #[a,b,c,d] t))) (by simp) (heap_alloc_new w _)
 exact ⟨by simp,h0,h1,h2,h3,hf⟩
theorem B4.s0 {Z:World} {k:Nat} {a b c d:Value} (h:B4 Z k a b c d) (u:Value):B4 (Z.setCell ⟨k,0,none⟩ u) k u b c d :=
 ⟨by simpa using h.lt,setS h.c0,setO (by decide) h.c1,setO (by decide) h.c2,setO (by decide) h.c3,fun j=>by simpa using h.fr j⟩
theorem B4.s1 {Z:World} {k:Nat} {a b c d:Value} (h:B4 Z k a b c d) (u:Value):B4 (Z.setCell ⟨k,1,none⟩ u) k a u c d :=
 ⟨by simpa using h.lt,setO (by decide) h.c0,setS h.c1,setO (by decide) h.c2,setO (by decide) h.c3,fun j=>by simpa using h.fr j⟩
theorem B4.s2 {Z:World} {k:Nat} {a b c d:Value} (h:B4 Z k a b c d) (u:Value):B4 (Z.setCell ⟨k,2,none⟩ u) k a b u d :=
 ⟨by simpa using h.lt,setO (by decide) h.c0,setO (by decide) h.c1,setS h.c2,setO (by decide) h.c3,fun j=>by simpa using h.fr j⟩
theorem B4.s3 {Z:World} {k:Nat} {a b c d:Value} (h:B4 Z k a b c d) (u:Value):B4 (Z.setCell ⟨k,3,none⟩ u) k a b c u :=
 ⟨by simpa using h.lt,setO (by decide) h.c0,setO (by decide) h.c1,setO (by decide) h.c2,setS h.c3,fun j=>by simpa using h.fr j⟩
structure B6 (Z:World) (k:Nat) (a b c d e f:Value):Prop where
 lt:k<Z.heap.size
 c0:Z.cell? ⟨k,0,none⟩=some a
 c1:Z.cell? ⟨k,1,none⟩=some b
 c2:Z.cell? ⟨k,2,none⟩=some c
 c3:Z.cell? ⟨k,3,none⟩=some d
 c4:Z.cell? ⟨k,4,none⟩=some e
 c5:Z.cell? ⟨k,5,none⟩=some f
 fr:∀ j,Z.frozen? ⟨k,j,none⟩=false
theorem B6.keep {Z Y:World} {k:Nat} {a b c d e f:Value} (h:B6 Z k a b c d e f) (hk:Y.heap[k]?=Z.heap[k]?):B6 Y k a b c d e f :=
 ⟨by obtain ⟨h1,_⟩:=Array.getElem?_eq_some_iff.1 ((hk.trans (Array.getElem?_eq_getElem h.lt)));exact h1,(World.cell?_of_block (a:=⟨k,0,none⟩) hk).trans h.c0,(World.cell?_of_block (a:=⟨k,1,none⟩) hk).trans h.c1,(World.cell?_of_block (a:=⟨k,2,none⟩) hk).trans h.c2,(World.cell?_of_block (a:=⟨k,3,none⟩) hk).trans h.c3,(World.cell?_of_block (a:=⟨k,4,none⟩) hk).trans h.c4,(World.cell?_of_block (a:=⟨k,5,none⟩) hk).trans h.c5,fun j=>by have:=h.fr j;simp only [World.frozen?] at this ⊢;rw [hk];exact this⟩
theorem B6.below {Z Y:World} {k:Nat} {a b c d e f:Value} (h:B6 Z k a b c d e f) (hb:Below Z.heap.size Z Y):B6 Y k a b c d e f:=h.keep (hb.block k h.lt)
theorem B6.grown {Z Y:World} {k:Nat} {row:Option Nat} {a b c d e f:Value} (h:B6 Z k a b c d e f) (hg:Z.grownBy Y row) (hn:row≠some k):B6 Y k a b c d e f:=h.keep (hg.block k h.lt (fun e=>hn e.symm))
theorem B6.new (w:World) (a b c d e f:Value) (t:TypeId):B6 (w.alloc (.cells #[a,b,c,d,e,f] t)) w.heap.size a b c d e f:=by
 obtain ⟨⟨h0,h1,h2,h3,h4,h5⟩,hf⟩:=sixF (Below.refl _ (w.alloc (.cells #[a,b,c,d,e,f] t))) (by simp) (heap_alloc_new w _)
 exact ⟨by simp,h0,h1,h2,h3,h4,h5,hf⟩
theorem B6.s0 {Z:World} {k:Nat} {a b c d e f:Value} (h:B6 Z k a b c d e f) (u:Value):B6 (Z.setCell ⟨k,0,none⟩ u) k u b c d e f :=
 ⟨by simpa using h.lt,setS h.c0,setO (by decide) h.c1,setO (by decide) h.c2,setO (by decide) h.c3,setO (by decide) h.c4,setO (by decide) h.c5,fun j=>by simpa using h.fr j⟩
theorem B6.s1 {Z:World} {k:Nat} {a b c d e f:Value} (h:B6 Z k a b c d e f) (u:Value):B6 (Z.setCell ⟨k,1,none⟩ u) k a u c d e f :=
 ⟨by simpa using h.lt,setO (by decide) h.c0,setS h.c1,setO (by decide) h.c2,setO (by decide) h.c3,setO (by decide) h.c4,setO (by decide) h.c5,fun j=>by simpa using h.fr j⟩
theorem B6.s2 {Z:World} {k:Nat} {a b c d e f:Value} (h:B6 Z k a b c d e f) (u:Value):B6 (Z.setCell ⟨k,2,none⟩ u) k a b u d e f :=
 ⟨by simpa using h.lt,setO (by decide) h.c0,setO (by decide) h.c1,setS h.c2,setO (by decide) h.c3,setO (by decide) h.c4,setO (by decide) h.c5,fun j=>by simpa using h.fr j⟩
theorem B6.s3 {Z:World} {k:Nat} {a b c d e f:Value} (h:B6 Z k a b c d e f) (u:Value):B6 (Z.setCell ⟨k,3,none⟩ u) k a b c u e f :=
 ⟨by simpa using h.lt,setO (by decide) h.c0,setO (by decide) h.c1,setO (by decide) h.c2,setS h.c3,setO (by decide) h.c4,setO (by decide) h.c5,fun j=>by simpa using h.fr j⟩
theorem B6.s4 {Z:World} {k:Nat} {a b c d e f:Value} (h:B6 Z k a b c d e f) (u:Value):B6 (Z.setCell ⟨k,4,none⟩ u) k a b c d u f :=
 ⟨by simpa using h.lt,setO (by decide) h.c0,setO (by decide) h.c1,setO (by decide) h.c2,setO (by decide) h.c3,setS h.c4,setO (by decide) h.c5,fun j=>by simpa using h.fr j⟩
theorem B6.s5 {Z:World} {k:Nat} {a b c d e f:Value} (h:B6 Z k a b c d e f) (u:Value):B6 (Z.setCell ⟨k,5,none⟩ u) k a b c d e u :=
 ⟨by simpa using h.lt,setO (by decide) h.c0,setO (by decide) h.c1,setO (by decide) h.c2,setO (by decide) h.c3,setO (by decide) h.c4,setS h.c5,fun j=>by simpa using h.fr j⟩
theorem za9.put {w w':World} {base g n c:Nat} {xs:List TV} {i:Nat} (h:za9 w base (.slice (some ⟨g,0,none⟩) n c) xs) (hi:i<xs.length) (y:TV) (hg:w.grownBy w' (some g))
 (hr:w'.ownsRow base 40 6 (.slice (some ⟨g,0,none⟩) n c) xs.length (tksV (xs.set i y))) (ha:y.2=xs[i].2) (hn:y.1.2.1=xs[i].1.2.1):za9 w' base (.slice (some ⟨g,0,none⟩) n c) (xs.set i y):=by
 refine ⟨by rw [List.length_set];exact hr,fun z hz=>?_⟩
 have keep:∀ x∈xs,w'.ownsRow base 2 1 (tvT x) x.1.2.1.length (zbw x.1.2.1):=fun x hx=>(h.trees x hx).kept hg (zbI (h.trees x hx) h.row (by decide))
 obtain ⟨j,hj,rfl⟩:=List.mem_iff_getElem.1 hz
 rw [List.length_set] at hj
 rw [List.getElem_set]
 by_cases hij:i=j
 ·
  subst hij
  rw [if_pos rfl]
  have:=keep _ (List.getElem_mem hi)
  unfold tvT at this ⊢
  rw [ha,hn]
  exact this
 ·
  rw [if_neg hij]
  exact keep _ (List.getElem_mem hj)
theorem ze4 {xs:List TV} {i:Nat} (hi:i<xs.length) (y:TV) (ha:y.2=xs[i].2) (hn:y.1.2.1=xs[i].1.2.1) (h:zao (xs.map tvT)):zao ((xs.set i y).map tvT):=by
 have e:(xs.set i y).map tvT=xs.map tvT:=by
  rw [List.map_set]
  have hy:tvT y=(xs.map tvT)[i]'(by simpa using hi):=by rw [List.getElem_map];unfold tvT;rw [ha,hn]
  rw [hy,List.set_getElem_self]
 rw [e];exact h
theorem new_tk (w:World) (x:TV) (c:Nat):Src (w.alloc (.cells #[.string ⟨x.1.1.toArray⟩,tvT x,.int .i64 x.1.2.2.1,.int .i64 x.1.2.2.2.1,.int .i64 x.1.2.2.2.2.1,.int .i64 x.1.2.2.2.2.2] 40)) (.slice (some ⟨w.heap.size,0,none⟩) 1 c) 1 6 (tksV [x]):=by
 refine ⟨rfl,tksV_one _,Or.inr ⟨_,c,rfl,fun j u hu=>?_⟩⟩
 rw [znV,Nat.zero_add]
 match j,hu with
 | 0,hu=>simp [tksV] at hu;subst hu;simp
 | 1,hu=>simp [tksV] at hu;subst hu;simp
 | 2,hu=>simp [tksV] at hu;subst hu;simp
 | 3,hu=>simp [tksV] at hu;subst hu;simp
 | 4,hu=>simp [tksV] at hu;subst hu;simp
 | 5,hu=>simp [tksV] at hu;subst hu;simp
 | j+6,hu=>simp [tksV] at hu
theorem zop {X:World} {B:Nat} {v:Value} {xs:List TV} (h:za9 X B v xs) (x:TV) (ht:X.ownsRow B 2 1 (tvT x) x.1.2.1.length (zbw x.1.2.1)) (hb:B≤X.heap.size) (hn:xs.length≤1048576) :
 ∃ v' Y,(Builtin.append_ #[27,27] 27 #[v,.slice (some ⟨X.heap.size,0,none⟩) 1 1]).run Tryz.prog (X.alloc (.cells #[.string ⟨x.1.1.toArray⟩,tvT x,.int .i64 x.1.2.2.1,.int .i64 x.1.2.2.2.1,.int .i64 x.1.2.2.2.2.1,.int .i64 x.1.2.2.2.2.2] 40))=.ok v' Y∧za9 Y B v' (xs++[x])∧X.grownBy Y v.ownBlock:=by
 obtain ⟨i0,hi,hz0,hz1,hz2⟩:=info_parts infoTask
 obtain ⟨O,hO⟩:∃ O,Obj.cells #[.string ⟨x.1.1.toArray⟩,tvT x,.int .i64 x.1.2.2.1,.int .i64 x.1.2.2.2.1,.int .i64 x.1.2.2.2.2.1,.int .i64 x.1.2.2.2.2.2] 40=O:=⟨_,rfl⟩
 have hs:=new_tk X x 1
 rw [hO] at hs ⊢
 obtain ⟨v',Y,hrun,hown,hg,_⟩:=zaE (P:=Tryz.prog) (X.alloc O) B 27 27 40 i0 _ 6 72 Tryz.underlying27 hi hz0 hz1 hz2 rfl (by decide) _ _ _ (h.row.alloc _) _ 1 (tksV [x]) hs (by unfold maxLen;omega) (by omega) (by simp;omega)
 refine ⟨v',Y,hrun,⟨?_,fun z hz=>?_⟩,(World.grownBy_alloc X _ _).trans hg⟩
 ·
  rw [zkZ,List.length_append]
  exact hown
 ·
  have hrow:=h.row.alloc O
  rcases List.mem_append.1 hz with h1 | h1
  ·
   have h2:=(h.trees z h1).alloc O
   exact h2.kept hg (zbI h2 hrow (by decide))
  ·
   rw [List.mem_singleton.1 h1]
   have h2:=ht.alloc O
   exact h2.kept hg (zbI h2 hrow (by decide))
theorem zee {X:World} {B n:Nat} {v:Value} {xs:List Int} (x:Int) (hv:X.ownsRow B 2 1 v n (zbw xs)) (hb:B≤X.heap.size) (hn:n≤1048576) :
 ∃ v' Y,(Builtin.append_ #[38,38] 38 #[v,.slice (some ⟨X.heap.size,0,none⟩) 1 1]).run Tryz.prog (X.alloc (.cells #[.int .i64 x] 2))=.ok v' Y∧Y.ownsRow B 2 1 v' (n+1) (zbw (xs++[x]))∧X.grownBy Y v.ownBlock:=by
 obtain ⟨i0,hi,hz0,hz1,hz2⟩:=info_parts info2
 obtain ⟨v',Y,hrun,hown,hg,_⟩:=zaE (P:=Tryz.prog) (X.alloc (.cells #[.int .i64 x] 2)) B 38 38 2 i0 _ 1 8 Tryz.underlying38 hi hz0 hz1 hz2 rfl (by decide) _ _ _ (hv.alloc _) (.slice (some ⟨X.heap.size,0,none⟩) 1 1) 1 (zbw [x]) ⟨rfl,zp5 _,Or.inr ⟨_,1,rfl,new_int X x⟩⟩ (by unfold maxLen;omega) (by omega) (by simp;omega)
 refine ⟨v',Y,hrun,?_,(World.grownBy_alloc X _ _).trans hg⟩
 rw [zkc]
 exact hown
theorem zhZ {os ims:List (List UInt8)} {k:Nat} (h:os.getD k []∈ims):zaR os ims (k+1)=zaR os ims k++[(k:Int)]:=by
 unfold zaR
 rw [List.range_succ,List.filter_append,List.map_append]
 simp only [List.filter_cons,List.filter_nil,decide_eq_true h,if_true,List.map_cons,List.map_nil]
theorem zjZ {os ims:List (List UInt8)} {k:Nat} (h:¬os.getD k []∈ims):zaR os ims (k+1)=zaR os ims k:=by
 unfold zaR
 rw [List.range_succ,List.filter_append,List.map_append]
 simp only [List.filter_cons,List.filter_nil,decide_eq_false h,if_false,List.map_nil,List.append_nil,Bool.false_eq_true]
theorem zi0 (os ims:List (List UInt8)) (k:Nat):(zaR os ims k).length≤k:=by
 unfold zaR
 rw [List.length_map]
 exact Nat.le_trans (List.length_filter_le _ _) (by simp)
theorem zjy {ps:List Pk} (C:zcC ps) {i:Nat} (hi:i<(zae ps).length):∃ j,j<ps.length∧at8 ps ((zae ps).getD i [])=(j:Int)∧zcf ps i=((zae ps).getD i [],zaR (zae ps) (ps.getD j pk0).2.1 i,0,0,0,0):=by
 have hg:(zae ps).getD i []=(zae ps)[i]:=by simp [List.getD,hi]
 rcases zdt ps ((zae ps).getD i []) with ⟨_,h⟩ | ⟨j,hj,e,_⟩
 ·
  exact absurd (by rw [hg];exact zdy C _ (List.getElem_mem hi)) h
 ·
  refine ⟨j,hj,e,?_⟩
  unfold zcf pkOf
  rw [e,Int.toNat_natCast]
theorem zb3 {w:World} {base e size n:Nat} {v:Value} {xs:List Value} (h:w.ownsRow base e size v n xs):∃ a c,v=.slice a n c:=by
 rcases zb4 h with ⟨rfl,rfl,_⟩ | ⟨g,cp,rfl⟩
 ·
  exact ⟨none,0,rfl⟩
 ·
  exact ⟨some ⟨g,0,none⟩,cp,rfl⟩
set_option maxHeartbeats 4000000 in
set_option maxRecDepth 100000 in
theorem zl4 (a:Option Addr) (len cap:Nat) (ps:List Pk) (w:World) (hin:zat w a len ps) (hlen:len≤1048576) (hsh:zbr ps) (h0:(zaY ps).1=0) :
 Calls Tryz.prog 57 #[.slice a len cap] w fun e w'=>∃ v xs,e=.returned v∧xs.map (·.1)=zaP ps∧za9 w' w.heap.size v xs∧zao (xs.map tvT)∧Below w.heap.size w w':=by
 obtain rfl:ps.length=len:=hin.1
 have C:=zds h0
 have hpl:=(zdz C).2
 have HPr:Hid (_):=zjI a ps.length cap ps w hin h0
 rw [show prtV ps=zae ps from (zeH h0).1] at HPr
 have HTk:Hid (∀ i,i<(zae ps).length→_):=fun i hi=>zjy C hi
 have HTs:Hid (zaP ps=(List.range (zae ps).length).map (zcf ps)):=rfl
 have HSh:Hid (∀ j,(ps.getD j pk0).2.1.length≤1048576):=fun j=>(hsh j).2.1
 have HA8:Hid (∀ W y,zat W a ps.length ps→Calls Tryz.prog 92 #[.slice a ps.length cap,.string ⟨y.toArray⟩] W fun e w'=>e=.returned (.int .i64 (at8 ps y))∧w'=W):=fun W y hW=>zfq a ps.length cap ps y W hW hlen
 have HI:Hid (zat w a ps.length ps):=hin
 generalize zcf ps=T at HTk HTs
 generalize zae ps=os at HPr HTk HTs hpl
 generalize zaP ps=R at HTs ⊢
 have hpi:(ps.length:Int)≤1048576:=by omega
 have hoi:(os.length:Int)≤8:=by omega
 clear hin hsh h0 C hlen
 go_enter Tryz.func57,Tryz.ntmps57
 go_wp2_with fail
 refine Calls.mono HPr.out ?_
 rintro e w1 ⟨vn,rfl,ho,hb1⟩
 obtain ⟨_,na,nc,rfl,hN⟩:=zaC ho
 have HN:Hid (∀ Z,Below w1.heap.size w1 Z→za5 Z na os.length os):=fun Z hz=>hN.below hz
 have HIz:Hid (∀ Z,Below w1.heap.size w1 Z→zat Z a ps.length ps):=fun Z hz=>HI.out.below (hb1.trans (hz.mono hb1.size))
 have HB1:Hid (Below w.heap.size w w1):=hb1
 have HO0:Hid (za9 (w1.alloc (.cells #[] 40)) w1.heap.size (.slice (some ⟨w1.heap.size,0,none⟩) 0 0) []):=⟨World.ownsRow_lit (base:=w1.heap.size) (e:=40) (size:=6) w1 #[] 0 (Nat.le_refl _) (by decide) rfl,fun x hx=>by cases hx⟩
 have HB0:Hid (Below w1.heap.size w1 (w1.alloc (.cells #[] 40))):=(Below.refl _ _).alloc (Nat.le_refl _) _
 have HX0:Hid (([]:List TV).map (·.1)=(List.range 0).map T):=rfl
 clear ho hN hb1 HPr HI
 go_wp2
 go_loopw [4,5] (fun tv iv wr=>∃ (i:Nat) (xs:List TV) (ta:Option Addr) (tc:Nat),tv=.slice ta i tc∧iv=.int .i64 (i:Int)∧i≤os.length∧xs.length=i∧Hid (xs.map (·.1)=(List.range i).map T)∧Hid (za9 wr w1.heap.size (.slice ta i tc) xs)∧Hid (zao (xs.map tvT))∧Hid (Below w1.heap.size w1 wr)) (fun _ iv _=>os.length-(intOf iv).toNat)
 case atStart=>exact ⟨0,[],_,0,rfl,rfl,by omega,rfl,HX0,HO0,zao.nil,HB0⟩
 case round =>
  obtain ⟨i,xs,ta,tc,rfl,rfl,hi,hxl,HX,HO,HAp,HB⟩:=hrel
  obtain ⟨X0,hX0⟩:∃ X0,X0=wr:=⟨_,rfl⟩
  subst hX0
  clear HO0 HB0 HX0
  by_cases hlt:(i:Int)<(os.length:Int)
  ·
   have hi2:i<os.length:=by omega
   obtain ⟨nb,no,rfl,hnl,d0⟩:=(HN.out X0 HB.out).2 i hi2
   obtain ⟨j,hj,e8,hTi⟩:=HTk.out i hi2
   obtain ⟨x,hx⟩:∃ x,os.getD i []=x:=⟨_,rfl⟩
   rw [hx] at d0 e8 hTi
   obtain ⟨T0,hT0⟩:∃ T0,X0.heap.size=T0:=⟨_,rfl⟩
   have bz:=B6.new X0 (.string ⟨#[]⟩) (.slice none 0 0) (.int .i64 0) (.int .i64 0) (.int .i64 0) (.int .i64 0) 40
   have hbZ:Below X0.heap.size X0 (X0.alloc (.cells #[.string ⟨#[]⟩,.slice none 0 0,.int .i64 0,.int .i64 0,.int .i64 0,.int .i64 0] 40)):=(Below.refl _ _).alloc (Nat.le_refl _) _
   have hsZ:(X0.alloc (.cells #[.string ⟨#[]⟩,.slice none 0 0,.int .i64 0,.int .i64 0,.int .i64 0,.int .i64 0] 40)).heap.size=T0+1:=by rw [←hT0];simp
   obtain ⟨Z0,hZ0⟩:∃ Z0,X0.alloc (.cells #[.string ⟨#[]⟩,.slice none 0 0,.int .i64 0,.int .i64 0,.int .i64 0,.int .i64 0] 40)=Z0:=⟨_,rfl⟩
   rw [hZ0] at bz hbZ hsZ
   rw [hT0] at bz hbZ
   have z0:=bz.c0
   have z1:=bz.c1
   have z2:=bz.c2
   have z3:=bz.c3
   have z4:=bz.c4
   have z5:=bz.c5
   have zf:=bz.fr
   have b6:=(((((bz.s0 (.string ⟨x.toArray⟩)).s1 (.slice none 0 0)).s2 (.int .i64 0)).s3 (.int .i64 0)).s4 (.int .i64 0)).s5 (.int .i64 0)
   have hbX:Below T0 X0 ((((((Z0.setCell ⟨T0,0,none⟩ (.string ⟨x.toArray⟩)).setCell ⟨T0,1,none⟩ (.slice none 0 0)).setCell ⟨T0,2,none⟩ (.int .i64 0)).setCell ⟨T0,3,none⟩ (.int .i64 0)).setCell ⟨T0,4,none⟩ (.int .i64 0)).setCell ⟨T0,5,none⟩ (.int .i64 0)):=(((((hbZ.setCell (Nat.le_refl _) _).setCell (Nat.le_refl _) _).setCell (Nat.le_refl _) _).setCell (Nat.le_refl _) _).setCell (Nat.le_refl _) _).setCell (Nat.le_refl _) _
   have hs1:((((((Z0.setCell ⟨T0,0,none⟩ (.string ⟨x.toArray⟩)).setCell ⟨T0,1,none⟩ (.slice none 0 0)).setCell ⟨T0,2,none⟩ (.int .i64 0)).setCell ⟨T0,3,none⟩ (.int .i64 0)).setCell ⟨T0,4,none⟩ (.int .i64 0)).setCell ⟨T0,5,none⟩ (.int .i64 0)).heap.size=T0+1:=by simpa using hsZ
   obtain ⟨X1,hX1⟩:∃ X1,((((((Z0.setCell ⟨T0,0,none⟩ (.string ⟨x.toArray⟩)).setCell ⟨T0,1,none⟩ (.slice none 0 0)).setCell ⟨T0,2,none⟩ (.int .i64 0)).setCell ⟨T0,3,none⟩ (.int .i64 0)).setCell ⟨T0,4,none⟩ (.int .i64 0)).setCell ⟨T0,5,none⟩ (.int .i64 0))=X1:=⟨_,rfl⟩
   rw [hX1] at b6 hbX hs1
   have hle:w1.heap.size≤T0:=by rw [←hT0];exact HB.out.size
   have hB1x:Below w1.heap.size w1 X1:=HB.out.trans (hbX.mono hle)
   have HAs:Hid (_):=HA8.out X1 x (HIz.out X1 hB1x)
   rw [e8] at HAs
   have hP0:=HIz.out X0 HB.out
   obtain ⟨b,off,rfl,hbl,r0',ia,il,ic,fa,fl,fc,r1',r2',hii,_⟩:=hP0.2 j hj
   rw [hT0] at hbl hnl
   have d1:=(hbX.cell (p:=⟨nb,no+i,none⟩) hnl).trans d0
   have r0:=(hbX.cell (p:=⟨b,off+j*3,none⟩) hbl).trans r0'
   have r1:=(hbX.cell (p:=⟨b,off+j*3+1,none⟩) hbl).trans r1'
   have r2:=(hbX.cell (p:=⟨b,off+j*3+2,none⟩) hbl).trans r2'
   clear r0' r1' r2'
   have hsj:=HSh.out j
   obtain ⟨⟨pn,ims,fs⟩,hp⟩:∃ p,ps.getD j pk0=p:=⟨_,rfl⟩
   rw [hp] at r0 hii hTi hsj
   simp only at r0 hii hTi hsj
   obtain rfl:ims.length=il:=hii.1
   obtain ⟨bx,hbx⟩:=Box3.new X1 (.string ⟨pn.toArray⟩) (.slice ia ims.length ic) (.slice fa fl fc) 75
   have hs2:(X1.alloc (.cells #[.string ⟨pn.toArray⟩,.slice ia ims.length ic,.slice fa fl fc] 75)).heap.size=T0+2:=by simp [hs1]
   obtain ⟨X2,hX2⟩:∃ X2,X1.alloc (.cells #[.string ⟨pn.toArray⟩,.slice ia ims.length ic,.slice fa fl fc] 75)=X2:=⟨_,rfl⟩
   rw [hX2] at bx hbx hs2
   have HT6:Hid (B6 X2 T0 (.string ⟨x.toArray⟩) (.slice none 0 0) (.int .i64 0) (.int .i64 0) (.int .i64 0) (.int .i64 0)):=b6.below hbx
   rw [hs1] at bx hbx
   have HBx:Hid (Box3 X2 (T0+1) (.string ⟨pn.toArray⟩) (.slice ia ims.length ic) (.slice fa fl fc)):=bx
   have HB2:Hid (Below T0 X0 X2):=hbX.trans (hbx.mono (by omega))
   have HIm:Hid (∀ Z,Below T0 X0 Z→za5 Z ia ims.length ims∧za5 Z (some ⟨nb,no,none⟩) os.length os∧za9 Z w1.heap.size (.slice ta i tc) xs):=fun Z hz=>by
    rw [←hT0] at hz
    exact ⟨hii.below hz,(HN.out X0 HB.out).below hz,HO.out.below hz⟩
   have HTi:Hid (T i=(x,zaR os ims i,0,0,0,0)):=hTi
   have HN0:Hid (zaR os ims 0=[]):=rfl
   have HR0:Hid (X2.ownsRow (T0+2) 2 1 (.slice none 0 0) ([]:List Int).length (zbw [])):=World.ownsRow_nil _ _ _ _
   have HSz:Hid (T0+2≤X2.heap.size):=by exact (by omega:T0+2≤X2.heap.size)
   have hji:(j:Int)<(ps.length:Int):=by omega
   clear e8 hx b6 bz hbZ hsZ hbX hB1x hP0 hii hp bx hbx
   go_wp2_with (go_at_call 92;refine Calls.mono HAs.out ?_;rintro e w3 ⟨rfl,hw3⟩;obtain rfl:=hw3.symm)
   go_loopw [8] (fun kv wy=>∃ (k:Nat) (va:Option Addr) (vc:Nat) (ns:List Int),kv=.int .i64 (k:Int)∧k≤i∧ns.length≤k∧Hid (zaR os ims k=ns)∧Hid (B6 wy T0 (.string ⟨x.toArray⟩) (.slice va ns.length vc) (.int .i64 0) (.int .i64 0) (.int .i64 0) (.int .i64 0))∧Hid (wy.ownsRow (T0+2) 2 1 (.slice va ns.length vc) ns.length (zbw ns))∧Hid (Box3 wy (T0+1) (.string ⟨pn.toArray⟩) (.slice ia ims.length ic) (.slice fa fl fc))∧Hid (Below T0 X0 wy)∧Hid (T0+2≤wy.heap.size)) (fun kv _=>i-(intOf kv).toNat)
   case atStart=>exact ⟨0,none,0,[],rfl,by omega,by simp,HN0,HT6,HR0,HBx,HB2,HSz⟩
   case round =>
    obtain ⟨k,va,vc,ns,rfl,hk,hnl2,HNs,HT,HR,HP,HBy,HSy⟩:=hrel
    obtain ⟨X3,hX3⟩:∃ X3,X3=wr:=⟨_,rfl⟩
    subst hX3
    clear HN0 HT6 HR0 HBx HB2 HSz hX1 hX2 hZ0 z0 z1 z2 z3 z4 z5 zf hs1 hs2 d0 d1 r0 r1 r2
    have p1:=HP.out.c1
    by_cases hki:(k:Int)<(i:Int)
    ·
     obtain ⟨_,_,e,_,dk⟩:=(HIm.out X3 HBy.out).2.1.2 k (by omega)
     injection e with e
     injection e with e1 e2 _
     subst e1 e2
     obtain ⟨y,hy⟩:∃ y,os.getD k []=y:=⟨_,rfl⟩
     rw [hy] at dk
     have hH:∀ Z,za5 Z ia ims.length ims→_:=fun Z hz=>zdU ia ims.length ic ims y Z hz (by omega)
     have HTm:Hid (za5 X3 ia ims.length ims):=(HIm.out X3 HBy.out).1
     have hko:(k:Int)<(os.length:Int):=by omega
     have t1:=HT.out.c1
     have tf:=HT.out.fr 1
     have HDr:Hid (∀ n,Below T0 X0 (X3.drewN n)∧B6 (X3.drewN n) T0 (.string ⟨x.toArray⟩) (.slice va ns.length vc) (.int .i64 0) (.int .i64 0) (.int .i64 0) (.int .i64 0)∧(X3.drewN n).ownsRow (T0+2) 2 1 (.slice va ns.length vc) ns.length (zbw ns)∧Box3 (X3.drewN n) (T0+1) (.string ⟨pn.toArray⟩) (.slice ia ims.length ic) (.slice fa fl fc)∧T0+2≤(X3.drewN n).heap.size):=fun n =>
      ⟨HBy.out.trans ⟨rfl,rfl,rfl,Nat.le_refl _,fun _ _=>rfl⟩,HT.out.keep rfl,za6 HR.out ⟨rfl,rfl,rfl,Nat.le_refl _,fun _ _=>rfl⟩,HP.out.keep rfl,HSy.out⟩
     by_cases hm:y∈ims
     ·
      have HNy:Hid (zaR os ims (k+1)=ns++[(k:Int)]):=by exact (by rw [zhZ (by rw [hy];exact hm),HNs.out]:zaR os ims (k+1)=ns++[(k:Int)])
      rw [decide_eq_true hm] at hH
      have HH:Hid (_):=hH
      clear hH hm hy
      go_wp2_with fail
      go_quiet (first | (go_at_call 93;refine Calls.quiet_of_same (HH.out _ (HTm.out.below ⟨rfl,rfl,rfl,Nat.le_refl _,fun _ _=>rfl⟩))))
      obtain ⟨hBd,hTd,hRd,hPd,hSd⟩:=HDr.out nq
      clear HDr HTm HH t1 tf p1 dk
      generalize X3.drewN nq=Z at hBd hTd hRd hPd hSd ⊢
      obtain ⟨v',Y,hr,ho,hg⟩:=zee (k:Int) hRd hSd (by omega)
      obtain ⟨va',vc',rfl⟩:=zb3 ho
      have hlen:(ns++[(k:Int)]).length=ns.length+1:=by simp
      have q1:=hTd.c1
      have bY:=hTd.grown hg (fun e=>by have:=(hRd.lt _ e).1;omega)
      have y1:=bY.c1
      have yf:=bY.fr 1
      have HT2:Hid (B6 (Y.setCell ⟨T0,1,none⟩ (.slice va' (ns.length+1) vc')) T0 (.string ⟨x.toArray⟩) (.slice va' (ns++[(k:Int)]).length vc') (.int .i64 0) (.int .i64 0) (.int .i64 0) (.int .i64 0)):=by exact (by rw [hlen];exact bY.s1 _:B6 (Y.setCell ⟨T0,1,none⟩ (.slice va' (ns.length+1) vc')) T0 (.string ⟨x.toArray⟩) (.slice va' (ns++[(k:Int)]).length vc') (.int .i64 0) (.int .i64 0) (.int .i64 0) (.int .i64 0))
      have HR2:Hid ((Y.setCell ⟨T0,1,none⟩ (.slice va' (ns.length+1) vc')).ownsRow (T0+2) 2 1 (.slice va' (ns++[(k:Int)]).length vc') (ns++[(k:Int)]).length (zbw (ns++[(k:Int)]))):=by exact (by rw [hlen];exact ownsRow_setCell_below ho (by show T0<T0+2;omega) _:(Y.setCell ⟨T0,1,none⟩ (.slice va' (ns.length+1) vc')).ownsRow (T0+2) 2 1 (.slice va' (ns++[(k:Int)]).length vc') (ns++[(k:Int)]).length (zbw (ns++[(k:Int)])))
      have HP2:Hid (Box3 (Y.setCell ⟨T0,1,none⟩ (.slice va' (ns.length+1) vc')) (T0+1) (.string ⟨pn.toArray⟩) (.slice ia ims.length ic) (.slice fa fl fc)):=(hPd.grown hg (fun e=>by have:=(hRd.lt _ e.symm).1;omega)).keep (Below.heap_setCell _ _ _ _ (by show T0+1≠T0;omega))
      have HB2:Hid (Below T0 X0 (Y.setCell ⟨T0,1,none⟩ (.slice va' (ns.length+1) vc'))):=(hBd.grown hg (by omega) (fun q e=>by have:=(hRd.lt _ e).1;omega)).setCell (Nat.le_refl _) _
      have HS2:Hid (T0+2≤(Y.setCell ⟨T0,1,none⟩ (.slice va' (ns.length+1) vc')).heap.size):=by exact (by have:=hg.size;simp;omega:T0+2≤(Y.setCell ⟨T0,1,none⟩ (.slice va' (ns.length+1) vc')).heap.size)
      clear hBd hTd hRd hPd hSd ho hg bY
      go_wp2_with (at_builtin;refine za0 rfl _ _ 38 rfl _ _ _ rfl rfl hr ?_;clear hr)
      go_roundw
      case rel=>exact ⟨k+1,va',vc',ns++[(k:Int)],by go_num,by omega,by rw [hlen];omega,HNy,HT2,HR2,HP2,HB2,HS2⟩
      case measure=>simp [intOf];omega
     ·
      have HNy:Hid (zaR os ims (k+1)=ns):=by exact (by rw [zjZ (by rw [hy];exact hm),HNs.out]:zaR os ims (k+1)=ns)
      rw [decide_eq_false hm] at hH
      have HH:Hid (_):=hH
      clear hH hm hy
      go_wp2_with fail
      go_quiet (first | (go_at_call 93;refine Calls.quiet_of_same (HH.out _ (HTm.out.below ⟨rfl,rfl,rfl,Nat.le_refl _,fun _ _=>rfl⟩))))
      obtain ⟨hBd,hTd,hRd,hPd,hSd⟩:=HDr.out nq
      go_wp2
      go_roundw
      case rel=>exact ⟨k+1,va,vc,ns,by go_num,by omega,by omega,HNy,hTd,hRd,hPd,hBd,hSd⟩
      case measure=>simp [intOf];omega
    ·
     obtain rfl:k=i:=by omega
     have c0:=HT.out.c0
     have c1:=HT.out.c1
     have c2:=HT.out.c2
     have c3:=HT.out.c3
     have c4:=HT.out.c4
     have c5:=HT.out.c5
     have hs3:w1.heap.size≤X3.heap.size:=by have:=HSy.out;omega
     obtain ⟨v',Y,hr,ho,hg⟩:=zop (HIm.out X3 HBy.out).2.2 ((x,ns,0,0,0,0),va,vc) (zaI HR.out (by omega)) hs3 (by omega)
     obtain ⟨ta',tc',rfl⟩:=zb3 ho.row
     have hlen:(xs++[(((x,ns,0,0,0,0),va,vc):TV)]).length=k+1:=by simp [hxl]
     have HX2:Hid ((xs++[(((x,ns,0,0,0,0),va,vc):TV)]).map (·.1)=(List.range (k+1)).map T):=by exact (by rw [List.map_append,HX.out,List.range_succ,List.map_append,List.map_cons,List.map_nil,List.map_cons,List.map_nil,HTi.out,HNs.out]:(xs++[(((x,ns,0,0,0,0),va,vc):TV)]).map (·.1)=(List.range (k+1)).map T)
     have HA2:Hid (zao ((xs++[(((x,ns,0,0,0,0),va,vc):TV)]).map tvT)):=by exact (by
      rw [List.map_append]
      refine HAp.out.snoc (fun v hv=>?_)
      obtain ⟨z,hz,rfl⟩:=List.mem_map.1 hv
      rcases hvb:(tvT z).ownBlock with _ | g
      ·
       exact Or.inl rfl
      ·
       refine Or.inr (fun e=>?_)
       have h1:=((HO.out.trees z hz).lt g hvb).2
       have h2:=(HR.out.lt g e.symm).1
       omega:zao ((xs++[(((x,ns,0,0,0,0),va,vc):TV)]).map tvT))
     have HB2:Hid (Below w1.heap.size w1 Y):=(HB.out.trans (HBy.out.mono hle)).grown hg hs3 (fun q e=>(HO.out.row.lt q e).1)
     rw [hlen] at hr ho
     have HO2:Hid (za9 Y w1.heap.size (.slice ta' (k+1) tc') (xs++[(((x,ns,0,0,0,0),va,vc):TV)])):=ho
     simp only [tvT] at hr
     clear ho hg hs3
     go_wp2_with (at_builtin;refine za0 rfl _ _ 27 rfl _ _ _ rfl rfl hr ?_;clear hr)
     go_roundw
     case rel=>exact ⟨k+1,_,ta',tc',rfl,by go_num,by omega,hlen,HX2,HO2,HA2,HB2⟩
     case measure=>simp [intOf];omega
  ·
   have HE:Hid (xs.map (·.1)=R):=by exact (by rw [HTs.out,HX.out,show i=os.length by omega]:xs.map (·.1)=R)
   go_wp2
   go_ret
   exact ⟨_,rfl,xs,HE.out,HO.out.base HB1.out.size,HAp.out,HB1.out.trans (HB.out.mono HB1.out.size)⟩
end Go.Proofs.YtdbljnddkbpanaaGreatDoor
