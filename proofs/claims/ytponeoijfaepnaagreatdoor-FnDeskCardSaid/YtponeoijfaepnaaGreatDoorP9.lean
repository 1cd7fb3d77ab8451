/-
  Parts of one proof, one behind the other: PackO, PackW, Marks, Marks2, Marks3, TextsL, FnL, PackK, CheckS, CheckS2.
-/
import Derived.Test.YtponeoijfaepnaaGreatDoorP8
namespace Go.Proofs.YtponeoijfaepnaaGreatDoor
open Go.RowKit
set_option maxHeartbeats 8000000
set_option maxRecDepth 100000
abbrev FV:=Fn × Option Addr × Nat
def fvT (x:FV):Value:=.slice x.2.1 x.1.2.2.length x.2.2
def fnsV:List FV→List Value
 | []=>[]
 | x :: r=>.string ⟨x.1.1.toArray⟩ :: .int .i64 x.1.2.1 :: fvT x :: fnsV r
def fv0:FV:=(fn0,none,0)
theorem zln (x y:List FV):fnsV (x++y)=fnsV x++fnsV y:=by
 induction x with
 | nil=>rfl
 | cons n r ih=>simp [fnsV,ih]
theorem fnsV_one (xs:List FV):∀ u∈fnsV xs,u.oneCell'=true:=by
 induction xs with
 | nil=>intro u hu;cases hu
 | cons n r ih =>
  intro u hu;simp only [fnsV,List.mem_cons] at hu;rcases hu with rfl | rfl | rfl | h
  ·rfl
  ·rfl
  ·rfl
  ·exact ih u h
theorem ziF (xs:List FV) (j:Nat) (hj:j<xs.length):(fnsV xs)[j*3]?=some (.string ⟨(xs.getD j fv0).1.1.toArray⟩)∧(fnsV xs)[j*3+1]?=some (.int .i64 (xs.getD j fv0).1.2.1)∧(fnsV xs)[j*3+2]?=some (fvT (xs.getD j fv0)):=by
 induction xs generalizing j with
 | nil=>simp at hj
 | cons n r ih =>
  cases j with
  | zero=>simp [fnsV]
  | succ j =>
   obtain ⟨h0,h1,h2⟩:=ih j (by simpa using hj);refine ⟨?_,?_,?_⟩
   ·rw [show (j+1)*3=j*3+1+1+1 by omega];simpa [fnsV] using h0
   ·rw [show (j+1)*3+1=j*3+1+1+1+1 by omega];simpa [fnsV] using h1
   ·rw [show (j+1)*3+2=j*3+2+1+1+1 by omega];simpa [fnsV] using h2
theorem zam {w:World} {b1 b2 e1 e2 s1 s2 n1 n2:Nat} {v1 v2:Value} {xs ys:List Value} (h1:w.ownsRow b1 e1 s1 v1 n1 xs) (h2:w.ownsRow b2 e2 s2 v2 n2 ys) (he:e1≠e2):v1.ownBlock=none∨v1.ownBlock≠v2.ownBlock:=by
 rcases h1.2 with ⟨rfl,_⟩ | ⟨g,c,cur,rfl,_,hg,_⟩
 ·exact Or.inl rfl
 ·
  rcases h2.2 with ⟨rfl,_⟩ | ⟨g2,c2,cur2,rfl,_,hg2,_⟩
  ·exact Or.inr (by simp [Value.ownBlock])
  ·refine Or.inr (fun e=>?_);simp only [Value.ownBlock,Option.some.injEq] at e;subst e;rw [hg] at hg2;simp only [Option.some.injEq,Obj.cells.injEq] at hg2;exact he hg2.2.1
structure zaU (w:World) (base:Nat) (v:Value) (xs:List FV):Prop where
 row:w.ownsRow base 107 3 v xs.length (fnsV xs)
 trees:∀ x∈xs,w.ownsRow base 104 4 (fvT x) x.1.2.2.length (zah x.1.2.2)
theorem zaU.below {w w':World} {base:Nat} {v:Value} {xs:List FV} (h:zaU w base v xs) (hb:Below w.heap.size w w'):zaU w' base v xs:=⟨za5 h.row hb,fun x hx=>za5 (h.trees x hx) hb⟩
theorem zaU.kept {w w':World} {base:Nat} {v:Value} {xs:List FV} {row:Option Nat} (h:zaU w base v xs) (hg:w.grownBy w' row) (h1:v.ownBlock=none∨v.ownBlock≠row) (h2:∀ x∈xs,(fvT x).ownBlock=none∨(fvT x).ownBlock≠row):zaU w' base v xs :=
 ⟨h.row.kept hg h1,fun x hx=>(h.trees x hx).kept hg (h2 x hx)⟩
theorem zaU.base {w:World} {base b2:Nat} {v:Value} {xs:List FV} (h:zaU w base v xs) (hb:b2≤base):zaU w b2 v xs:=⟨zaD h.row hb,fun x hx=>zaD (h.trees x hx) hb⟩
theorem zaU.nil (w:World) (base:Nat):zaU w base (.slice none 0 0) []:=⟨World.ownsRow_nil w _ _ _,fun x hx=>by cases hx⟩
theorem zeu (xs:List FV) (j:Nat):(xs.map (·.1)).getD j fn0=(xs.getD j fv0).1:=by
 rw [List.getD_eq_getElem?_getD,List.getD_eq_getElem?_getD,List.getElem?_map];cases xs[j]?<;>rfl
theorem zaU.in {w:World} {base:Nat} {v:Value} {xs:List FV} (h:zaU w base v xs):∃ a cap,v=.slice a xs.length cap∧(a=none→cap=0)∧zaB w a xs.length (xs.map (·.1)):=by
 rcases zaR h.row with ⟨rfl,h0,_⟩ | ⟨g,cp,rfl⟩
 ·exact ⟨none,0,by rw [h0],fun _=>rfl,by simp,fun j hj=>by omega⟩
 ·
  refine ⟨some ⟨g,0,none⟩,cp,rfl,fun e=>(by cases e),by simp,fun j hj=>?_⟩;obtain ⟨v0,v1,v2⟩:=ziF xs j hj;have hc:=fun k (hk:k<xs.length*3)=>World.ownsRow.cellAt h.row k hk
  have hmem:xs.getD j fv0∈xs:=by rw [List.getD_eq_getElem?_getD,List.getElem?_eq_getElem hj];exact List.getElem_mem hj
  obtain ⟨hl,a,cap,e,hn⟩:=zcj (h.trees _ hmem);refine ⟨g,0,rfl,(h.row.lt g rfl).2,?_,?_,(xs.getD j fv0).2.1,(xs.getD j fv0).1.2.2.length,(xs.getD j fv0).2.2,?_,?_,?_⟩
  ·rw [Nat.zero_add,hc _ (by omega),v0,zeu]
  ·rw [Nat.zero_add,hc _ (by omega),v1,zeu]
  ·rw [Nat.zero_add,hc _ (by omega),v2];rfl
  ·
   intro e2;rcases zaR (h.trees _ hmem) with ⟨e3,_⟩ | ⟨g3,cp3,e3⟩
   ·unfold fvT at e3;injection e3
   ·unfold fvT at e3;rw [e2] at e3;injection e3 with e4;cases e4
  ·rw [zeu];unfold fvT at e;injection e with e1 e2 e3;rw [e1];exact hn
theorem infoFunc:(Tryz.prog.info? 107).map (fun i=>(i.zero,i.size,i.bytes))=some (some (.agg #[.string ⟨#[]⟩,.int .i64 0,.slice none 0 0]),3,48):=by kernel_rfl
theorem new_fn (w:World) (x:FV) (c:Nat):Src (w.alloc (.cells #[.string ⟨x.1.1.toArray⟩,.int .i64 x.1.2.1,fvT x] 107)) (.slice (some ⟨w.heap.size,0,none⟩) 1 c) 1 3 (fnsV [x]):=by
 refine ⟨rfl,fnsV_one _,Or.inr ⟨_,c,rfl,fun j u hu=>?_⟩⟩;rw [zfe,Nat.zero_add]
 match j,hu with
 | 0,hu=>simp [fnsV] at hu;subst hu;simp
 | 1,hu=>simp [fnsV] at hu;subst hu;simp
 | 2,hu=>simp [fnsV] at hu;subst hu;simp
 | j+3,hu=>simp [fnsV] at hu
section
variable {X Y w:World} {D P B gL:Nat} {ls:List (List UInt8)} {nm:List UInt8} {ims:List (List UInt8)} {xs:List FV} {ia:Option Addr} {ic:Nat} {fa:Option Addr} {fc:Nat}
end
structure zaZ (w w':World) (S:Nat→Prop):Prop where
 os:w'.os=w.os
 tape:w'.tape=w.tape
 output:w'.output=w.output
 size:w.heap.size≤w'.heap.size
 block:∀ k,k<w.heap.size→¬S k→w'.heap[k]?=w.heap[k]?
theorem zaZ.refl (w:World) (S:Nat→Prop):zaZ w w S:=⟨rfl,rfl,rfl,Nat.le_refl _,fun _ _ _=>rfl⟩
theorem zaZ.trans {a b c:World} {S:Nat→Prop} (h:zaZ a b S) (k:zaZ b c S):zaZ a c S :=
 ⟨k.os.trans h.os,k.tape.trans h.tape,k.output.trans h.output,Nat.le_trans h.size k.size,fun i hi hs=>(k.block i (Nat.lt_of_lt_of_le hi h.size) hs).trans (h.block i hi hs)⟩
theorem zaZ.mono {w w':World} {S T:Nat→Prop} (h:zaZ w w' S) (hs:∀ k,S k→T k):zaZ w w' T:=⟨h.os,h.tape,h.output,h.size,fun k hk hn=>h.block k hk (fun e=>hn (hs k e))⟩
theorem zaZ.of_grown {w w':World} {row:Option Nat} {S:Nat→Prop} (h:w.grownBy w' row) (hs:∀ k,row=some k→S k):zaZ w w' S :=
 ⟨h.os,h.tape,h.output,h.size,fun k hk hn=>h.block k hk (fun e=>hn (hs k e.symm))⟩
theorem zaZ.of_below {w w':World} {S:Nat→Prop} (h:Below w.heap.size w w'):zaZ w w' S:=⟨h.os,h.tape,h.output,h.size,fun k hk _=>h.block k hk⟩
theorem zaZ.below {w w':World} {S:Nat→Prop} {B:Nat} (h:zaZ w w' S) (hB:B≤w.heap.size) (hs:∀ k,S k→B≤k):Below B w w' :=
 ⟨h.os,h.tape,h.output,h.size,fun k hk=>h.block k (Nat.lt_of_lt_of_le hk hB) (fun e=>by have:=hs k e;omega)⟩
theorem zbR {w w':World} {base e size n:Nat} {v:Value} {xs:List Value} {S:Nat→Prop} (h:w.ownsRow base e size v n xs) (hw:zaZ w w' S) (hv:∀ k,v.ownBlock=some k→¬S k):w'.ownsRow base e size v n xs:=by
 refine ⟨h.1,?_⟩;rcases h.2 with hn | ⟨g,cap,cur,rfl,hb,hgg,rest⟩
 ·exact .inl hn
 ·refine .inr ⟨g,cap,cur,rfl,hb,?_,rest⟩;rw [hw.block g (Array.getElem?_eq_some_iff.1 hgg).1 (hv g rfl)];exact hgg



section
open Go.ChangeShapes Go.WideShapes Go.ChangeAt Go.RowKit

end

def IntF (fs:List Fn):Prop:=∀ j,(-9223372036854775808≤(fs.getD j fn0).2.1∧(fs.getD j fn0).2.1≤9223372036854775807)∧IntT (fs.getD j fn0).2.2
structure PkOk (w:World) (nm:List UInt8) (ia:Option Addr) (il ic:Nat) (fa:Option Addr) (fl fc:Nat) (ims:List (List UInt8)) (fs:List Fn):Prop where
 i:za7 w ia il ims
 f:zaB w fa fl fs
 ic:ia=none→ic=0
 fc:(fa=none→fc=0)∧fl≤fc
 int:IntF fs
 il:il≤1048576
 fl:fl≤1048576
 nm:nm.length≤1048576
 is:∀ i,(ims.getD i []).length≤1048576
 fs:zg5 fs
theorem PkOk.below {w w':World} {nm:List UInt8} {ia:Option Addr} {il ic:Nat} {fa:Option Addr} {fl fc:Nat} {ims:List (List UInt8)} {fs:List Fn} (h:PkOk w nm ia il ic fa fl fc ims fs) (hb:Below w.heap.size w w'):PkOk w' nm ia il ic fa fl fc ims fs :=
 ⟨h.i.below hb,h.f.below hb,h.ic,h.fc,h.int,h.il,h.fl,h.nm,h.is,h.fs⟩
theorem zfp {w:World} {base n:Nat} {v:Value} {ts:List (List UInt8)} (h:w.ownsRow base 9 1 v n (strV ts)):∃ a c,v=.slice a n c∧(a=none→c=0)∧za7 w a n ts:=by
 obtain ⟨_,a,c,rfl,hin⟩:=zaP h;refine ⟨a,c,rfl,fun e=>?_,hin⟩;rcases zaR h with ⟨e2,_,_⟩ | ⟨g,cp,e2⟩
 ·injection e2
 ·injection e2 with e3;rw [e] at e3;cases e3
structure Box3 (V:World) (k:Nat) (a b c:Value):Prop where
 c0:V.cell? ⟨k,0,none⟩=some a
 c1:V.cell? ⟨k,1,none⟩=some b
 c2:V.cell? ⟨k,2,none⟩=some c
theorem Box3.lt {V:World} {k:Nat} {a b c:Value} (h:Box3 V k a b c):k<V.heap.size:=World.block_lt_of_cell? V ⟨k,0,none⟩ h.c0
theorem Box3.keep {V V':World} {k:Nat} {a b c:Value} (h:Box3 V k a b c) (hb:V'.heap[k]?=V.heap[k]?):Box3 V' k a b c :=
 ⟨(World.cell?_of_block (a:=⟨k,0,none⟩) hb).trans h.c0,(World.cell?_of_block (a:=⟨k,1,none⟩) hb).trans h.c1,(World.cell?_of_block (a:=⟨k,2,none⟩) hb).trans h.c2⟩
theorem Box3.below {V V':World} {k:Nat} {a b c:Value} (h:Box3 V k a b c) (hb:Below V.heap.size V V'):Box3 V' k a b c:=h.keep (hb.block k h.lt)
theorem Box3.wrote {V V':World} {k:Nat} {a b c:Value} {S:Nat→Prop} (h:Box3 V k a b c) (hw:zaZ V V' S) (hk:¬S k):Box3 V' k a b c:=h.keep (hw.block k h.lt hk)
theorem Box3.grown {V V':World} {k:Nat} {a b c:Value} {row:Option Nat} (h:Box3 V k a b c) (hg:V.grownBy V' row) (hk:some k≠row):Box3 V' k a b c:=h.keep (hg.block k h.lt hk)
theorem Box3.drew {V:World} {k:Nat} {a b c:Value} (h:Box3 V k a b c):Box3 V.drew k a b c:=⟨h.c0,h.c1,h.c2⟩
theorem Box3.new (V:World) (a b c:Value) (t:TypeId):Box3 (V.alloc (.cells #[a,b,c] t)) V.heap.size a b c∧Below V.heap.size V (V.alloc (.cells #[a,b,c] t)):=by
 have hb:Below V.heap.size V (V.alloc (.cells #[a,b,c] t)):=(Below.refl _ _).alloc (Nat.le_refl _) _;have hA:=heap_alloc_new V (.cells #[a,b,c] t);generalize V.alloc (.cells #[a,b,c] t)=W at hb hA ⊢;exact ⟨⟨by simp [World.cell?,hA],by simp [World.cell?,hA],by simp [World.cell?,hA]⟩,hb⟩
theorem own_pk {w:World} {base:Nat} {vi vf:Value} {ims:List (List UInt8)} {xs:List FV} {fs:List Fn} (hoi:w.ownsRow base 9 1 vi ims.length (strV ims)) (hof:zaU w base vf xs) (hxs:xs.map (·.1)=fs) :
 ∃ ai ci af cf,vi=.slice ai ims.length ci∧vf=.slice af fs.length cf∧(ai=none→ci=0)∧((af=none→cf=0)∧fs.length≤cf)∧za7 w ai ims.length ims∧zaB w af fs.length fs:=by
 obtain ⟨ai,ci,rfl,hic,hit⟩:=zfp hoi;obtain ⟨af,cf,rfl,hfc,hif⟩:=hof.in;have hl:xs.length=fs.length:=by rw [←hxs,List.length_map]
 have hcp:fs.length≤cf:=by
  rcases hof.row.2 with ⟨e,h0⟩ | ⟨g,cap,cur,e,_,_,hc,_⟩
  ·rw [←hl,h0];exact Nat.zero_le _
  ·injection e with _ _ e3;rw [e3,←hl];exact hc
 rw [hxs,hl] at hif;exact ⟨ai,ci,af,cf,rfl,by rw [hl],hic,⟨hfc,hcp⟩,hit,hif⟩
theorem zeT (V:World) (a b c d:Value) (t:TypeId):((V.alloc (.cells #[a,b,c,d] t)).cell? ⟨V.heap.size,0,none⟩=some a∧(V.alloc (.cells #[a,b,c,d] t)).cell? ⟨V.heap.size,1,none⟩=some b∧(V.alloc (.cells #[a,b,c,d] t)).cell? ⟨V.heap.size,2,none⟩=some c∧(V.alloc (.cells #[a,b,c,d] t)).cell? ⟨V.heap.size,3,none⟩=some d)∧Below V.heap.size V (V.alloc (.cells #[a,b,c,d] t)):=by
 have hb:Below V.heap.size V (V.alloc (.cells #[a,b,c,d] t)):=(Below.refl _ _).alloc (Nat.le_refl _) _;have hA:=heap_alloc_new V (.cells #[a,b,c,d] t);generalize V.alloc (.cells #[a,b,c,d] t)=W at hb hA ⊢;exact ⟨⟨by simp [World.cell?,hA],by simp [World.cell?,hA],by simp [World.cell?,hA],by simp [World.cell?,hA]⟩,hb⟩
theorem znS (a:Option Addr) (len cap:Nat) (ps:List Pk) (nm:List UInt8) (ia:Option Addr) (il ic:Nat) (fa:Option Addr) (fl fc:Nat) (ims:List (List UInt8)) (fs:List Fn) (at_:Int) (n:Nd) (w:World)
 (hl:zav w a len ps) (hi:za7 w ia il ims) (hf:zaB w fa fl fs) (hlen:len≤1048576) (hil:il≤1048576) (hfl:fl≤1048576) (hsh:zby ps) :
 Calls Tryz.prog 150 #[.slice a len cap,.agg #[.string ⟨nm.toArray⟩,.slice ia il ic,.slice fa fl fc],.int .i64 at_,za9 n] w fun e w'=>e=.returned (.int .i64 (zb7 ps (nm,ims,fs) at_ n))∧Below w.heap.size w w':=by
 obtain ⟨k,A,x,fn⟩:=n;unfold za9;simp only;obtain ⟨bx,hbx⟩:=Box3.new w (.string ⟨nm.toArray⟩) (.slice ia il ic) (.slice fa fl fc) 99;obtain ⟨W1,hW1⟩:∃ W1,w.alloc (.cells #[.string ⟨nm.toArray⟩,.slice ia il ic,.slice fa fl fc] 99)=W1:=⟨_,rfl⟩
 have hs1:W1.heap.size=w.heap.size+1:=by rw [←hW1];simp
 rw [hW1] at bx hbx;obtain ⟨⟨n0,n1,n2,n3⟩,hb2⟩:=zeT W1 (.int .i64 k) (.int .i64 A) (.string ⟨x.toArray⟩) (.string ⟨fn.toArray⟩) 104;obtain ⟨W2,hW2⟩:∃ W2,W1.alloc (.cells #[.int .i64 k,.int .i64 A,.string ⟨x.toArray⟩,.string ⟨fn.toArray⟩] 104)=W2:=⟨_,rfl⟩
 have hs2:W2.heap.size=w.heap.size+1+1:=by rw [←hW2];simp [hs1]
 rw [hW2,hs1] at n0 n1 n2 n3;rw [hW2] at hb2;have bx2:=bx.below hb2;have hbw:Below w.heap.size w W2:=hbx.trans (hb2.mono (by omega));have p0:=bx2.c0;have p1:=bx2.c1;have p2:=bx2.c2;have HI2:Hid (za7 W2 ia il ims):=hi.below hbw;have HF2:Hid (zaB W2 fa fl fs):=hf.below hbw;have HP2:Hid (zav W2 a len ps):=hl.below hbw;have HB2:Hid (Below w.heap.size w W2):=hbw;have HBp2:Hid (Box3 W2 w.heap.size (.string ⟨nm.toArray⟩) (.slice ia il ic) (.slice fa fl fc)):=bx2;clear bx hbx bx2 hb2 hbw hi hf;by_cases hxn:x=nm
 ·
  subst hxn;have hself:(x==x)=true:=by simp
  have hselfn:(x !=x)=false:=by simp
  have HV:Hid (zb7 ps (x,ims,fs) at_ (k,A,x,fn)=if atV fs fn<0∨(x=x∧at_≤atV fs fn) then 2 else if (fs.getD (atV fs fn).toNat fn0).2.1≠A then 3 else 0):=by exact (by
   unfold zb7;have h1:farB ps (x,ims,fs) x=false:=by unfold farB;exact decide_eq_false (fun h=>h.1 rfl)
   have h2:ofPk ps (x,ims,fs) x=(x,ims,fs):=by unfold ofPk;rw [if_pos rfl]
   simp only;rw [h1,h2,if_neg (by simp)]:zb7 ps (x,ims,fs) at_ (k,A,x,fn)=if atV fs fn<0∨(x=x∧at_≤atV fs fn) then 2 else if (fs.getD (atV fs fn).toNat fn0).2.1≠A then 3 else 0)
  obtain ⟨bq,hbq⟩:=Box3.new W2 (.string ⟨x.toArray⟩) (.slice ia il ic) (.slice fa fl fc) 99;obtain ⟨W3,hW3⟩:∃ W3,W2.alloc (.cells #[.string ⟨x.toArray⟩,.slice ia il ic,.slice fa fl fc] 99)=W3:=⟨_,rfl⟩
  rw [hW3] at bq hbq;rw [hs2] at bq;have HBq:Hid (Box3 W3 (w.heap.size+1+1) (.string ⟨x.toArray⟩) (.slice ia il ic) (.slice fa fl fc)):=bq;have HBp:Hid (Box3 W3 w.heap.size (.string ⟨x.toArray⟩) (.slice ia il ic) (.slice fa fl fc)):=HBp2.out.below hbq;have HGn:Hid (w.heap.size+1<W3.heap.size):=by have:=hbq.size;exact (by omega:w.heap.size+1<W3.heap.size)
  have HN2:Hid (W3.cell? ⟨w.heap.size+1,2,none⟩=some (.string ⟨x.toArray⟩)):=(hbq.cell (p:=⟨w.heap.size+1,2,none⟩) (by rw [hs2];simp)).trans n2;have HN1:Hid (W3.cell? ⟨w.heap.size+1,1,none⟩=some (.int .i64 A)):=(hbq.cell (p:=⟨w.heap.size+1,1,none⟩) (by rw [hs2];simp)).trans n1;have e3:=(hbq.cell (p:=⟨w.heap.size+1,3,none⟩) (by rw [hs2];simp)).trans n3;have e2:=HN2.out;have q0:=bq.c0;have q1:=bq.c1;have q2:=bq.c2;have pp0:=HBp.out.c0;have HBW:Hid (Below w.heap.size w W3):=HB2.out.trans (hbq.mono HB2.out.size);have hqf:=HF2.out.below hbq;have HAt:Hid (_):=zja x fn ia il ic fa fl fc fs W3 hqf hfl;clear bq hbq
  go_enter Tryz.func150,Tryz.ntmps150
  obtain ⟨qfa,hqfa⟩:∃ qfa,qfa=fa:=⟨_,rfl⟩
  obtain ⟨qfl,hqfl⟩:∃ qfl,qfl=fl:=⟨_,rfl⟩
  obtain ⟨qfs,hqfs⟩:∃ qfs,qfs=fs:=⟨_,rfl⟩
  subst hqfa;subst hqfl;subst hqfs;have HQ:Hid (zaB W3 qfa qfl qfs):=hqf;rcases zhY qfs fn with eK | ⟨j,hj,eK,hjn⟩
  ·
   have HR:Hid (zb7 ps (x,ims,qfs) at_ (k,A,x,fn)=2):=by exact (by rw [HV.out,eK,if_pos (Or.inl (by omega))]:zb7 ps (x,ims,qfs) at_ (k,A,x,fn)=2)
   rw [eK] at HAt;go_wp2_with fail
   refine Calls.mono HAt.out ?_;rintro e w5 ⟨rfl,hb5⟩;have HB5:Hid (Below w.heap.size w w5):=HBW.out.trans (hb5.mono HBW.out.size);have g0:=(HBq.out.below hb5).c0;have g1:=(HBq.out.below hb5).c1;have g2:=(HBq.out.below hb5).c2;have m0:=(HBp.out.below hb5).c0;have m2:=(hb5.cell (p:=⟨w.heap.size+1,2,none⟩) HGn.out).trans HN2.out;have m1:=(hb5.cell (p:=⟨w.heap.size+1,1,none⟩) HGn.out).trans HN1.out;clear hb5 hqf eK;go_wp2;go_ret;exact ⟨by rw [HR.out];rfl,HB5.out⟩
  ·
   rw [eK] at HAt;have hj0:¬(j:Int)<0:=by omega
   have hjl:j<qfl:=by rw [←HQ.out.1];exact hj
   have hjz:(j:Int)<(qfl:Int):=by omega
   by_cases hat:at_≤(j:Int)
   ·
    have HR:Hid (zb7 ps (x,ims,qfs) at_ (k,A,x,fn)=2):=by exact (by rw [HV.out,eK,if_pos (Or.inr ⟨rfl,hat⟩)]:zb7 ps (x,ims,qfs) at_ (k,A,x,fn)=2)
    go_wp2_with fail
    refine Calls.mono HAt.out ?_;rintro e w5 ⟨rfl,hb5⟩;have HB5:Hid (Below w.heap.size w w5):=HBW.out.trans (hb5.mono HBW.out.size);have g0:=(HBq.out.below hb5).c0;have g1:=(HBq.out.below hb5).c1;have g2:=(HBq.out.below hb5).c2;have m0:=(HBp.out.below hb5).c0;have m2:=(hb5.cell (p:=⟨w.heap.size+1,2,none⟩) HGn.out).trans HN2.out;have m1:=(hb5.cell (p:=⟨w.heap.size+1,1,none⟩) HGn.out).trans HN1.out;clear hb5 hqf eK;go_wp2;go_ret;exact ⟨by rw [HR.out];rfl,HB5.out⟩
   ·
    have HC7:Hid (¬((j:Int)<0∨(x=x∧at_≤(j:Int)))):=fun h=>h.elim hj0 (fun h=>hat h.2)
    go_wp2_with fail
    refine Calls.mono HAt.out ?_;rintro e w5 ⟨rfl,hb5⟩;have HB5:Hid (Below w.heap.size w w5):=HBW.out.trans (hb5.mono HBW.out.size);have g0:=(HBq.out.below hb5).c0;have g1:=(HBq.out.below hb5).c1;have g2:=(HBq.out.below hb5).c2;have m0:=(HBp.out.below hb5).c0;have m2:=(hb5.cell (p:=⟨w.heap.size+1,2,none⟩) HGn.out).trans HN2.out;have m1:=(hb5.cell (p:=⟨w.heap.size+1,1,none⟩) HGn.out).trans HN1.out;have hq5:=HQ.out.below hb5;obtain ⟨bq,oq,rfl,_,_,r1,_⟩:=hq5.2 j hjl;obtain ⟨B,hB⟩:∃ B,(qfs.getD j fn0).2.1=B:=⟨_,rfl⟩
    rw [hB] at r1;clear hb5 hqf hq5;by_cases hBA:B=A
    ·
     have HR:Hid (zb7 ps (x,ims,qfs) at_ (k,A,x,fn)=0):=by exact (by rw [HV.out,eK,if_neg HC7.out,Int.toNat_natCast,hB,if_neg (by simpa using hBA)]:zb7 ps (x,ims,qfs) at_ (k,A,x,fn)=0)
     have hne:(B !=A)=false:=by simp [hBA]
     subst hBA;have hne2:(B==B)=true:=by simp
     clear eK hB;go_wp2_with fail
     go_quiet (fail)
     go_wp2;go_ret;exact ⟨by rw [HR.out];rfl,HB5.out.trans ⟨rfl,rfl,rfl,Nat.le_refl _,fun _ _=>rfl⟩⟩
    ·
     have HR:Hid (zb7 ps (x,ims,qfs) at_ (k,A,x,fn)=3):=by exact (by rw [HV.out,eK,if_neg HC7.out,Int.toNat_natCast,hB,if_pos hBA]:zb7 ps (x,ims,qfs) at_ (k,A,x,fn)=3)
     have hne:(B !=A)=true:=by rw [bne_iff_ne];exact hBA
     have hne2:(B==A)=false:=beq_eq_false_iff_ne.2 hBA;have hne3:¬B=A:=hBA;clear eK hB;go_wp2_with fail
     go_quiet (fail)
     go_wp2;go_ret;exact ⟨by rw [HR.out];rfl,HB5.out.trans ⟨rfl,rfl,rfl,Nat.le_refl _,fun _ _=>rfl⟩⟩
 ·
  have hne:(x !=nm)=true:=by rw [bne_iff_ne];exact hxn
  have hne2:(x==nm)=false:=beq_eq_false_iff_ne.2 hxn;by_cases hin:x∈ims
  ·
   have HH:Hid (_):=zdH ia il ic ims x W2 HI2.out (by omega);rw [decide_eq_true hin] at HH;have HA8:Hid (∀ W,zav W a len ps→Calls Tryz.prog 82 #[.slice a len cap,.string ⟨x.toArray⟩] W fun e w'=>e=.returned (.int .i64 (at8 ps x))∧w'=W):=fun W hW=>zfk a len cap ps x W hW hlen
   rcases zdm ps x with ⟨e8,_⟩ | ⟨j0,hj0,e8,hjn,_⟩
   ·
    have HR:Hid (zb7 ps (nm,ims,fs) at_ (k,A,x,fn)=1):=by exact (by
     unfold zb7;rw [if_pos (by unfold farB;exact decide_eq_true ⟨hxn,Or.inr (by show at8 ps x<0;omega)⟩)]:zb7 ps (nm,ims,fs) at_ (k,A,x,fn)=1)
    rw [e8] at HA8;clear e8 hin
    go_enter Tryz.func150,Tryz.ntmps150
    go_wp2_with fail
    refine Calls.mono HH.out ?_;rintro e w5 ⟨rfl,hw5⟩;obtain rfl:=hw5.symm;go_wp2_with fail
    refine Calls.mono (HA8.out W2 HP2.out) ?_;rintro e w5 ⟨rfl,hw5⟩;obtain rfl:=hw5.symm;go_wp2;go_ret;exact ⟨by rw [HR.out];rfl,HB2.out⟩
   ·
    rw [e8] at HA8;have hjz0:¬(j0:Int)<0:=by omega
    have hl0:ps.length=len:=hl.1;have hjlen:(j0:Int)<(len:Int):=by omega
    obtain ⟨b,off,rfl,hbl,c0,qia,qil,qic,qfa,qfl,qfc,c1,c2,_,hqf2⟩:=HP2.out.2 j0 (by omega);have hqsh:=(hsh j0).2.2.2.1;have hqfl:qfl≤1048576:=by rw [←hqf2.1];exact hqsh
    obtain ⟨q,hq⟩:∃ q,ps.getD j0 pk0=q:=⟨_,rfl⟩
    have HV:Hid (zb7 ps (nm,ims,fs) at_ (k,A,x,fn)=if atV q.2.2 fn<0∨(x=nm∧at_≤atV q.2.2 fn) then 2 else if (q.2.2.getD (atV q.2.2 fn).toNat fn0).2.1≠A then 3 else 0):=by exact (by
     unfold zb7;have h1:farB ps (nm,ims,fs) x=false:=by unfold farB;exact decide_eq_false (fun h=>h.2.elim (fun e=>e hin) (fun e=>by omega))
     have h2:ofPk ps (nm,ims,fs) x=q:=by unfold ofPk;rw [if_neg hxn,e8,Int.toNat_natCast,hq]
     simp only;rw [h1,h2,if_neg (by simp)]:zb7 ps (nm,ims,fs) at_ (k,A,x,fn)=if atV q.2.2 fn<0∨(x=nm∧at_≤atV q.2.2 fn) then 2 else if (q.2.2.getD (atV q.2.2 fn).toNat fn0).2.1≠A then 3 else 0)
    rw [hq] at c0 hqf2;obtain ⟨qn,qims,qfs⟩:=q;simp only at c0 hqf2
    -- q, first as p is, then as the one that is called
    obtain ⟨bq,hbq⟩:=Box3.new W2 (.string ⟨nm.toArray⟩) (.slice ia il ic) (.slice fa fl fc) 99;obtain ⟨W3,hW3⟩:∃ W3,W2.alloc (.cells #[.string ⟨nm.toArray⟩,.slice ia il ic,.slice fa fl fc] 99)=W3:=⟨_,rfl⟩
    rw [hW3] at bq hbq;rw [hs2] at bq;have hfz:∀ i,W3.frozen? ⟨w.heap.size+1+1,i,none⟩=false:=fun i=>by rw [←hW3,←hs2];exact World.frozen?_alloc_at _ _ _ _ rfl
    obtain ⟨W4,hW4,q0,q1,q2,hg4⟩:=set3 (.string ⟨qn.toArray⟩) (.slice qia qil qic) (.slice qfa qfl qfc) bq.c0 bq.c1 bq.c2;have hb24:Below W2.heap.size W2 W4:=hbq.grown hg4 hbq.size (fun q e=>by injection e with e;have e5:w.heap.size+1+1=q:=e;omega);have HBq:Hid (Box3 W4 (w.heap.size+1+1) (.string ⟨qn.toArray⟩) (.slice qia qil qic) (.slice qfa qfl qfc)):=⟨q0,q1,q2⟩;have HBp:Hid (Box3 W4 w.heap.size (.string ⟨nm.toArray⟩) (.slice ia il ic) (.slice fa fl fc)):=HBp2.out.below hb24;have HGn:Hid (w.heap.size+1<W4.heap.size):=by have:=hb24.size;exact (by omega:w.heap.size+1<W4.heap.size)
    have HN2:Hid (W4.cell? ⟨w.heap.size+1,2,none⟩=some (.string ⟨x.toArray⟩)):=(hb24.cell (p:=⟨w.heap.size+1,2,none⟩) (by rw [hs2];simp)).trans n2;have HN1:Hid (W4.cell? ⟨w.heap.size+1,1,none⟩=some (.int .i64 A)):=(hb24.cell (p:=⟨w.heap.size+1,1,none⟩) (by rw [hs2];simp)).trans n1;have e3:=(hb24.cell (p:=⟨w.heap.size+1,3,none⟩) (by rw [hs2];simp)).trans n3;have b30:=bq.c0;have b31:=bq.c1;have b32:=bq.c2;have n32:=(hbq.cell (p:=⟨w.heap.size+1,2,none⟩) (by rw [hs2];simp)).trans n2;have pp0:=(HBp2.out.below hbq).c0;have d0:=(hbq.cell (p:=⟨b,off+j0*3,none⟩) hbl).trans c0;have d1:=(hbq.cell (p:=⟨b,off+j0*3+1,none⟩) hbl).trans c1;have d2:=(hbq.cell (p:=⟨b,off+j0*3+2,none⟩) hbl).trans c2;have hz0:=hfz 0;have hz1:=hfz 1;have hz2:=hfz 2;have HBW:Hid (Below w.heap.size w W4):=HB2.out.trans (hb24.mono HB2.out.size);have HP3:Hid (zav W3 (some ⟨b,off,none⟩) len ps):=HP2.out.below hbq;have hqf:=hqf2.below hb24;have HAt:Hid (_):=zja qn fn qia qil qic qfa qfl qfc qfs W4 hqf hqfl;simp only at HV;clear bq hbq hb24 hfz hq hqf2 e8 hin hg4 hsh hqsh hl
    go_enter Tryz.func150,Tryz.ntmps150
    go_wp2_with fail
    refine Calls.mono HH.out ?_;rintro e w5 ⟨rfl,hw5⟩;obtain rfl:=hw5.symm;go_wp2_with fail
    refine Calls.mono (HA8.out W2 HP2.out) ?_;rintro e w5 ⟨rfl,hw5⟩;obtain rfl:=hw5.symm;go_wp2_with fail
    refine Calls.mono (HA8.out W3 HP3.out) ?_;rintro e w5 ⟨rfl,hw5⟩;obtain rfl:=hw5.symm;have HQ:Hid (zaB W4 qfa qfl qfs):=hqf;rcases zhY qfs fn with eK | ⟨j,hj,eK,hjn⟩
    ·
     have HR:Hid (zb7 ps (nm,ims,fs) at_ (k,A,x,fn)=2):=by exact (by rw [HV.out,eK,if_pos (Or.inl (by omega))]:zb7 ps (nm,ims,fs) at_ (k,A,x,fn)=2)
     rw [eK] at HAt;go_wp2_with fail
     refine Calls.mono HAt.out ?_;rintro e w5 ⟨rfl,hb5⟩;have HB5:Hid (Below w.heap.size w w5):=HBW.out.trans (hb5.mono HBW.out.size);have g0:=(HBq.out.below hb5).c0;have g1:=(HBq.out.below hb5).c1;have g2:=(HBq.out.below hb5).c2;have m0:=(HBp.out.below hb5).c0;have m2:=(hb5.cell (p:=⟨w.heap.size+1,2,none⟩) HGn.out).trans HN2.out;have m1:=(hb5.cell (p:=⟨w.heap.size+1,1,none⟩) HGn.out).trans HN1.out;clear hb5 hqf eK;go_wp2;go_ret;exact ⟨by rw [HR.out];rfl,HB5.out⟩
    ·
     rw [eK] at HAt;have hj0:¬(j:Int)<0:=by omega
     have hjl:j<qfl:=by rw [←HQ.out.1];exact hj
     have hjz:(j:Int)<(qfl:Int):=by omega
     have HC7:Hid (¬((j:Int)<0∨(x=nm∧at_≤(j:Int)))):=fun h=>h.elim hj0 (fun h=>hxn h.1)
     go_wp2_with fail
     refine Calls.mono HAt.out ?_;rintro e w5 ⟨rfl,hb5⟩;have HB5:Hid (Below w.heap.size w w5):=HBW.out.trans (hb5.mono HBW.out.size);have g0:=(HBq.out.below hb5).c0;have g1:=(HBq.out.below hb5).c1;have g2:=(HBq.out.below hb5).c2;have m0:=(HBp.out.below hb5).c0;have m2:=(hb5.cell (p:=⟨w.heap.size+1,2,none⟩) HGn.out).trans HN2.out;have m1:=(hb5.cell (p:=⟨w.heap.size+1,1,none⟩) HGn.out).trans HN1.out;have hq5:=HQ.out.below hb5;obtain ⟨bq,oq,rfl,_,_,r1,_⟩:=hq5.2 j hjl;obtain ⟨B,hB⟩:∃ B,(qfs.getD j fn0).2.1=B:=⟨_,rfl⟩
     rw [hB] at r1;clear hb5 hqf hq5;by_cases hBA:B=A
     ·
      have HR:Hid (zb7 ps (nm,ims,fs) at_ (k,A,x,fn)=0):=by exact (by rw [HV.out,eK,if_neg HC7.out,Int.toNat_natCast,hB,if_neg (by simpa using hBA)]:zb7 ps (nm,ims,fs) at_ (k,A,x,fn)=0)
      have hne:(B !=A)=false:=by simp [hBA]
      subst hBA;have hne2:(B==B)=true:=by simp
      clear eK hB;go_wp2_with fail
      go_quiet (fail)
      go_wp2;go_ret;exact ⟨by rw [HR.out];rfl,HB5.out.trans ⟨rfl,rfl,rfl,Nat.le_refl _,fun _ _=>rfl⟩⟩
     ·
      have HR:Hid (zb7 ps (nm,ims,fs) at_ (k,A,x,fn)=3):=by exact (by rw [HV.out,eK,if_neg HC7.out,Int.toNat_natCast,hB,if_pos hBA]:zb7 ps (nm,ims,fs) at_ (k,A,x,fn)=3)
      have hne:(B !=A)=true:=by rw [bne_iff_ne];exact hBA
      have hne2:(B==A)=false:=beq_eq_false_iff_ne.2 hBA;have hne3:¬B=A:=hBA;clear eK hB;go_wp2_with fail
      go_quiet (fail)
      go_wp2;go_ret;exact ⟨by rw [HR.out];rfl,HB5.out.trans ⟨rfl,rfl,rfl,Nat.le_refl _,fun _ _=>rfl⟩⟩
  ·
   have HH:Hid (_):=zdH ia il ic ims x W2 HI2.out (by omega);rw [decide_eq_false hin] at HH
   have HR:Hid (zb7 ps (nm,ims,fs) at_ (k,A,x,fn)=1):=by exact (by
    unfold zb7;rw [if_pos (by unfold farB;exact decide_eq_true ⟨hxn,Or.inl hin⟩)]:zb7 ps (nm,ims,fs) at_ (k,A,x,fn)=1)
   clear hin
   go_enter Tryz.func150,Tryz.ntmps150
   go_wp2_with (go_at_call 83;refine Calls.mono HH.out ?_;rintro e w5 ⟨rfl,hw5⟩;obtain rfl:=hw5.symm)
   go_ret;exact ⟨by rw [HR.out];rfl,HB2.out⟩
theorem znP (a:Option Addr) (len cap:Nat) (ps:List Pk) (nm:List UInt8) (ia:Option Addr) (il ic:Nat) (fa:Option Addr) (fl fc:Nat) (ims:List (List UInt8)) (fs:List Fn) (i:Nat) (w:World)
 (hl:zav w a len ps) (hi:za7 w ia il ims) (hf:zaB w fa fl fs) (hlen:len≤1048576) (hil:il≤1048576) (hfl:fl≤1048576) (hsh:zby ps) (hil2:i<fl) (htl:∀ j,(fs.getD j fn0).2.2.length≤1048576) :
 Calls Tryz.prog 124 #[.slice a len cap,.agg #[.string ⟨nm.toArray⟩,.slice ia il ic,.slice fa fl fc],.int .i64 (i:Int)] w fun e w'=>e=.returned (.int .i64 (func9 ps (nm,ims,fs) i))∧Below w.heap.size w w':=by
 have HC9:Hid (∀ W n,zav W a len ps→za7 W ia il ims→zaB W fa fl fs→Calls Tryz.prog 150 #[.slice a len cap,.agg #[.string ⟨nm.toArray⟩,.slice ia il ic,.slice fa fl fc],.int .i64 (i:Int),za9 n] W fun e w'=>e=.returned (.int .i64 (zb7 ps (nm,ims,fs) (i:Int) n))∧Below W.heap.size W w'):=fun W n h1 h2 h3=>znS a len cap ps nm ia il ic fa fl fc ims fs (i:Int) n W h1 h2 h3 hlen hil hfl hsh
 obtain ⟨bx,hbx⟩:=Box3.new w (.string ⟨nm.toArray⟩) (.slice ia il ic) (.slice fa fl fc) 99;obtain ⟨W1,hW1⟩:∃ W1,w.alloc (.cells #[.string ⟨nm.toArray⟩,.slice ia il ic,.slice fa fl fc] 99)=W1:=⟨_,rfl⟩
 have hs1:W1.heap.size=w.heap.size+1:=by rw [←hW1];simp
 rw [hW1] at bx hbx;obtain ⟨b,off,rfl,hbl,r0,r1,ta,tl,tc,r2,_,hnd⟩:=(hf.below hbx).2 i hil2;obtain ⟨f,hfe⟩:∃ f,fs.getD i fn0=f:=⟨_,rfl⟩
 have htl2:=htl i;have HV:Hid (func9 ps (nm,ims,fs) i=fnGo ps (nm,ims,fs) i f f.2.2 0):=by exact (by unfold func9;simp only;rw [hfe]:func9 ps (nm,ims,fs) i=fnGo ps (nm,ims,fs) i f f.2.2 0)
 rw [hfe] at r0 r1 hnd htl2;obtain ⟨fnm,fA,t⟩:=f;simp only at r0 r1 hnd htl2;obtain rfl:t.length=tl:=hnd.1;obtain ⟨fx,hfx⟩:=Box3.new W1 (.string ⟨fnm.toArray⟩) (.int .i64 fA) (.slice ta t.length tc) 107;obtain ⟨W2,hW2⟩:∃ W2,W1.alloc (.cells #[.string ⟨fnm.toArray⟩,.int .i64 fA,.slice ta t.length tc] 107)=W2:=⟨_,rfl⟩
 rw [hW2] at fx hfx;rw [hs1] at fx;have p2:=bx.c2;have p0:=bx.c0;have p1:=bx.c1;have hbw:Below w.heap.size w W2:=hbx.trans (hfx.mono (by omega));have hs2:W2.heap.size=w.heap.size+1+1:=by rw [←hW2];simp [hs1]
 have HZ:Hid (∀ Z,Below W2.heap.size W2 Z→Box3 Z w.heap.size (.string ⟨nm.toArray⟩) (.slice ia il ic) (.slice (some ⟨b,off,none⟩) fl fc)∧Box3 Z (w.heap.size+1) (.string ⟨fnm.toArray⟩) (.int .i64 fA) (.slice ta t.length tc)∧zay Z ta t.length t∧zav Z a len ps∧za7 Z ia il ims∧zaB Z (some ⟨b,off,none⟩) fl fs∧Below w.heap.size w Z):=fun Z hz=>⟨(bx.below hfx).below hz,fx.below hz,(hnd.below hfx).below hz,(hl.below hbw).below hz,(hi.below hbw).below hz,(hf.below hbw).below hz,hbw.trans (hz.mono hbw.size)⟩
 have g1:=fx.c1;have hiz:(i:Int)<(fl:Int):=by omega
 clear bx hbx fx hfx hnd hl hi hf hbw hsh htl hfe
 go_enter Tryz.func124,Tryz.ntmps124
 go_wp2;clear p0 p1 p2 r0 r1 r2
 go_loopw [8,9] (fun cv jv wr=>∃ (j:Nat) (c:Int),cv=.int .i64 c∧jv=.int .i64 (j:Int)∧j≤t.length∧Hid (func9 ps (nm,ims,fs) i=fnGo ps (nm,ims,fs) i (fnm,fA,t) (t.drop j) c)∧Hid (Below W2.heap.size W2 wr)) (fun _ jv _=>t.length-(intOf jv).toNat)
 case atStart=>exact ⟨0,0,rfl,rfl,by omega,(by exact (by rw [HV.out,List.drop_zero]:func9 ps (nm,ims,fs) i=fnGo ps (nm,ims,fs) i (fnm,fA,t) (t.drop 0) 0)),Below.refl _ _⟩
 case round =>
  obtain ⟨j,c,rfl,rfl,hj,HG,HB⟩:=hrel;obtain ⟨bp,bf,hnd,hpk,hti,hfi,hbw⟩:=HZ.out wr HB.out;have q0:=bp.c0;have q1:=bp.c1;have q2:=bp.c2;have g0:=bf.c0;have g1:=bf.c1;have g2:=bf.c2;by_cases hlt:(j:Int)<(t.length:Int)
  ·
   have hj2:j<t.length:=by omega
   obtain ⟨bn,on,rfl,_,m0,m1,m2,m3⟩:=hnd.2 j hj2;have hdr:=zoV (ps:=ps) (p:=(nm,ims,fs)) (i:=i) (f:=(fnm,fA,t)) hj2 c;rw [←HG.out] at hdr;obtain ⟨n,hn⟩:∃ n,t.getD j nd0=n:=⟨_,rfl⟩
   rw [hn] at m0 m1 m2 m3 hdr;obtain ⟨k,A,x,fn⟩:=n;simp only at m0 m1 m2 m3;obtain ⟨⟨n0,n1,n2,n3⟩,hb1⟩:=zeT wr (.int .i64 k) (.int .i64 A) (.string ⟨x.toArray⟩) (.string ⟨fn.toArray⟩) 104;obtain ⟨X,hX⟩:∃ X,wr.alloc (.cells #[.int .i64 k,.int .i64 A,.string ⟨x.toArray⟩,.string ⟨fn.toArray⟩] 104)=X:=⟨_,rfl⟩
   rw [hX] at n0 n1 n2 n3 hb1;have HBX:Hid (Below W2.heap.size W2 X):=HB.out.trans (hb1.mono HB.out.size);have HCl:Hid (_):=HC9.out X (k,A,x,fn) (hpk.below hb1) (hti.below hb1) (hfi.below hb1);have x0:=(bp.below hb1).c0;have x1:=(bp.below hb1).c1;have x2:=(bp.below hb1).c2;have y1:=(bf.below hb1).c1;clear bp bf hnd hpk hti hfi hb1 hn HG;by_cases ha:arg9 (fnm,fA,t) (k,A,x,fn)
   ·rw [if_pos ha] at hdr;have HR:Hid (func9 ps (nm,ims,fs) i=3):=hdr;obtain ⟨hk2,hA2⟩:=ha;simp only at hk2 hA2;subst hk2;have hE:Hid (Below w.heap.size w X):=(HZ.out X HBX.out).2.2.2.2.2.2;clear hdr HCl;go_wp2;go_ret;exact ⟨by rw [HR.out];rfl,hE.out⟩
   ·
    rw [if_neg ha] at hdr;have hkA:k=2→¬fA≤A:=fun e h=>ha ⟨e,h⟩
    by_cases hk8:k=8
    ·
     subst hk8;unfold za9 at HCl;simp only at HCl;obtain ⟨cc,hcc⟩:∃ cc,zb7 ps (nm,ims,fs) (i:Int) (8,A,x,fn)=cc:=⟨_,rfl⟩
     rw [hcc] at HCl;by_cases hc0:cc=0
     ·
      subst hc0;rw [if_neg (fun h=>h.2 hcc)] at hdr;have HG2:Hid (func9 ps (nm,ims,fs) i=fnGo ps (nm,ims,fs) i (fnm,fA,t) (t.drop (j+1)) c):=hdr;clear hdr ha hkA hcc
      go_wp2_with (go_at_call 150;refine Calls.mono HCl.out ?_;rintro e w7 ⟨rfl,hb7⟩;have HB7:Hid (Below W2.heap.size W2 w7):=HBX.out.trans (hb7.mono HBX.out.size);clear hb7)
      go_roundw
      case rel=>exact ⟨j+1,c,rfl,by go_num,by omega,HG2,HB7⟩
      case measure=>simp [intOf];omega
     ·
      rw [if_pos ⟨rfl,by rw [hcc];exact hc0⟩] at hdr;have HG2:Hid (func9 ps (nm,ims,fs) i=fnGo ps (nm,ims,fs) i (fnm,fA,t) (t.drop (j+1)) 4):=hdr;have hcb:(cc !=0)=true:=by rw [bne_iff_ne];exact hc0
      have hcb2:(cc==0)=false:=beq_eq_false_iff_ne.2 hc0;clear hdr ha hkA hcc
      go_wp2_with (go_at_call 150;refine Calls.mono HCl.out ?_;rintro e w7 ⟨rfl,hb7⟩;have HB7:Hid (Below W2.heap.size W2 w7):=HBX.out.trans (hb7.mono HBX.out.size);clear hb7)
      go_roundw
      case rel=>exact ⟨j+1,4,rfl,by go_num,by omega,HG2,HB7⟩
      case measure=>simp [intOf];omega
    ·
     rw [if_neg (fun h=>hk8 h.1)] at hdr;have HG2:Hid (func9 ps (nm,ims,fs) i=fnGo ps (nm,ims,fs) i (fnm,fA,t) (t.drop (j+1)) c):=hdr;have hkb2:(k==8)=false:=beq_eq_false_iff_ne.2 hk8;clear hdr ha HCl;by_cases hk2:k=2
     ·
      have hAA:=hkA hk2;subst hk2;clear hkA hkb2;go_wp2;go_roundw
      case rel=>exact ⟨j+1,c,rfl,by go_num,by omega,HG2,HBX⟩
      case measure=>simp [intOf];omega
     ·
      have hkb3:(k==2)=false:=beq_eq_false_iff_ne.2 hk2;clear hkA;go_wp2;go_roundw
      case rel=>exact ⟨j+1,c,rfl,by go_num,by omega,HG2,HBX⟩
      case measure=>simp [intOf];omega
  ·
   have HR:Hid (func9 ps (nm,ims,fs) i=c):=by exact (by rw [HG.out,List.drop_of_length_le (by omega)];rfl:func9 ps (nm,ims,fs) i=c)
   have HE:Hid (Below w.heap.size w wr):=hbw;clear bp bf hnd hpk hti hfi hbw HG;go_wp2;go_ret;exact ⟨by rw [HR.out];rfl,HE.out⟩
end Go.Proofs.YtponeoijfaepnaaGreatDoor
