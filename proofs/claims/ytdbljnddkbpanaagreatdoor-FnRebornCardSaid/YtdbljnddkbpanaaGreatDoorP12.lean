/-
  Parts of one proof, one behind the other: PackC, NodeL, PackC2, PackS5, PackO, PackW, Marks, Marks2, Marks3, TextsL, FnL, PackK.
-/
import Derived.Test.YtdbljnddkbpanaaGreatDoorP11
import Derived.Test.YtdbljnddkbpanaaGreatDoorP9
import Derived.Test.YtdbljnddkbpanaaGreatDoorP2
import Derived.Test.YtdbljnddkbpanaaGreatDoorP4
import Derived.Test.YtdbljnddkbpanaaGreatDoorP3
import Derived.Deep.RegionWith
import Derived.SliceStrings
import Derived.ProofKit
import Derived.OpenShut
import Derived.ShutString
import Derived.ChangeOld
import Derived.Below
namespace Go.Proofs.YtdbljnddkbpanaaGreatDoor
open Go.RowKit
theorem za5.src {w:World} {a:Option Addr} {len cap:Nat} {ts:List (List UInt8)} (h:za5 w a len ts) (hc:a=none→cap=0):Src w (.slice a len cap) len 1 (strV ts):=by
 have hl:(strV ts).length=len:=by simp [strV,h.1]
 refine ⟨by rw [hl];omega,fun u hu=>?_,?_⟩
 ·
  simp only [strV,List.mem_map] at hu
  obtain ⟨x,_,rfl⟩:=hu
  rfl
 rcases a with _ | ad
 ·
  have h0:len=0:=by
   rcases Nat.eq_zero_or_pos len with h' | h'
   ·
    exact h'
   ·
    obtain ⟨b,off,e,_⟩:=h.2 0 h'
    cases e
  exact Or.inl ⟨by rw [h0,hc rfl],h0⟩
 ·
  refine Or.inr ⟨ad,cap,rfl,fun j u hu=>?_⟩
  have hj:j<(strV ts).length:=by
   rcases Nat.lt_or_ge j (strV ts).length with h' | h'
   ·
    exact h'
   ·
    rw [List.getElem?_eq_none h'] at hu;cases hu
  rw [hl] at hj
  obtain ⟨b,off,e,_,c0⟩:=h.2 j hj
  injection e with e
  subst e
  rw [zdu,c0]
  rw [zo7 ts j (by rw [h.1];exact hj)] at hu
  rw [←hu,List.getD_eq_getElem?_getD,List.getElem?_eq_getElem (by rw [h.1];exact hj)]
  rfl
theorem zas.src {w:World} {a:Option Addr} {len cap:Nat} {ns:List Nd} (h:zas w a len ns) (hc:a=none→cap=0):Src w (.slice a len cap) len 4 (zab ns):=by
 refine ⟨by rw [zc1,h.1],zcM ns,?_⟩
 rcases a with _ | ad
 ·
  have h0:len=0:=by
   rcases Nat.eq_zero_or_pos len with h' | h'
   ·
    exact h'
   ·
    obtain ⟨b,off,e,_⟩:=h.2 0 h'
    cases e
  exact Or.inl ⟨by rw [h0,hc rfl],h0⟩
 ·
  refine Or.inr ⟨ad,cap,rfl,fun j u hu=>?_⟩
  have hj:j<(zab ns).length:=by
   rcases Nat.lt_or_ge j (zab ns).length with h' | h'
   ·
    exact h'
   ·
    rw [List.getElem?_eq_none h'] at hu;cases hu
  rw [zc1,h.1] at hj
  obtain ⟨b,off,e,_,c0,c1,c2,c3⟩:=h.2 (j / 4) (by omega)
  injection e with e
  subst e
  obtain ⟨v0,v1,v2,v3⟩:=zf3 ns (j / 4) (by rw [h.1];omega)
  rw [zdu]
  rcases (show j % 4=0∨j % 4=1∨j % 4=2∨j % 4=3 by omega) with h' | h' | h' | h'
  ·
   rw [show j / 4*4=j by omega] at v0 c0
   rw [hu] at v0
   rw [c0,v0]
  ·
   rw [show j / 4*4+1=j by omega] at v1
   rw [hu] at v1
   rw [show off+j=off+j / 4*4+1 by omega,c1,v1]
  ·
   rw [show j / 4*4+2=j by omega] at v2
   rw [hu] at v2
   rw [show off+j=off+j / 4*4+2 by omega,c2,v2]
  ·
   rw [show j / 4*4+3=j by omega] at v3
   rw [hu] at v3
   rw [show off+j=off+j / 4*4+3 by omega,c3,v3]
set_option maxHeartbeats 1000000 in
set_option maxRecDepth 100000 in
theorem zo9 (a:Option Addr) (len cap:Nat) (ts:List (List UInt8)) (w:World) (hin:za5 w a len ts) (hc:a=none→cap=0) (hlen:len≤1048576) :
 Calls Tryz.prog 43 #[.slice a len cap] w fun e w'=>∃ v,e=.returned v∧w'.ownsRow w.heap.size 9 1 v ts.length (strV ts)∧Below w.heap.size w w':=by
 obtain rfl:ts.length=len:=hin.1
 obtain ⟨i0,hi,hz0,hz1,hz2⟩:=info_parts zlp
 have hbA:Below w.heap.size w (w.alloc (.cells #[] 9)):=(Below.refl _ _).alloc (Nat.le_refl _) _
 have hown0:=(World.ownsRow_lit (base:=w.heap.size) (e:=9) (size:=1) w #[] 0 (Nat.le_refl _) (by decide) rfl)
 obtain ⟨v',w',hrun,hown',hg,_⟩:=zaE (P:=Tryz.prog) (w.alloc (.cells #[] 9)) w.heap.size 35 35 9 i0 _ 1 16 Tryz.underlying35 hi hz0 hz1 hz2 rfl (by decide) _ _ _ hown0 (.slice a ts.length cap) ts.length (strV ts) ((hin.below hbA).src hc) (by unfold maxLen;omega) (by omega) (by simp)
 have hb:Below w.heap.size w w':=hbA.grown hg hbA.size (fun q e=>by simp [Value.ownBlock] at e;omega)
 have HO:Hid (w'.ownsRow w.heap.size 9 1 v' ts.length (strV ts)):=by
  simp only [Nat.zero_add] at hown'
  exact (by simpa using hown':w'.ownsRow w.heap.size 9 1 v' ts.length (strV ts))
 clear hown' hg hown0 hbA hin
 go_enter Tryz.func43,Tryz.ntmps43
 go_wp2_with (at_builtin;refine za0 rfl (.tmp 3) (.tmp 4) 35 rfl _ _ _ rfl rfl hrun ?_;clear hrun)
 go_ret
 exact ⟨v',rfl,HO.out,hb⟩
def textsN:List Nd→Nat
 | []=>0
 | n :: r=>n.2.2.1.length+n.2.2.2.length+textsN r
def szN (m n:Nat) (left:Int):Int:=if (m:Int)+(n:Int)≤left then left-(m:Int)-(n:Int) else -1
def IntN (n:Nd):Prop:=(-9223372036854775808≤n.1∧n.1≤9223372036854775807)∧(-9223372036854775808≤n.2.1∧n.2.1≤9223372036854775807)
def IntT (ns:List Nd):Prop:=∀ j,IntN (ns.getD j nd0)
theorem zmz:IntN nd0:=by unfold IntN nd0;decide
theorem IntT.nil:IntT []:=fun j=>by rw [show ([]:List Nd).getD j nd0=nd0 by simp];exact zmz
def LongT (ns:List Nd):Prop:=∀ j,(ns.getD j nd0).2.2.1.length≤maxLen∧(ns.getD j nd0).2.2.2.length≤maxLen
theorem zno (ns:List Nd) (j:Nat) (k a:Int) (p f:List UInt8):((((zab ns).set (j*4) (.int .i64 k)).set (j*4+1) (.int .i64 a)).set (j*4+2) (.string ⟨p.toArray⟩)).set (j*4+3) (.string ⟨f.toArray⟩)=zab (ns.set j (k,a,p,f)):=by
 induction ns generalizing j with
 | nil=>simp [zab]
 | cons b r ih =>
  cases j with
  | zero=>simp [zab]
  | succ j=>rw [show (j+1)*4=j*4+1+1+1+1 by omega];simp [zab,ih]

def foundB (p:Pk) (s:List UInt8):Bool:=pkgB p && decide (0≤atV p.2.2 s)
def foundV (p:Pk) (s:List UInt8):Fn:=if foundB p s=true then p.2.2.getD (atV p.2.2 s).toNat fn0 else fn0
structure FoSt (X w:World) (D:Nat) (nm:List UInt8) (ia:Option Addr) (il ic:Nat) (b off fl fc:Nat) (ims:List (List UInt8)) (fs:List Fn) (j:Nat) (s:List UInt8) (n:Int) (t:List Nd) (ta:Option Addr) (tl tc:Nat):Prop where
 p:PkIn X D nm ia il ic (some ⟨b,off,none⟩) fl fc ims fs
 c0:X.cell? ⟨b,off+j*3,none⟩=some (.string ⟨s.toArray⟩)
 c1:X.cell? ⟨b,off+j*3+1,none⟩=some (.int .i64 n)
 c2:X.cell? ⟨b,off+j*3+2,none⟩=some (.slice ta tl tc)
 nodes:zas X ta tl t
 r0:X.cell? ⟨D+1,0,none⟩=some (.string ⟨#[]⟩)
 r1:X.cell? ⟨D+1,1,none⟩=some (.int .i64 0)
 r2:X.cell? ⟨D+1,2,none⟩=some (.slice none 0 0)
 fr:∀ j,X.frozen? ⟨D+1,j,none⟩=false
 b:Below D w X
 bs:D≤X.heap.size
theorem FoSt.below {X Y w:World} {D:Nat} {nm:List UInt8} {ia:Option Addr} {il ic:Nat} {b off fl fc:Nat} {ims:List (List UInt8)} {fs:List Fn} {j:Nat} {s:List UInt8} {n:Int} {t:List Nd} {ta:Option Addr} {tl tc:Nat}
 (h:FoSt X w D nm ia il ic b off fl fc ims fs j s n t ta tl tc) (hb:Below X.heap.size X Y):FoSt Y w D nm ia il ic b off fl fc ims fs j s n t ta tl tc :=
 have hl:b<X.heap.size:=World.block_lt_of_cell? X ⟨b,off+j*3,none⟩ h.c0
 have hr:D+1<X.heap.size:=World.block_lt_of_cell? X ⟨D+1,0,none⟩ h.r0
 ⟨h.p.below hb,(hb.cell (p:=⟨b,off+j*3,none⟩) hl).trans h.c0,(hb.cell (p:=⟨b,off+j*3+1,none⟩) hl).trans h.c1,(hb.cell (p:=⟨b,off+j*3+2,none⟩) hl).trans h.c2,h.nodes.below hb,
  (hb.cell (p:=⟨D+1,0,none⟩) hr).trans h.r0,(hb.cell (p:=⟨D+1,1,none⟩) hr).trans h.r1,(hb.cell (p:=⟨D+1,2,none⟩) hr).trans h.r2,fun i=>(hb.frozen (p:=⟨D+1,i,none⟩) hr).trans (h.fr i),h.b.trans (hb.mono h.bs),Nat.le_trans h.bs hb.size⟩
theorem FoSt.drew {X w:World} {D:Nat} {nm:List UInt8} {ia:Option Addr} {il ic:Nat} {b off fl fc:Nat} {ims:List (List UInt8)} {fs:List Fn} {j:Nat} {s:List UInt8} {n:Int} {t:List Nd} {ta:Option Addr} {tl tc:Nat}
 (h:FoSt X w D nm ia il ic b off fl fc ims fs j s n t ta tl tc):FoSt X.drew w D nm ia il ic b off fl fc ims fs j s n t ta tl tc:=h.below ⟨rfl,rfl,rfl,Nat.le_refl _,fun _ _=>rfl⟩
theorem set3 {X:World} {R:Nat} {a0 a1 a2:Value} (u0 u1 u2:Value) (r0:X.cell? ⟨R,0,none⟩=some a0) (r1:X.cell? ⟨R,1,none⟩=some a1) (r2:X.cell? ⟨R,2,none⟩=some a2) :
 ∃ Y,((X.setCell ⟨R,0,none⟩ u0).setCell ⟨R,1,none⟩ u1).setCell ⟨R,2,none⟩ u2=Y∧Y.cell? ⟨R,0,none⟩=some u0∧Y.cell? ⟨R,1,none⟩=some u1∧Y.cell? ⟨R,2,none⟩=some u2∧X.grownBy Y (some R):=by
 refine ⟨_,rfl,?_,?_,?_,?_⟩
 ·
  exact (World.cell?_setCell_other _ _ _ _ (by simp)).trans ((World.cell?_setCell_other _ _ _ _ (by simp)).trans (World.cell?_setCell_same _ _ _ r0))
 ·
  exact (World.cell?_setCell_other _ _ _ _ (by simp)).trans (World.cell?_setCell_same _ _ _ ((World.cell?_setCell_other _ _ _ _ (by simp)).trans r1))
 ·
  exact World.cell?_setCell_same _ _ _ ((World.cell?_setCell_other _ _ _ _ (by simp)).trans ((World.cell?_setCell_other _ _ _ _ (by simp)).trans r2))
 ·
  exact ((zar _ _ _ _).trans (zar _ _ _ _)).trans (zar _ _ _ _)
theorem zoD {w:World} {base e size n R:Nat} {v:Value} {xs:List Value} (h:w.ownsRow base e size v n xs) (hR:R<base):v.ownBlock=none∨v.ownBlock≠some R:=by
 rcases hv:v.ownBlock with _ | k
 ·
  exact Or.inl rfl
 ·
  refine Or.inr (fun e=>?_)
  have:=(h.lt k hv).1
  injection e with e
  omega
abbrev FV:=Fn × Option Addr × Nat
def fvT (x:FV):Value:=.slice x.2.1 x.1.2.2.length x.2.2
def fnsV:List FV→List Value
 | []=>[]
 | x :: r=>.string ⟨x.1.1.toArray⟩ :: .int .i64 x.1.2.1 :: fvT x :: fnsV r
def fv0:FV:=(fn0,none,0)
theorem zh7 (x y:List FV):fnsV (x++y)=fnsV x++fnsV y:=by
 induction x with
 | nil=>rfl
 | cons n r ih=>simp [fnsV,ih]
theorem fnsV_one (xs:List FV):∀ u∈fnsV xs,u.oneCell'=true:=by
 induction xs with
 | nil=>intro u hu;cases hu
 | cons n r ih =>
  intro u hu
  simp only [fnsV,List.mem_cons] at hu
  rcases hu with rfl | rfl | rfl | h
  ·
   rfl
  ·
   rfl
  ·
   rfl
  ·
   exact ih u h
theorem zjc (xs:List FV) (j:Nat) (hj:j<xs.length):(fnsV xs)[j*3]?=some (.string ⟨(xs.getD j fv0).1.1.toArray⟩)∧(fnsV xs)[j*3+1]?=some (.int .i64 (xs.getD j fv0).1.2.1)∧(fnsV xs)[j*3+2]?=some (fvT (xs.getD j fv0)):=by
 induction xs generalizing j with
 | nil=>simp at hj
 | cons n r ih =>
  cases j with
  | zero=>simp [fnsV]
  | succ j =>
   obtain ⟨h0,h1,h2⟩:=ih j (by simpa using hj)
   refine ⟨?_,?_,?_⟩
   ·
    rw [show (j+1)*3=j*3+1+1+1 by omega];simpa [fnsV] using h0
   ·
    rw [show (j+1)*3+1=j*3+1+1+1+1 by omega];simpa [fnsV] using h1
   ·
    rw [show (j+1)*3+2=j*3+2+1+1+1 by omega];simpa [fnsV] using h2
theorem zak {w:World} {b1 b2 e1 e2 s1 s2 n1 n2:Nat} {v1 v2:Value} {xs ys:List Value} (h1:w.ownsRow b1 e1 s1 v1 n1 xs) (h2:w.ownsRow b2 e2 s2 v2 n2 ys) (he:e1≠e2):v1.ownBlock=none∨v1.ownBlock≠v2.ownBlock:=by
 rcases h1.2 with ⟨rfl,_⟩ | ⟨g,c,cur,rfl,_,hg,_⟩
 ·
  exact Or.inl rfl
 ·
  rcases h2.2 with ⟨rfl,_⟩ | ⟨g2,c2,cur2,rfl,_,hg2,_⟩
  ·
   exact Or.inr (by simp [Value.ownBlock])
  ·
   refine Or.inr (fun e=>?_)
   simp only [Value.ownBlock,Option.some.injEq] at e
   subst e
   rw [hg] at hg2
   simp only [Option.some.injEq,Obj.cells.injEq] at hg2
   exact he hg2.2.1
structure zaV (w:World) (base:Nat) (v:Value) (xs:List FV):Prop where
 row:w.ownsRow base 79 3 v xs.length (fnsV xs)
 trees:∀ x∈xs,w.ownsRow base 103 4 (fvT x) x.1.2.2.length (zab x.1.2.2)
theorem zaV.below {w w':World} {base:Nat} {v:Value} {xs:List FV} (h:zaV w base v xs) (hb:Below w.heap.size w w'):zaV w' base v xs:=⟨za6 h.row hb,fun x hx=>za6 (h.trees x hx) hb⟩
theorem zaV.kept {w w':World} {base:Nat} {v:Value} {xs:List FV} {row:Option Nat} (h:zaV w base v xs) (hg:w.grownBy w' row) (h1:v.ownBlock=none∨v.ownBlock≠row) (h2:∀ x∈xs,(fvT x).ownBlock=none∨(fvT x).ownBlock≠row):zaV w' base v xs :=
 ⟨h.row.kept hg h1,fun x hx=>(h.trees x hx).kept hg (h2 x hx)⟩
theorem zaV.base {w:World} {base b2:Nat} {v:Value} {xs:List FV} (h:zaV w base v xs) (hb:b2≤base):zaV w b2 v xs:=⟨zaI h.row hb,fun x hx=>zaI (h.trees x hx) hb⟩
theorem zaV.nil (w:World) (base:Nat):zaV w base (.slice none 0 0) []:=⟨World.ownsRow_nil w _ _ _,fun x hx=>by cases hx⟩
theorem zeK (xs:List FV) (j:Nat):(xs.map (·.1)).getD j fn0=(xs.getD j fv0).1:=by
 rw [List.getD_eq_getElem?_getD,List.getD_eq_getElem?_getD,List.getElem?_map]
 cases xs[j]?<;>rfl
theorem zaV.in {w:World} {base:Nat} {v:Value} {xs:List FV} (h:zaV w base v xs):∃ a cap,v=.slice a xs.length cap∧(a=none→cap=0)∧zaD w a xs.length (xs.map (·.1)):=by
 rcases zb4 h.row with ⟨rfl,h0,_⟩ | ⟨g,cp,rfl⟩
 ·
  exact ⟨none,0,by rw [h0],fun _=>rfl,by simp,fun j hj=>by omega⟩
 ·
  refine ⟨some ⟨g,0,none⟩,cp,rfl,fun e=>(by cases e),by simp,fun j hj=>?_⟩
  obtain ⟨v0,v1,v2⟩:=zjc xs j hj
  have hc:=fun k (hk:k<xs.length*3)=>World.ownsRow.cellAt h.row k hk
  have hmem:xs.getD j fv0∈xs:=by rw [List.getD_eq_getElem?_getD,List.getElem?_eq_getElem hj];exact List.getElem_mem hj
  obtain ⟨hl,a,cap,e,hn⟩:=zcq (h.trees _ hmem)
  refine ⟨g,0,rfl,(h.row.lt g rfl).2,?_,?_,(xs.getD j fv0).2.1,(xs.getD j fv0).1.2.2.length,(xs.getD j fv0).2.2,?_,?_,?_⟩
  ·
   rw [Nat.zero_add,hc _ (by omega),v0,zeK]
  ·
   rw [Nat.zero_add,hc _ (by omega),v1,zeK]
  ·
   rw [Nat.zero_add,hc _ (by omega),v2];rfl
  ·
   intro e2
   rcases zb4 (h.trees _ hmem) with ⟨e3,_⟩ | ⟨g3,cp3,e3⟩
   ·
    unfold fvT at e3;injection e3
   ·
    unfold fvT at e3;rw [e2] at e3;injection e3 with e4;cases e4
  ·
   rw [zeK]
   unfold fvT at e
   injection e with e1 e2 e3
   rw [e1];exact hn
theorem zmA:(Tryz.prog.info? 79).map (fun i=>(i.zero,i.size,i.bytes))=some (some (.agg #[.string ⟨#[]⟩,.int .i64 0,.slice none 0 0]),3,48):=by kernel_rfl
theorem new_fn (w:World) (x:FV) (c:Nat):Src (w.alloc (.cells #[.string ⟨x.1.1.toArray⟩,.int .i64 x.1.2.1,fvT x] 79)) (.slice (some ⟨w.heap.size,0,none⟩) 1 c) 1 3 (fnsV [x]):=by
 refine ⟨rfl,fnsV_one _,Or.inr ⟨_,c,rfl,fun j u hu=>?_⟩⟩
 rw [zdu,Nat.zero_add]
 match j,hu with
 | 0,hu=>simp [fnsV] at hu;subst hu;simp
 | 1,hu=>simp [fnsV] at hu;subst hu;simp
 | 2,hu=>simp [fnsV] at hu;subst hu;simp
 | j+3,hu=>simp [fnsV] at hu
structure RdSt (X w:World) (D P B gL:Nat) (ls:List (List UInt8)) (nm:List UInt8) (ims:List (List UInt8)) (xs:List FV) (ia:Option Addr) (ic:Nat) (fa:Option Addr) (fc:Nat):Prop where
 p0:X.cell? ⟨P,0,none⟩=some (.string ⟨nm.toArray⟩)
 p1:X.cell? ⟨P,1,none⟩=some (.slice ia ims.length ic)
 p2:X.cell? ⟨P,2,none⟩=some (.slice fa xs.length fc)
 pf:∀ j,X.frozen? ⟨P,j,none⟩=false
 r0:X.cell? ⟨D,0,none⟩=some (.string ⟨#[]⟩)
 r1:X.cell? ⟨D,1,none⟩=some (.slice none 0 0)
 r2:X.cell? ⟨D,2,none⟩=some (.slice none 0 0)
 rf:∀ j,X.frozen? ⟨D,j,none⟩=false
 lines:∀ j,j<ls.length→X.cell? ⟨gL,j,none⟩=some (.string ⟨(ls.getD j []).toArray⟩)
 oi:X.ownsRow B 9 1 (.slice ia ims.length ic) ims.length (strV ims)
 fo:zaV X B (.slice fa xs.length fc) xs
 dp:D<P
 gd:gL≠D
 gp:gL≠P
 db:D<B
 pb:P<B
 gb:gL<B
 b:Below D w X
 bs:B≤X.heap.size
section
variable {X Y w:World} {D P B gL:Nat} {ls:List (List UInt8)} {nm:List UInt8} {ims:List (List UInt8)} {xs:List FV} {ia:Option Addr} {ic:Nat} {fa:Option Addr} {fc:Nat}
theorem RdSt.grown {row:Option Nat} (h:RdSt X w D P B gL ls nm ims xs ia ic fa fc) (hg:X.grownBy Y row) (hrow:∀ k,row=some k→B≤k):
 (∀ k,k<B→Y.heap[k]?=X.heap[k]?)∧Below D w Y∧B≤Y.heap.size:=by
 have hk:∀ k,k<B→Y.heap[k]?=X.heap[k]?:=fun k hk=>hg.block k (Nat.lt_of_lt_of_le hk h.bs) (fun e=>by have:=hrow k e.symm;omega)
 exact ⟨hk,h.b.grown hg (Nat.le_trans (Nat.le_of_lt h.db) h.bs) (fun k e=>Nat.le_trans (Nat.le_of_lt h.db) (hrow k e)),Nat.le_trans h.bs hg.size⟩
theorem RdSt.below (h:RdSt X w D P B gL ls nm ims xs ia ic fa fc) (hb:Below X.heap.size X Y):RdSt Y w D P B gL ls nm ims xs ia ic fa fc :=
 have hp:P<X.heap.size:=Nat.lt_of_lt_of_le h.pb h.bs
 have hd:D<X.heap.size:=Nat.lt_of_lt_of_le h.db h.bs
 have hg:gL<X.heap.size:=Nat.lt_of_lt_of_le h.gb h.bs
 ⟨(hb.cell (p:=⟨P,0,none⟩) hp).trans h.p0,(hb.cell (p:=⟨P,1,none⟩) hp).trans h.p1,(hb.cell (p:=⟨P,2,none⟩) hp).trans h.p2,fun j=>(hb.frozen (p:=⟨P,j,none⟩) hp).trans (h.pf j),
  (hb.cell (p:=⟨D,0,none⟩) hd).trans h.r0,(hb.cell (p:=⟨D,1,none⟩) hd).trans h.r1,(hb.cell (p:=⟨D,2,none⟩) hd).trans h.r2,fun j=>(hb.frozen (p:=⟨D,j,none⟩) hd).trans (h.rf j),
  fun j hj=>(hb.cell (p:=⟨gL,j,none⟩) hg).trans (h.lines j hj),za6 h.oi hb,h.fo.below hb,h.dp,h.gd,h.gp,h.db,h.pb,h.gb,h.b.trans (hb.mono (Nat.le_of_lt hd)),Nat.le_trans h.bs hb.size⟩
theorem RdSt.drew (h:RdSt X w D P B gL ls nm ims xs ia ic fa fc):RdSt X.drew w D P B gL ls nm ims xs ia ic fa fc:=h.below ⟨rfl,rfl,rfl,Nat.le_refl _,fun _ _=>rfl⟩
theorem RdSt.name0 (h:RdSt X w D P B gL ls nm ims xs ia ic fa fc) (hk:∀ k,k<B→Y.heap[k]?=X.heap[k]?) (hb:Below D w Y) (hbs:B≤Y.heap.size) (x:List UInt8) (oi:Y.ownsRow B 9 1 (.slice ia ims.length ic) ims.length (strV ims)) (fo:zaV Y B (.slice fa xs.length fc) xs):RdSt (Y.setCell ⟨P,0,none⟩ (.string ⟨x.toArray⟩)) w D P B gL ls x ims xs ia ic fa fc:=by
 have hg:=zam Y P 0 (.string ⟨x.toArray⟩)
 have off:∀ {e size n:Nat} {v:Value} {ys:List Value},Y.ownsRow B e size v n ys→v.ownBlock=none∨v.ownBlock≠some P:=fun ho=>zoD ho h.pb
 have hoth:∀ (q:Addr),q.block≠P→q.block<B→(Y.setCell ⟨P,0,none⟩ (.string ⟨x.toArray⟩)).cell? q=X.cell? q:=fun q hq hqb=>(World.cell?_setCell_other _ _ _ _ (fun e=>hq (by rw [←e]))).trans (World.cell?_of_block (hk _ hqb))
 have hdp:D≠P:=Nat.ne_of_lt h.dp
 have hfz:∀ (q:Addr),q.block<B→(Y.setCell ⟨P,0,none⟩ (.string ⟨x.toArray⟩)).frozen? q=X.frozen? q:=fun q hqb=>(World.frozen?_setCell ..).trans (World.frozen?_of_block (hk _ hqb))
 have hp:∀ j,Y.cell? ⟨P,j,none⟩=X.cell? ⟨P,j,none⟩:=fun j=>World.cell?_of_block (hk _ h.pb)
 exact ⟨World.cell?_setCell_same _ _ _ ((hp 0).trans h.p0),(World.cell?_setCell_other _ _ _ _ (by simp)).trans ((hp 1).trans h.p1),(World.cell?_setCell_other _ _ _ _ (by simp)).trans ((hp 2).trans h.p2),fun j=>(hfz ⟨P,j,none⟩ h.pb).trans (h.pf j),(hoth _ hdp h.db).trans h.r0,(hoth _ hdp h.db).trans h.r1,(hoth _ hdp h.db).trans h.r2,fun j=>(hfz ⟨D,j,none⟩ h.db).trans (h.rf j),
  fun j hj=>(hoth ⟨gL,j,none⟩ h.gp h.gb).trans (h.lines j hj),oi.kept hg (off oi),fo.kept hg (off fo.row) (fun y hy=>off (fo.trees y hy)),h.dp,h.gd,h.gp,h.db,h.pb,h.gb,hb.grown hg (Nat.le_trans (Nat.le_of_lt h.db) hbs) (fun k e=>by injection e with e;have:=h.dp;omega),by simpa using hbs⟩
theorem RdSt.name (h:RdSt X w D P B gL ls nm ims xs ia ic fa fc) (x:List UInt8):RdSt (X.setCell ⟨P,0,none⟩ (.string ⟨x.toArray⟩)) w D P B gL ls x ims xs ia ic fa fc:=h.name0 (fun _ _=>rfl) h.b h.bs x h.oi h.fo
theorem RdSt.fn1 (h:RdSt X w D P B gL ls nm ims xs ia ic fa fc) (hk:∀ k,k<B→Y.heap[k]?=X.heap[k]?) (hb:Below D w Y) (hbs:B≤Y.heap.size) {xs':List FV} {fa':Option Addr} {fc':Nat} (oi:Y.ownsRow B 9 1 (.slice ia ims.length ic) ims.length (strV ims)) (fo:zaV Y B (.slice fa' xs'.length fc') xs'):RdSt (Y.setCell ⟨P,2,none⟩ (.slice fa' xs'.length fc')) w D P B gL ls nm ims xs' ia ic fa' fc':=by
 have hg:=zam Y P 2 (.slice fa' xs'.length fc')
 have off:∀ {e size n:Nat} {v:Value} {ys:List Value},Y.ownsRow B e size v n ys→v.ownBlock=none∨v.ownBlock≠some P:=fun ho=>zoD ho h.pb
 have hoth:∀ (q:Addr),q.block≠P→q.block<B→(Y.setCell ⟨P,2,none⟩ (.slice fa' xs'.length fc')).cell? q=X.cell? q:=fun q hq hqb=>(World.cell?_setCell_other _ _ _ _ (fun e=>hq (by rw [←e]))).trans (World.cell?_of_block (hk _ hqb))
 have hdp:D≠P:=Nat.ne_of_lt h.dp
 have hfz:∀ (q:Addr),q.block<B→(Y.setCell ⟨P,2,none⟩ (.slice fa' xs'.length fc')).frozen? q=X.frozen? q:=fun q hqb=>(World.frozen?_setCell ..).trans (World.frozen?_of_block (hk _ hqb))
 have hp:∀ j,Y.cell? ⟨P,j,none⟩=X.cell? ⟨P,j,none⟩:=fun j=>World.cell?_of_block (hk _ h.pb)
 exact ⟨(World.cell?_setCell_other _ _ _ _ (by simp)).trans ((hp 0).trans h.p0),(World.cell?_setCell_other _ _ _ _ (by simp)).trans ((hp 1).trans h.p1),World.cell?_setCell_same _ _ _ ((hp 2).trans h.p2),fun j=>(hfz ⟨P,j,none⟩ h.pb).trans (h.pf j),(hoth _ hdp h.db).trans h.r0,(hoth _ hdp h.db).trans h.r1,(hoth _ hdp h.db).trans h.r2,fun j=>(hfz ⟨D,j,none⟩ h.db).trans (h.rf j),
  fun j hj=>(hoth ⟨gL,j,none⟩ h.gp h.gb).trans (h.lines j hj),oi.kept hg (off oi),fo.kept hg (off fo.row) (fun y hy=>off (fo.trees y hy)),h.dp,h.gd,h.gp,h.db,h.pb,h.gb,hb.grown hg (Nat.le_trans (Nat.le_of_lt h.db) hbs) (fun k e=>by injection e with e;have:=h.dp;omega),by simpa using hbs⟩
theorem RdSt.func (h:RdSt X w D P B gL ls nm ims xs ia ic fa fc) (y:FV) (hy:X.ownsRow B 103 4 (fvT y) y.1.2.2.length (zab y.1.2.2)) (hn:xs.length≤1048576) :
 ∃ g' c' Y,(Builtin.append_ #[73,73] 73 #[.slice fa xs.length fc,.slice (some ⟨X.heap.size,0,none⟩) 1 1]).run Tryz.prog (X.alloc (.cells #[.string ⟨y.1.1.toArray⟩,.int .i64 y.1.2.1,fvT y] 79))=.ok (.slice (some ⟨g',0,none⟩) (xs.length+1) c') Y ∧
  Y.cell? ⟨P,2,none⟩=some (.slice fa xs.length fc)∧(∀ j,Y.frozen? ⟨P,j,none⟩=false)∧RdSt (Y.setCell ⟨P,2,none⟩ (.slice (some ⟨g',0,none⟩) (xs.length+1) c')) w D P B gL ls nm ims (xs++[y]) ia ic (some ⟨g',0,none⟩) c':=by
 obtain ⟨i0,hi,hz0,hz1,hz2⟩:=info_parts zmA
 have hX1:Below X.heap.size X (X.alloc (.cells #[.string ⟨y.1.1.toArray⟩,.int .i64 y.1.2.1,fvT y] 79)):=(Below.refl _ _).alloc (Nat.le_refl _) _
 have h1:=h.below hX1
 have hy1:=za6 hy hX1
 obtain ⟨v',Y,hrun,hown,hg,_⟩:=zaE (P:=Tryz.prog) (X.alloc (.cells #[.string ⟨y.1.1.toArray⟩,.int .i64 y.1.2.1,fvT y] 79)) B 73 73 79 i0 _ 3 48 Tryz.underlying73 hi hz0 hz1 hz2 rfl (by decide) _ _ _ h1.fo.row _ 1 (fnsV [y]) (new_fn X y 1) (by unfold maxLen;omega) (by omega) h1.bs
 obtain ⟨g',c',rfl⟩:=zaw hown (by omega)
 obtain ⟨hk,hb,hbs⟩:=h1.grown hg (fun k e=>(h1.fo.row.lt k e).1)
 have e1:(xs++[y]).length=xs.length+1:=by simp
 have hown2:Y.ownsRow B 79 3 (.slice (some ⟨g',0,none⟩) (xs++[y]).length c') (xs++[y]).length (fnsV (xs++[y])):=by
  rw [e1,zh7];exact hown
 have htr:∀ z∈xs++[y],Y.ownsRow B 103 4 (fvT z) z.1.2.2.length (zab z.1.2.2):=fun z hz=>by
  rw [List.mem_append,List.mem_singleton] at hz
  rcases hz with hz | rfl
  ·
   exact (h1.fo.trees z hz).kept hg (zak (h1.fo.trees z hz) h1.fo.row (by decide))
  ·
   exact hy1.kept hg (zak hy1 h1.fo.row (by decide))
 have hoi:=h1.oi.kept hg (zak h1.oi h1.fo.row (by decide))
 have hz:=h1.fn1 hk hb hbs hoi (⟨hown2,htr⟩:zaV Y B _ (xs++[y]))
 refine ⟨g',c',Y,hrun,(World.cell?_of_block (a:=⟨P,2,none⟩) (hk _ h1.pb)).trans h1.p2,fun j=>(World.frozen?_of_block (a:=⟨P,j,none⟩) (hk _ h1.pb)).trans (h1.pf j),?_⟩
 rw [e1] at hz
 exact hz
end
structure zb0 (w w':World) (S:Nat→Prop):Prop where
 os:w'.os=w.os
 tape:w'.tape=w.tape
 output:w'.output=w.output
 size:w.heap.size≤w'.heap.size
 block:∀ k,k<w.heap.size→¬S k→w'.heap[k]?=w.heap[k]?
theorem zb0.refl (w:World) (S:Nat→Prop):zb0 w w S:=⟨rfl,rfl,rfl,Nat.le_refl _,fun _ _ _=>rfl⟩
theorem zb0.trans {a b c:World} {S:Nat→Prop} (h:zb0 a b S) (k:zb0 b c S):zb0 a c S :=
 ⟨k.os.trans h.os,k.tape.trans h.tape,k.output.trans h.output,Nat.le_trans h.size k.size,fun i hi hs=>(k.block i (Nat.lt_of_lt_of_le hi h.size) hs).trans (h.block i hi hs)⟩
theorem zb0.mono {w w':World} {S T:Nat→Prop} (h:zb0 w w' S) (hs:∀ k,S k→T k):zb0 w w' T:=⟨h.os,h.tape,h.output,h.size,fun k hk hn=>h.block k hk (fun e=>hn (hs k e))⟩
theorem zb0.of_grown {w w':World} {row:Option Nat} {S:Nat→Prop} (h:w.grownBy w' row) (hs:∀ k,row=some k→S k):zb0 w w' S :=
 ⟨h.os,h.tape,h.output,h.size,fun k hk hn=>h.block k hk (fun e=>hn (hs k e.symm))⟩
theorem zb0.of_below {w w':World} {S:Nat→Prop} (h:Below w.heap.size w w'):zb0 w w' S:=⟨h.os,h.tape,h.output,h.size,fun k hk _=>h.block k hk⟩
theorem zb0.below {w w':World} {S:Nat→Prop} {B:Nat} (h:zb0 w w' S) (hB:B≤w.heap.size) (hs:∀ k,S k→B≤k):Below B w w' :=
 ⟨h.os,h.tape,h.output,h.size,fun k hk=>h.block k (Nat.lt_of_lt_of_le hk hB) (fun e=>by have:=hs k e;omega)⟩
theorem zbz {w w':World} {base e size n:Nat} {v:Value} {xs:List Value} {S:Nat→Prop} (h:w.ownsRow base e size v n xs) (hw:zb0 w w' S) (hv:∀ k,v.ownBlock=some k→¬S k):w'.ownsRow base e size v n xs:=by
 refine ⟨h.1,?_⟩
 rcases h.2 with hn | ⟨g,cap,cur,rfl,hb,hgg,rest⟩
 ·
  exact .inl hn
 ·
  refine .inr ⟨g,cap,cur,rfl,hb,?_,rest⟩
  rw [hw.block g (Array.getElem?_eq_some_iff.1 hgg).1 (hv g rfl)]
  exact hgg
def zkS (vs:List Value):Prop:=vs.Pairwise (fun a b=>a.ownBlock=none∨a.ownBlock≠b.ownBlock)
theorem zkS.ne {vs:List Value} (h:zkS vs) {i j:Nat} (hi:i<vs.length) (hj:j<vs.length) (hij:i≠j):vs[i].ownBlock=none∨vs[i].ownBlock≠vs[j].ownBlock:=by
 rcases Nat.lt_or_gt_of_ne hij with hl | hl
 ·
  exact List.pairwise_iff_getElem.1 h i j hi hj hl
 ·
  rcases List.pairwise_iff_getElem.1 h j i hj hi hl with e | e
  ·
   rw [e];cases vs[i].ownBlock<;>simp
  ·
   exact Or.inr (fun e2=>e e2.symm)
theorem zkS.nil:zkS []:=List.Pairwise.nil
theorem zkS.snoc {vs:List Value} {u:Value} (h:zkS vs) (hu:∀ v∈vs,v.ownBlock=none∨v.ownBlock≠u.ownBlock):zkS (vs++[u]) :=
 List.pairwise_append.2 ⟨h,List.pairwise_singleton _ _,fun a ha b hb=>by rw [List.mem_singleton] at hb;subst hb;exact hu a ha⟩
def markGo:Nat→Nat→List UInt8→List UInt8
 | 0,_,acc=>acc
 | f+1,k,acc=>if k=0 then acc else markGo f (k / 10) ((48+UInt8.ofNat (k % 10)) :: acc)
def zoS (k:Nat):List UInt8:=109 :: markGo k k []
def marksV (k:Nat):Nat→List Value
 | 0=>[]
 | n+1=>marksV k n++[.string ⟨(zoS (k+n)).toArray⟩]

section
open Go.ChangeShapes Go.WideShapes Go.ChangeAt Go.RowKit
def szT (m n:Nat) (left:Int):Int:=if (m:Int)+(n:Int)≤left then left-(m:Int)-(n:Int) else -1
def joinN (ts:List (List UInt8)):Nat:=ts.flatten.length
end
def szM (m:Nat) (left:Int):Int:=if (m:Int)≤left then left-(m:Int) else -1
def fnSz (f:Fn):Nat:=f.1.length+(f.2.2.length+textsN f.2.2)
def fnsSz:List Fn→Nat
 | []=>0
 | f :: r=>fnSz f+fnsSz r
def pkSz (nm:List UInt8) (ims:List (List UInt8)) (fs:List Fn):Nat:=nm.length+(ims.length+joinN ims)+(fs.length+fnsSz fs)
def LongF (fs:List Fn):Prop:=∀ j,(fs.getD j fn0).1.length≤maxLen∧(fs.getD j fn0).2.2.length≤maxLen∧LongT (fs.getD j fn0).2.2
def IntF (fs:List Fn):Prop:=∀ j,(-9223372036854775808≤(fs.getD j fn0).2.1∧(fs.getD j fn0).2.1≤9223372036854775807)∧IntT (fs.getD j fn0).2.2
structure PkOk (w:World) (nm:List UInt8) (ia:Option Addr) (il ic:Nat) (fa:Option Addr) (fl fc:Nat) (ims:List (List UInt8)) (fs:List Fn):Prop where
 i:za5 w ia il ims
 f:zaD w fa fl fs
 ic:ia=none→ic=0
 fc:(fa=none→fc=0)∧fl≤fc
 int:IntF fs
 il:il≤1048576
 fl:fl≤1048576
 nm:nm.length≤1048576
 is:∀ i,(ims.getD i []).length≤1048576
 fs:zgc fs
theorem PkOk.below {w w':World} {nm:List UInt8} {ia:Option Addr} {il ic:Nat} {fa:Option Addr} {fl fc:Nat} {ims:List (List UInt8)} {fs:List Fn} (h:PkOk w nm ia il ic fa fl fc ims fs) (hb:Below w.heap.size w w'):PkOk w' nm ia il ic fa fl fc ims fs :=
 ⟨h.i.below hb,h.f.below hb,h.ic,h.fc,h.int,h.il,h.fl,h.nm,h.is,h.fs⟩
theorem zfu {w:World} {base n:Nat} {v:Value} {ts:List (List UInt8)} (h:w.ownsRow base 9 1 v n (strV ts)):∃ a c,v=.slice a n c∧(a=none→c=0)∧za5 w a n ts:=by
 obtain ⟨_,a,c,rfl,hin⟩:=zaC h
 refine ⟨a,c,rfl,fun e=>?_,hin⟩
 rcases zb4 h with ⟨e2,_,_⟩ | ⟨g,cp,e2⟩
 ·
  injection e2
 ·
  injection e2 with e3;rw [e] at e3;cases e3
structure Box3 (V:World) (k:Nat) (a b c:Value):Prop where
 c0:V.cell? ⟨k,0,none⟩=some a
 c1:V.cell? ⟨k,1,none⟩=some b
 c2:V.cell? ⟨k,2,none⟩=some c
theorem Box3.lt {V:World} {k:Nat} {a b c:Value} (h:Box3 V k a b c):k<V.heap.size:=World.block_lt_of_cell? V ⟨k,0,none⟩ h.c0
theorem Box3.keep {V V':World} {k:Nat} {a b c:Value} (h:Box3 V k a b c) (hb:V'.heap[k]?=V.heap[k]?):Box3 V' k a b c :=
 ⟨(World.cell?_of_block (a:=⟨k,0,none⟩) hb).trans h.c0,(World.cell?_of_block (a:=⟨k,1,none⟩) hb).trans h.c1,(World.cell?_of_block (a:=⟨k,2,none⟩) hb).trans h.c2⟩
theorem Box3.below {V V':World} {k:Nat} {a b c:Value} (h:Box3 V k a b c) (hb:Below V.heap.size V V'):Box3 V' k a b c:=h.keep (hb.block k h.lt)
theorem Box3.wrote {V V':World} {k:Nat} {a b c:Value} {S:Nat→Prop} (h:Box3 V k a b c) (hw:zb0 V V' S) (hk:¬S k):Box3 V' k a b c:=h.keep (hw.block k h.lt hk)
theorem Box3.grown {V V':World} {k:Nat} {a b c:Value} {row:Option Nat} (h:Box3 V k a b c) (hg:V.grownBy V' row) (hk:some k≠row):Box3 V' k a b c:=h.keep (hg.block k h.lt hk)
theorem Box3.drew {V:World} {k:Nat} {a b c:Value} (h:Box3 V k a b c):Box3 V.drew k a b c:=⟨h.c0,h.c1,h.c2⟩
theorem Box3.new (V:World) (a b c:Value) (t:TypeId):Box3 (V.alloc (.cells #[a,b,c] t)) V.heap.size a b c∧Below V.heap.size V (V.alloc (.cells #[a,b,c] t)):=by
 have hb:Below V.heap.size V (V.alloc (.cells #[a,b,c] t)):=(Below.refl _ _).alloc (Nat.le_refl _) _
 have hA:=heap_alloc_new V (.cells #[a,b,c] t)
 generalize V.alloc (.cells #[a,b,c] t)=W at hb hA ⊢
 exact ⟨⟨by simp [World.cell?,hA],by simp [World.cell?,hA],by simp [World.cell?,hA]⟩,hb⟩
theorem zoC {w:World} {base:Nat} {vi vf:Value} {ims:List (List UInt8)} {xs:List FV} {fs:List Fn} (hoi:w.ownsRow base 9 1 vi ims.length (strV ims)) (hof:zaV w base vf xs) (hxs:xs.map (·.1)=fs) :
 ∃ ai ci af cf,vi=.slice ai ims.length ci∧vf=.slice af fs.length cf∧(ai=none→ci=0)∧((af=none→cf=0)∧fs.length≤cf)∧za5 w ai ims.length ims∧zaD w af fs.length fs:=by
 obtain ⟨ai,ci,rfl,hic,hit⟩:=zfu hoi
 obtain ⟨af,cf,rfl,hfc,hif⟩:=hof.in
 have hl:xs.length=fs.length:=by rw [←hxs,List.length_map]
 have hcp:fs.length≤cf:=by
  rcases hof.row.2 with ⟨e,h0⟩ | ⟨g,cap,cur,e,_,_,hc,_⟩
  ·
   rw [←hl,h0];exact Nat.zero_le _
  ·
   injection e with _ _ e3
   rw [e3,←hl];exact hc
 rw [hxs,hl] at hif
 exact ⟨ai,ci,af,cf,rfl,by rw [hl],hic,⟨hfc,hcp⟩,hit,hif⟩
end Go.Proofs.YtdbljnddkbpanaaGreatDoor
