/-
  Parts of one proof, one behind the other: Draw7, Draw7A, Draw7C, Draw7B.
-/
import Derived.Test.YtponeoijfaepnaaGreatDoorP19
namespace Go.Proofs.YtponeoijfaepnaaGreatDoor
open Go.RowKit
set_option maxHeartbeats 8000000
set_option maxRecDepth 100000
theorem zaU.grown {w w':World} {base:Nat} {v:Value} {xs:List FV} {row:Option Nat} (h:zaU w base v xs) (hg:w.grownBy w' row) (hr:∀ k,row=some k→k<base):zaU w' base v xs:=by
 have off:∀ {e size n:Nat} {u:Value} {ys:List Value},w.ownsRow base e size u n ys→u.ownBlock=Option.none∨u.ownBlock≠row:=fun {e size n u ys} ho=>by
  cases hu:u.ownBlock with
  | none=>exact Or.inl rfl
  | some k=>exact Or.inr (fun e2=>by have:=(ho.lt k hu).1;have:=hr k e2.symm;omega)
 exact ⟨h.row.kept hg (off h.row),fun x hx=>(h.trees x hx).kept hg (off (h.trees x hx))⟩
theorem zck {w w':World} {base e size n:Nat} {u:Value} {ys:List Value} {row:Option Nat} (h:w.ownsRow base e size u n ys) (hg:w.grownBy w' row) (hr:∀ k,row=some k→k<base):w'.ownsRow base e size u n ys:=h.kept hg (by
 cases hu:u.ownBlock with
 | none=>exact Or.inl rfl
 | some k=>exact Or.inr (fun e2=>by have:=(h.lt k hu).1;have:=hr k e2.symm;omega))
theorem push_fn (X:World) (base:Nat) (v:Value) (xs:List FV) (y:FV) (h:zaU X base v xs) (hy:X.ownsRow base 104 4 (fvT y) y.1.2.2.length (zah y.1.2.2)) (hb:base≤X.heap.size) (hn:xs.length≤1048576) :
 ∃ g' c' Y,(Builtin.append_ #[97,97] 97 #[v,.slice (some ⟨X.heap.size,0,none⟩) 1 1]).run Tryz.prog (X.alloc (.cells #[.string ⟨y.1.1.toArray⟩,.int .i64 y.1.2.1,fvT y] 107))=.ok (.slice (some ⟨g',0,none⟩) (xs.length+1) c') Y ∧
  zaU Y base (.slice (some ⟨g',0,none⟩) (xs++[y]).length c') (xs++[y])∧X.grownBy Y v.ownBlock:=by
 obtain ⟨i0,hi,hz0,hz1,hz2⟩:=info_parts infoFunc;have hX1:Below X.heap.size X (X.alloc (.cells #[.string ⟨y.1.1.toArray⟩,.int .i64 y.1.2.1,fvT y] 107)):=(Below.refl _ _).alloc (Nat.le_refl _) _;have h1:=h.below hX1;have hy1:=za5 hy hX1;obtain ⟨v',Y,hrun,hown,hg,_⟩:=zar (P:=Tryz.prog) (X.alloc (.cells #[.string ⟨y.1.1.toArray⟩,.int .i64 y.1.2.1,fvT y] 107)) base 97 97 107 i0 _ 3 48 Tryz.underlying97 hi hz0 hz1 hz2 rfl (by decide) _ _ _ h1.row _ 1 (fnsV [y]) (new_fn X y 1) (by unfold maxLen;omega) (by omega) (by simp;omega);obtain ⟨g',c',rfl⟩:=zaw hown (by omega);have e1:(xs++[y]).length=xs.length+1:=by simp
 have hown2:Y.ownsRow base 107 3 (.slice (some ⟨g',0,none⟩) (xs++[y]).length c') (xs++[y]).length (fnsV (xs++[y])):=by rw [e1,zln];exact hown
 have htr:∀ z∈xs++[y],Y.ownsRow base 104 4 (fvT z) z.1.2.2.length (zah z.1.2.2):=fun z hz=>by
  rw [List.mem_append,List.mem_singleton] at hz;rcases hz with hz | rfl
  ·exact (h1.trees z hz).kept hg (zam (h1.trees z hz) h1.row (by decide))
  ·exact hy1.kept hg (zam hy1 h1.row (by decide))
 exact ⟨g',c',Y,hrun,⟨hown2,htr⟩,(World.grownBy_alloc X _ _).trans hg⟩
structure DrSt (X w:World) (B:Nat) (a:Option Addr) (len cap:Nat) (R P:Nat) (nm:List UInt8) (vi:Value) (fa:Option Addr) (fc:Nat) (xs:List FV) (vo:Value) (ns:List Nd):Prop where
 p:Box3 X P (.string ⟨nm.toArray⟩) vi (.slice fa xs.length fc)
 pf:∀ j,X.frozen? ⟨P,j,none⟩=false
 r:Box3 X R (.string ⟨#[]⟩) (.slice none 0 0) (.slice none 0 0)
 rf:∀ j,X.frozen? ⟨R,j,none⟩=false
 fo:zaU X (P+1) (.slice fa xs.length fc) xs
 ow:X.ownsRow (P+1) 104 4 vo ns.length (zah ns)
 cur:Cur X B a len cap
 g:w.grownBy X (some B)
 br:B<R
 rp:R<P
 wr:w.heap.size=R
 ap:∀ x∈xs,(fvT x).ownBlock=none∨(fvT x).ownBlock≠vo.ownBlock
section
variable {X Y w:World} {B:Nat} {a:Option Addr} {len cap R P:Nat} {nm:List UInt8} {vi:Value} {fa:Option Addr} {fc:Nat} {xs:List FV} {vo:Value} {ns:List Nd}
theorem DrSt.next (h:DrSt X w B a len cap R P nm vi fa fc xs vo ns) (hg:X.grownBy Y (some B)) (hc:Cur Y B a len cap):DrSt Y w B a len cap R P nm vi fa fc xs vo ns :=
 have hp:some P≠some B:=fun e=>by injection e with e;have:=h.br;have:=h.rp;omega
 have hr:some R≠some B:=fun e=>by injection e with e;have:=h.br;omega
 have hlt:∀ k,some B=some k→k<P+1:=fun k e=>by injection e with e;have:=h.br;have:=h.rp;omega
 ⟨h.p.grown hg hp,fun j=>(World.frozen?_of_block (a:=⟨P,j,none⟩) (hg.block P h.p.lt hp)).trans (h.pf j),h.r.grown hg hr,fun j=>(World.frozen?_of_block (a:=⟨R,j,none⟩) (hg.block R h.r.lt hr)).trans (h.rf j),
  h.fo.grown hg hlt,zck h.ow hg hlt,hc,h.g.trans hg,h.br,h.rp,h.wr,h.ap⟩
theorem DrSt.made (h:DrSt X w B a len cap R P nm vi fa fc xs vo ns) (hg:X.grownBy Y none):DrSt Y w B a len cap R P nm vi fa fc xs vo ns :=
 h.next ⟨hg.os,hg.tape,hg.output,hg.size,fun k hk _=>hg.block k hk (by simp)⟩ (h.cur.kept hg (by simp))
theorem DrSt.alloc (h:DrSt X w B a len cap R P nm vi fa fc xs vo ns) (o:Obj):DrSt (X.alloc o) w B a len cap R P nm vi fa fc xs vo ns:=h.made (World.grownBy_alloc X o none)
theorem DrSt.drew (h:DrSt X w B a len cap R P nm vi fa fc xs vo ns):DrSt X.drew w B a len cap R P nm vi fa fc xs vo ns:=h.made (zap X none)
theorem DrSt.side (h:DrSt X w B a len cap R P nm vi fa fc xs vo ns) {k:Nat} (hg:X.grownBy Y (some k)) (hk:P<k) (hf:∀ q,(Value.slice fa xs.length fc).ownBlock=some q→q≠k) (ht:∀ x∈xs,∀ q,(fvT x).ownBlock=some q→q≠k) (ho:∀ q,vo.ownBlock=some q→q≠k):DrSt Y w B a len cap R P nm vi fa fc xs vo ns:=by
 have hB:=h.br;have hR:=h.rp;have hW:=h.wr;have hp:some P≠some k:=fun e=>by injection e with e;omega
 have hr:some R≠some k:=fun e=>by injection e with e;omega
 have off:∀ {u:Value},(∀ q,u.ownBlock=some q→q≠k)→u.ownBlock=none∨u.ownBlock≠some k:=fun {u} hu=>by
  cases hv:u.ownBlock with
  | none=>exact Or.inl rfl
  | some q=>exact Or.inr (fun e=>by injection e with e;exact hu q hv e)
 refine ⟨h.p.grown hg hp,fun j=>(World.frozen?_of_block (a:=⟨P,j,none⟩) (hg.block P h.p.lt hp)).trans (h.pf j),h.r.grown hg hr,fun j=>(World.frozen?_of_block (a:=⟨R,j,none⟩) (hg.block R h.r.lt hr)).trans (h.rf j),
  h.fo.kept hg (off hf) (fun x hx=>off (ht x hx)),h.ow.kept hg (off ho),h.cur.kept hg (fun q e=>by injection e with e;omega),?_,h.br,h.rp,h.wr,h.ap⟩
 exact ⟨hg.os.trans h.g.os,hg.tape.trans h.g.tape,hg.output.trans h.g.output,Nat.le_trans h.g.size hg.size,fun q hq hn=>(hg.block q (Nat.lt_of_lt_of_le hq h.g.size) (fun e=>by injection e with e;omega)).trans (h.g.block q hq hn)⟩
end
theorem zfC {V:World} {a b c:Value} {t:TypeId}:Box3 (V.alloc (.cells #[a,b,c] t)) V.heap.size a b c∧∀ j,(V.alloc (.cells #[a,b,c] t)).frozen? ⟨V.heap.size,j,none⟩=false :=
 ⟨(Box3.new V a b c t).1,fun j=>Go.Joins.unfrozen_of_block (heap_alloc_new V (.cells #[a,b,c] t)) j⟩
theorem zmh {V Y:World} {B k:Nat} {a b c:Value} (h:Box3 V k a b c∧∀ j,V.frozen? ⟨k,j,none⟩=false) (hg:V.grownBy Y (some B)) (hk:k≠B):Box3 Y k a b c∧∀ j,Y.frozen? ⟨k,j,none⟩=false :=
 have hn:some k≠some B:=fun e=>by injection e with e;exact hk e
 ⟨h.1.grown hg hn,fun j=>(World.frozen?_of_block (a:=⟨k,j,none⟩) (hg.block k h.1.lt hn)).trans (h.2 j)⟩
theorem zlr {V Y:World} {B:Nat} {a b c:Value} {t:TypeId} (hg:(V.alloc (.cells #[a,b,c] t)).drew.grownBy Y (some B)) (hB:B<V.heap.size):Box3 Y V.heap.size a b c∧∀ j,Y.frozen? ⟨V.heap.size,j,none⟩=false :=
 zmh (V:=(V.alloc (.cells #[a,b,c] t)).drew) ⟨zfC.1.drew,zfC.2⟩ hg (by omega)
theorem box_up2 {V Y:World} {B:Nat} {o:Obj} {a b c:Value} {t:TypeId} (hg:((V.alloc o).alloc (.cells #[a,b,c] t)).drew.grownBy Y (some B)) (hB:B<V.heap.size):Box3 Y (V.heap.size+1) a b c∧∀ j,Y.frozen? ⟨V.heap.size+1,j,none⟩=false:=by
 have h:=zlr (V:=V.alloc o) hg (by simp;omega);rw [World.size_alloc] at h;exact h
theorem box_up3 {V Y:World} {B:Nat} {o:Obj} {a b c:Value} {t:TypeId} (hg:((V.alloc (.cells #[a,b,c] t)).alloc o).drew.grownBy Y (some B)) (hB:B<V.heap.size):Box3 Y V.heap.size a b c∧∀ j,Y.frozen? ⟨V.heap.size,j,none⟩=false:=by
 have hb:Below (V.alloc (.cells #[a,b,c] t)).heap.size (V.alloc (.cells #[a,b,c] t)) ((V.alloc (.cells #[a,b,c] t)).alloc o):=(Below.refl _ _).alloc (Nat.le_refl _) _;have h:=zfC (V:=V) (a:=a) (b:=b) (c:=c) (t:=t);exact zmh (V:=((V.alloc (.cells #[a,b,c] t)).alloc o).drew) ⟨(h.1.below hb).drew,fun j=>(hb.frozen (p:=⟨V.heap.size,j,none⟩) (by simp)).trans (h.2 j)⟩ hg (by omega)
theorem zpf {V:World} {k:Nat} {a b c:Value} (a' b' c':Value) (h:Box3 V k a b c∧∀ j,V.frozen? ⟨k,j,none⟩=false) :
 (Box3 (((V.setCell ⟨k,0,none⟩ a').setCell ⟨k,1,none⟩ b').setCell ⟨k,2,none⟩ c') k a' b' c'∧∀ j,(((V.setCell ⟨k,0,none⟩ a').setCell ⟨k,1,none⟩ b').setCell ⟨k,2,none⟩ c').frozen? ⟨k,j,none⟩=false)∧V.grownBy (((V.setCell ⟨k,0,none⟩ a').setCell ⟨k,1,none⟩ b').setCell ⟨k,2,none⟩ c') (some k):=by
 obtain ⟨Y,hY,y0,y1,y2,hg⟩:=set3 a' b' c' h.1.c0 h.1.c1 h.1.c2;rw [hY];refine ⟨⟨⟨y0,y1,y2⟩,fun j=>?_⟩,hg⟩;rw [←hY];exact (World.frozen?_setCell ..).trans ((World.frozen?_setCell ..).trans ((World.frozen?_setCell ..).trans (h.2 j)))
theorem ze7 {w:World} {k j:Nat} (o:Obj) (hk:k<w.heap.size) (h:w.frozen? ⟨k,j,none⟩=false):(w.alloc o).frozen? ⟨k,j,none⟩=false :=
 (World.frozen?_of_block (a:=⟨k,j,none⟩) (Below.heap_alloc w o k hk)).trans h
section
variable {V X Y w:World} {B:Nat} {a:Option Addr} {len cap R P:Nat} {nm:List UInt8} {vi:Value} {fa:Option Addr} {fc:Nat} {xs:List FV} {vo:Value} {ns:List Nd}
def Dr12 (V w:World) (B:Nat) (a:Option Addr) (len cap R P:Nat) (nm:List UInt8) (vi:Value) (fa:Option Addr) (fc:Nat) (xs:List FV) (vo:Value) (ns:List Nd) (v:Value) (wx:World):Prop :=
 ∃ (F:Nat) (y:Int) (fn:List UInt8),v=.pointer (some ⟨F,0,none⟩)∧(0≤y∧y≤3)∧fn.length≤9∧V.heap.size≤F∧DrSt wx w B a len cap R P nm vi fa fc xs vo ns∧(Box3 wx F (.string ⟨fn.toArray⟩) (.int .i64 y) (.slice none 0 0)∧∀ j,wx.frozen? ⟨F,j,none⟩=false)
theorem zp5 (st:DrSt V w B a len cap R P nm vi fa fc xs vo ns) (h:DrSt X w B a len cap R P nm vi fa fc xs vo ns) {F:Nat} (hF:V.heap.size≤F) (hg:X.grownBy Y (some F)):DrSt Y w B a len cap R P nm vi fa fc xs vo ns:=by
 have hp:=st.p.lt;exact h.side hg (by omega) (fun q e=>by have:=(st.fo.row.lt q e).2;omega) (fun x hx q e=>by have:=((st.fo.trees x hx).lt q e).2;omega) (fun q e=>by have:=(st.ow.lt q e).2;omega)
theorem zp4 (st:DrSt V w B a len cap R P nm vi fa fc xs vo ns) (h:DrSt X w B a len cap R P nm vi fa fc xs vo ns) {F:Nat} (hF:V.heap.size≤F) {z0 z1 z2:Value} (hb:Box3 X F z0 z1 z2∧∀ j,X.frozen? ⟨F,j,none⟩=false) (fn:List UInt8) (hfn:fn.length≤9) {y:Int} (hy0:0≤y) (hy1:y≤3) :
 Dr12 V w B a len cap R P nm vi fa fc xs vo ns (.pointer (some ⟨F,0,none⟩)) (((X.setCell ⟨F,0,none⟩ (.string ⟨fn.toArray⟩)).setCell ⟨F,1,none⟩ (.int .i64 y)).setCell ⟨F,2,none⟩ (.slice none 0 0)):=by
 obtain ⟨hb2,hg⟩:=zpf (.string ⟨fn.toArray⟩) (.int .i64 y) (.slice none 0 0) hb;exact ⟨F,y,fn,rfl,⟨hy0,hy1⟩,hfn,hF,zp5 st h hF hg,hb2⟩
theorem dr_new (h:DrSt X w B a len cap R P nm vi fa fc xs vo ns) (hF:V.heap.size≤X.heap.size) (fn:List UInt8) (hfn:fn.length≤9) {y:Int} (hy0:0≤y) (hy1:y≤3) :
 Dr12 V w B a len cap R P nm vi fa fc xs vo ns (.pointer (some ⟨X.heap.size,0,none⟩)) (X.alloc (.cells #[.string ⟨fn.toArray⟩,.int .i64 y,.slice none 0 0] 107)) :=
 ⟨X.heap.size,y,fn,rfl,⟨hy0,hy1⟩,hfn,hF,h.alloc _,zfC⟩
theorem dr_new2 (h:DrSt X w B a len cap R P nm vi fa fc xs vo ns) (hF:V.heap.size≤X.heap.size) (fn:List UInt8) (hfn:fn.length≤9) {y:Int} (hy0:0≤y) (hy1:y≤3) (o:Obj) :
 Dr12 V w B a len cap R P nm vi fa fc xs vo ns (.pointer (some ⟨X.heap.size+1,0,none⟩)) ((X.alloc o).alloc (.cells #[.string ⟨fn.toArray⟩,.int .i64 y,.slice none 0 0] 107)):=by
 have h2:=dr_new (V:=V) (h.alloc o) (by rw [World.size_alloc];omega) fn hfn hy0 hy1;rw [World.size_alloc] at h2;exact h2
theorem zpg {F:Nat} {z0 z1 z2:Value} (o:Obj) (hb:Box3 X F z0 z1 z2∧∀ j,X.frozen? ⟨F,j,none⟩=false):Box3 (X.alloc o) F z0 z1 z2∧∀ j,(X.alloc o).frozen? ⟨F,j,none⟩=false :=
 ⟨hb.1.below ((Below.refl _ _).alloc (Nat.le_refl _) o),fun j=>ze7 o hb.1.lt (hb.2 j)⟩
theorem dr_new3 (h:DrSt X w B a len cap R P nm vi fa fc xs vo ns) (hF:V.heap.size≤X.heap.size) (fn:List UInt8) (hfn:fn.length≤9) {y:Int} (hy0:0≤y) (hy1:y≤3) (o:Obj) :
 Dr12 V w B a len cap R P nm vi fa fc xs vo ns (.pointer (some ⟨X.heap.size,0,none⟩)) ((X.alloc (.cells #[.string ⟨fn.toArray⟩,.int .i64 y,.slice none 0 0] 107)).alloc o) :=
 ⟨X.heap.size,y,fn,rfl,⟨hy0,hy1⟩,hfn,hF,(h.alloc _).alloc o,zpg o zfC⟩
theorem dr_set1 (st:DrSt V w B a len cap R P nm vi fa fc xs vo ns) (h:DrSt X w B a len cap R P nm vi fa fc xs vo ns) {F:Nat} (hF:V.heap.size≤F) {z0 z1 z2:Value} (hb:Box3 X F z0 z1 z2∧∀ j,X.frozen? ⟨F,j,none⟩=false) (fn:List UInt8) (hfn:fn.length≤9) {y:Int} (hy0:0≤y) (hy1:y≤3) (o:Obj) :
 Dr12 V w B a len cap R P nm vi fa fc xs vo ns (.pointer (some ⟨F,0,none⟩)) ((((X.alloc o).setCell ⟨F,0,none⟩ (.string ⟨fn.toArray⟩)).setCell ⟨F,1,none⟩ (.int .i64 y)).setCell ⟨F,2,none⟩ (.slice none 0 0)) :=
 zp4 st (h.alloc o) hF (zpg o hb) fn hfn hy0 hy1
theorem sz0 {row:Option Nat} (h:V.drew.grownBy Y row):V.heap.size≤Y.heap.size:=h.size
theorem sz1 {row:Option Nat} {o:Obj} (h:(V.alloc o).drew.grownBy Y row):V.heap.size≤Y.heap.size:=by
 have h1:(V.alloc o).heap.size≤Y.heap.size:=h.size;rw [World.size_alloc] at h1;omega
theorem sz2 {row:Option Nat} {o o':Obj} (h:((V.alloc o).alloc o').drew.grownBy Y row):V.heap.size≤Y.heap.size:=by
 have h1:((V.alloc o).alloc o').heap.size≤Y.heap.size:=h.size;rw [World.size_alloc,World.size_alloc] at h1;omega
end
section
variable {V X Y w:World} {B:Nat} {a:Option Addr} {len cap R P:Nat} {nm:List UInt8} {vi:Value} {fa:Option Addr} {fc:Nat} {xs:List FV} {vo:Value} {ns:List Nd}
theorem DrSt.row_ne (h:DrSt X w B a len cap R P nm vi fa fc xs vo ns) {k:Nat} (hk:k≤P):some k≠(Value.slice fa xs.length fc).ownBlock:=fun e=>by have:=(h.fo.row.lt k e.symm).1;omega
theorem dr_fn (h:DrSt X w B a len cap R P nm vi fa fc xs vo ns) (y:FV) (hy:X.ownsRow (P+1) 104 4 (fvT y) y.1.2.2.length (zah y.1.2.2)) (hap:(fvT y).ownBlock=none∨(fvT y).ownBlock≠vo.ownBlock) (hn:xs.length≤1048576) :
 ∃ g' c' Y,(Builtin.append_ #[97,97] 97 #[.slice fa xs.length fc,.slice (some ⟨X.heap.size,0,none⟩) 1 1]).run Tryz.prog (X.alloc (.cells #[.string ⟨y.1.1.toArray⟩,.int .i64 y.1.2.1,fvT y] 107))=.ok (.slice (some ⟨g',0,none⟩) (xs.length+1) c') Y ∧
  Y.cell? ⟨P,2,none⟩=some (.slice fa xs.length fc)∧Y.frozen? ⟨P,2,none⟩=false ∧
  DrSt (Y.setCell ⟨P,2,none⟩ (.slice (some ⟨g',0,none⟩) (xs.length+1) c')) w B a len cap R P nm vi (some ⟨g',0,none⟩) c' (xs++[y]) vo ns ∧
  (∀ k,k<X.heap.size→k≠P→some k≠(Value.slice fa xs.length fc).ownBlock→(Y.setCell ⟨P,2,none⟩ (.slice (some ⟨g',0,none⟩) (xs.length+1) c')).heap[k]?=X.heap[k]?):=by
 have hpl:=h.p.lt;obtain ⟨g',c',Y,hrun,hfo,hg⟩:=push_fn X (P+1) (.slice fa xs.length fc) xs y h.fo hy (by omega) hn;have hrp:=h.rp;have hbr:=h.br;have hnP:=h.row_ne (k:=P) (by omega);have hnR:=h.row_ne (k:=R) (by omega);have e1:(xs++[y]).length=xs.length+1:=by simp
 have hp:=h.p.grown hg hnP;have hpf:∀ j,Y.frozen? ⟨P,j,none⟩=false:=fun j=>(World.frozen?_of_block (a:=⟨P,j,none⟩) (hg.block P hpl hnP)).trans (h.pf j)
 have hr:=h.r.grown hg hnR;have hrf:∀ j,Y.frozen? ⟨R,j,none⟩=false:=fun j=>(World.frozen?_of_block (a:=⟨R,j,none⟩) (hg.block R h.r.lt hnR)).trans (h.rf j)
 have how:=h.ow.kept hg (zam h.ow h.fo.row (by decide));have hcur:=h.cur.kept hg (fun k e=>by have:=(h.fo.row.lt k e).1;omega)
 have hgw:w.grownBy Y (some B):=by have hw:=h.g;have hwr:=h.wr;exact ⟨hg.os.trans hw.os,hg.tape.trans hw.tape,hg.output.trans hw.output,Nat.le_trans hw.size hg.size,fun q hq hn=>(hg.block q (Nat.lt_of_lt_of_le hq hw.size) (h.row_ne (by omega))).trans (hw.block q hq hn)⟩
 have hs:=zau Y P 2 (.slice (some ⟨g',0,none⟩) (xs.length+1) c');have hRP:some R≠some P:=fun e=>by injection e with e;omega
 have hlt:∀ k,some P=some k→k<P+1:=fun k e=>by injection e with e;omega
 refine ⟨g',c',Y,hrun,hp.c2,hpf 2,?_,?_⟩
 ·
  refine ⟨⟨(World.cell?_setCell_other _ _ _ _ (by simp)).trans hp.c0,(World.cell?_setCell_other _ _ _ _ (by simp)).trans hp.c1,?_⟩,fun j=>(World.frozen?_setCell ..).trans (hpf j),hr.grown hs hRP,fun j=>(World.frozen?_setCell ..).trans (hrf j),hfo.grown hs hlt,zck how hs hlt,hcur.kept hs (fun k e=>by injection e with e;omega),?_,h.br,h.rp,h.wr,?_⟩
  ·rw [e1];exact World.cell?_setCell_same _ _ _ hp.c2
  ·have hwr:=h.wr;exact ⟨hs.os.trans hgw.os,hs.tape.trans hgw.tape,hs.output.trans hgw.output,Nat.le_trans hgw.size hs.size,fun q hq hn=>(hs.block q (Nat.lt_of_lt_of_le hq hgw.size) (fun e=>by injection e with e;omega)).trans (hgw.block q hq hn)⟩
  ·
   intro x hx;rw [List.mem_append,List.mem_singleton] at hx;rcases hx with hx | rfl
   ·exact h.ap x hx
   ·exact hap
 ·intro k hk hkP hkr;exact (hs.block k (Nat.lt_of_lt_of_le hk hg.size) (fun e=>by injection e with e;exact hkP e)).trans (hg.block k hk hkr)
theorem dr_own (h:DrSt X w B a len cap R P nm vi fa fc xs vo ns) (n:Nd) (hn:ns.length≤1048576) :
 ∃ v' Y,(Builtin.append_ #[102,102] 102 #[vo,.slice (some ⟨X.heap.size,0,none⟩) 1 1]).run Tryz.prog (X.alloc (.cells #[.int .i64 n.1,.int .i64 n.2.1,.string ⟨n.2.2.1.toArray⟩,.string ⟨n.2.2.2.toArray⟩] 104))=.ok v' Y ∧
  DrSt Y w B a len cap R P nm vi fa fc xs v' (ns++[n]):=by
 obtain ⟨i0,hi,hz0,hz1,hz2⟩:=info_parts ze5;obtain ⟨W,hW⟩:∃ W,X.alloc (.cells #[.int .i64 n.1,.int .i64 n.2.1,.string ⟨n.2.2.1.toArray⟩,.string ⟨n.2.2.2.toArray⟩] 104)=W:=⟨_,rfl⟩
 have h1:DrSt W w B a len cap R P nm vi fa fc xs vo ns:=by rw [←hW];exact h.alloc _
 have hnew:=zin X n;rw [hW] at hnew ⊢;have hpl:=h1.p.lt;have hrp:=h.rp;have hbr:=h.br;obtain ⟨v',Y,hrun,hown,hg,_,hat⟩:=run_append_own_at (P:=Tryz.prog) W (P+1) 102 102 104 i0 _ 4 48 Tryz.underlying102 hi hz0 hz1 hz2 rfl (by decide) _ _ _ h1.ow ⟨X.heap.size,0,none⟩ 1 1 (zah [n]) (by rw [zbX];rfl) hnew (zcE _) (by unfold maxLen;omega) (by omega) (by omega);have hne:∀ {k:Nat},k≤P→some k≠vo.ownBlock:=fun {k} hk e=>by have:=(h1.ow.lt k e.symm).1;omega
 have e1:(ns++[n]).length=ns.length+1:=by simp
 have hown2:Y.ownsRow (P+1) 104 4 v' (ns++[n]).length (zah (ns++[n])):=by rw [e1,zc3];exact hown
 refine ⟨v',Y,hrun,⟨h1.p.grown hg (hne (Nat.le_refl _)),fun j=>(World.frozen?_of_block (a:=⟨P,j,none⟩) (hg.block P h1.p.lt (hne (Nat.le_refl _)))).trans (h1.pf j),h1.r.grown hg (hne (by omega)),fun j=>(World.frozen?_of_block (a:=⟨R,j,none⟩) (hg.block R h1.r.lt (hne (by omega)))).trans (h1.rf j),
  h1.fo.kept hg (zam h1.fo.row h1.ow (by decide)) h1.ap,hown2,h1.cur.kept hg (fun k e=>by have:=(h1.ow.lt k e).1;omega),?_,h.br,h.rp,h.wr,?_⟩⟩
 ·have hw:=h1.g;have hwr:=h.wr;exact ⟨hg.os.trans hw.os,hg.tape.trans hw.tape,hg.output.trans hw.output,Nat.le_trans hw.size hg.size,fun q hq hn=>(hg.block q (Nat.lt_of_lt_of_le hq hw.size) (hne (by omega))).trans (hw.block q hq hn)⟩
 ·
  intro x hx;rcases hat with e | e
  ·rw [e];exact h1.ap x hx
  ·
   rw [e];cases hv:(fvT x).ownBlock with
   | none=>exact Or.inl rfl
   | some k=>exact Or.inr (fun e2=>by injection e2 with e2;have:=((h1.fo.trees x hx).lt k hv).2;omega)
theorem zkk (a b c:List UInt8) (k:Nat) (hk:k<3) (ha:a.length≤9) (hb:b.length≤9) (hc:c.length≤9):∃ fn:List UInt8,fn.length≤9∧∀ h,([Value.string ⟨a.toArray⟩,Value.string ⟨b.toArray⟩,Value.string ⟨c.toArray⟩]:List Value)[k]'h=Value.string ⟨fn.toArray⟩:=by
 rcases (show k=0∨k=1∨k=2 by omega) with rfl | rfl | rfl
 ·exact ⟨a,ha,fun _=>rfl⟩
 ·exact ⟨b,hb,fun _=>rfl⟩
 ·exact ⟨c,hc,fun _=>rfl⟩
theorem zgZ {Z:World} {k j:Nat} {a b c fn:List UInt8} (hb:Box3 Z k (.string ⟨a.toArray⟩) (.string ⟨b.toArray⟩) (.string ⟨c.toArray⟩)) (hj:j<3) (hget:∀ h,([Value.string ⟨a.toArray⟩,Value.string ⟨b.toArray⟩,Value.string ⟨c.toArray⟩]:List Value)[j]'h=Value.string ⟨fn.toArray⟩):Z.cell? ⟨k,j,none⟩=some (.string ⟨fn.toArray⟩):=by
 have hg:=hget hj;rcases (show j=0∨j=1∨j=2 by omega) with rfl | rfl | rfl
 ·rw [←hg];exact hb.c0
 ·rw [←hg];exact hb.c1
 ·rw [←hg];exact hb.c2
theorem zp6 {y:Int} (hy0:0≤y) (hy1:y≤3) {n f:List UInt8} (hn:n.length≤9) (hf:f.length≤9):zc9 ((8,y,n,f):Nd)∧zbu ((8,y,n,f):Nd)≤3:=by
 refine ⟨⟨?_,hn,hf⟩,?_⟩
 ·unfold IntN;simp only;omega
 ·unfold zbu;simp only;simp;omega
theorem kid_at {ns:List Nd} (h:∀ n∈ns,zbu n≤3) (j:Nat):zbu (ns.getD j nd0)≤3:=by
 rw [List.getD_eq_getElem?_getD];cases hj:ns[j]? with
 | none=>simp only [Option.getD_none];decide
 | some n=>exact h n (List.mem_of_getElem? hj)
theorem dr_tree (st:DrSt V w B a len cap R P nm vi fa fc xs vo ns) (h:DrSt X w B a len cap R P nm vi fa fc xs vo ns) {F:Nat} (hF:V.heap.size≤F) {z0 z1 z2:Value} (hb:Box3 X F z0 z1 z2∧∀ j,X.frozen? ⟨F,j,none⟩=false) {y:Int} (hy0:0≤y) (hy1:y≤3) (hns:ns.length≤1000) (hsm:zbp ns) (hkd:∀ n∈ns,zbu n≤3) :
 Calls Tryz.prog 106 #[.pointer (some ⟨B,0,none⟩),.int .i64 y,vo] X fun e w'=>∃ (ta:Option Addr) (tc:Nat) (t:List Nd),e=.returned (.slice ta t.length tc)∧(t.length≤60∧zbp t∧zch t=true)∧DrSt w' w B a len cap R P nm vi fa fc xs vo ns∧(Box3 w' F z0 z1 z2∧∀ j,w'.frozen? ⟨F,j,none⟩=false) ∧
  w'.ownsRow (P+1) 104 4 (.slice ta t.length tc) t.length (zah t)∧((Value.slice ta t.length tc).ownBlock=none∨(Value.slice ta t.length tc).ownBlock≠vo.ownBlock)∧(∀ q,(Value.slice ta t.length tc).ownBlock=some q→q≠F):=by
 obtain ⟨hl,ca,cc,rfl,hin⟩:=zcj h.ow;have hpl:=h.p.lt;have hbr:=h.br;have hrp:=h.rp;have hbl:=st.cur.lt;refine (zhV X B a len cap y ca ns.length cc ns hy0 (by omega) h.cur hin hns (zdX hsm) (kid_at hkd) (fun b off e=>?_)).mono ?_
 ·intro e2;subst e2;have:=(h.ow.lt b (by rw [e];rfl)).1;omega
 ·
  rintro e w' ⟨v,t,rfl,hown,htr,hst,hc,hg⟩;obtain ⟨_,ta,tc,rfl,_⟩:=zcj hown;obtain ⟨⟨_,ht2⟩,_⟩:=zi7 htr;refine ⟨ta,tc,t,rfl,⟨ht2,hst,htr⟩,h.next hg hc,zmh hb hg (by omega),zaD hown (by omega),?_,fun q e=>?_⟩
  ·
   cases hv:(Value.slice ta t.length tc).ownBlock with
   | none=>exact Or.inl rfl
   | some q=>exact Or.inr (fun e2=>by have:=(hown.lt q hv).1;have:=(h.ow.lt q e2.symm).2;omega)
  ·have:=(hown.lt q e).1;have:=hb.1.lt;omega
theorem dr_store (st:DrSt V w B a len cap R P nm vi fa fc xs vo ns) (h:DrSt X w B a len cap R P nm vi fa fc xs vo ns) {F:Nat} (hF:V.heap.size≤F) {z0 z1 z2:Value} (hb:Box3 X F z0 z1 z2∧∀ j,X.frozen? ⟨F,j,none⟩=false) {u:Value} {t:List Nd} (ho:X.ownsRow (P+1) 104 4 u t.length (zah t)) (hu:∀ q,u.ownBlock=some q→q≠F) :
 DrSt (X.setCell ⟨F,2,none⟩ u) w B a len cap R P nm vi fa fc xs vo ns∧Box3 (X.setCell ⟨F,2,none⟩ u) F z0 z1 u∧(X.setCell ⟨F,2,none⟩ u).ownsRow (P+1) 104 4 u t.length (zah t):=by
 have hs:=zau X F 2 u;refine ⟨zp5 st h hF hs,⟨(World.cell?_setCell_other _ _ _ _ (by simp)).trans hb.1.c0,(World.cell?_setCell_other _ _ _ _ (by simp)).trans hb.1.c1,World.cell?_setCell_same _ _ _ hb.1.c2⟩,ho.kept hs ?_⟩;cases hv:u.ownBlock with
 | none=>exact Or.inl rfl
 | some q=>exact Or.inr (fun e=>by injection e with e;exact hu q hv e)
end
def ziT (f:Fn):Prop:=f.1.length≤9∧(-10≤f.2.1∧f.2.1≤10)∧f.2.2.length≤100∧zbp f.2.2
def zdU (xs:List FV):Prop:=∀ x∈xs,ziT x.1
def zeC (xs:List FV):Prop:=∀ x∈xs,ziT x.1∧0≤x.1.2.1∧x.1.2.1≤3∧zch x.1.2.2=true
theorem zeC.small {xs:List FV} (h:zeC xs):zdU xs:=fun x hx=>(h x hx).1
theorem drawPk (w:World) (B:Nat) (a:Option Addr) (len cap:Nat) (nm:List UInt8) (ia:Option Addr) (il ic:Nat) (ca:Option Addr) (cl cc:Nat) (calls:List Nd) (hc:Cur w B a len cap) (hnm:nm.length≤9) (hin:zay w ca cl calls) (hcc:ca=none→cc=0) (hcl:cl≤100) (hsm:zbp calls) (hkd:∀ n∈calls,zbu n≤3) :
 Calls Tryz.prog 84 #[.pointer (some ⟨B,0,none⟩),.string ⟨nm.toArray⟩,.slice ia il ic,.slice ca cl cc] w fun e w'=>∃ fa fc xs,e=.returned (.agg #[.string ⟨nm.toArray⟩,.slice ia il ic,.slice fa (xs:List FV).length fc])∧zaU w' w.heap.size (.slice fa xs.length fc) xs∧(1≤xs.length∧xs.length≤3)∧zeC xs∧Cur w' B a len cap∧w.grownBy w' (some B):=by
 obtain ⟨i0,hi,hz0,hz1,hz2⟩:=info_parts ze5;obtain ⟨W1,hW1⟩:∃ W,w.alloc (.cells #[.string ⟨#[]⟩,.slice none 0 0,.slice none 0 0] 99)=W:=⟨_,rfl⟩
 obtain ⟨bR,hb1⟩:=Box3.new w (.string ⟨#[]⟩) (.slice none 0 0) (.slice none 0 0) 99;have hAr:=heap_alloc_new w (.cells #[.string ⟨#[]⟩,.slice none 0 0,.slice none 0 0] 99);rw [hW1] at bR hb1 hAr;obtain ⟨bP,hb2⟩:=Box3.new W1 (.string ⟨nm.toArray⟩) (.slice ia il ic) (.slice none 0 0) 99;have hAp:=heap_alloc_new W1 (.cells #[.string ⟨nm.toArray⟩,.slice ia il ic,.slice none 0 0] 99);have HS1:Hid (W1.heap.size=w.heap.size+1):=by exact (by rw [←hW1];simp:W1.heap.size=w.heap.size+1)
 have hB2:Below w.heap.size w (W1.alloc (.cells #[.string ⟨nm.toArray⟩,.slice ia il ic,.slice none 0 0] 99)):=hb1.trans (hb2.mono hb1.size);have hown0:=World.ownsRow_lit (base:=W1.heap.size+1) (e:=104) (size:=4) (W1.alloc (.cells #[.string ⟨nm.toArray⟩,.slice ia il ic,.slice none 0 0] 99)) #[] 0 (by simp) (by decide) rfl;have hbA:Below (W1.alloc (.cells #[.string ⟨nm.toArray⟩,.slice ia il ic,.slice none 0 0] 99)).heap.size (W1.alloc (.cells #[.string ⟨nm.toArray⟩,.slice ia il ic,.slice none 0 0] 99)) ((W1.alloc (.cells #[.string ⟨nm.toArray⟩,.slice ia il ic,.slice none 0 0] 99)).alloc (.cells #[] 104)):=(Below.refl _ _).alloc (Nat.le_refl _) _;obtain ⟨v3,w3,hrun,hown3,hg3,_⟩:=zar (P:=Tryz.prog) ((W1.alloc (.cells #[.string ⟨nm.toArray⟩,.slice ia il ic,.slice none 0 0] 99)).alloc (.cells #[] 104)) (W1.heap.size+1) 102 102 104 i0 _ 4 48 Tryz.underlying102 hi hz0 hz1 hz2 rfl (by decide) _ _ _ hown0 (.slice ca cl cc) cl (zah calls) (((hin.below hB2).below hbA).src hcc) (by unfold maxLen;omega) (by omega) (by simp);rw [World.size_alloc] at hrun hg3
 have hown3b:w3.ownsRow (W1.heap.size+1) 104 4 v3 calls.length (zah calls):=by have h:=hown3;rw [List.nil_append,Nat.zero_add] at h;rw [hin.1];exact h
 have hg0:(W1.alloc (.cells #[.string ⟨nm.toArray⟩,.slice ia il ic,.slice none 0 0] 99)).grownBy w3 (some (W1.heap.size+1)):=(World.grownBy_alloc (W1.alloc (.cells #[.string ⟨nm.toArray⟩,.slice ia il ic,.slice none 0 0] 99)) (.cells #[] 104) (some (W1.heap.size+1))).trans hg3
 have HST:Hid (DrSt w3 w B a len cap w.heap.size W1.heap.size nm (.slice ia il ic) none 0 [] v3 calls):=by
  have hlt:=hc.lt;have hs1:=HS1.out;have hpn:some W1.heap.size≠some (W1.heap.size+1):=by simp
  have hrn:some w.heap.size≠some (W1.heap.size+1):=by simp;omega
  have hbr:=bR.below hb2;have hfp:∀ j,(W1.alloc (.cells #[.string ⟨nm.toArray⟩,.slice ia il ic,.slice none 0 0] 99)).frozen? ⟨W1.heap.size,j,none⟩=false:=fun j=>Go.Joins.unfrozen_of_block hAp j
  have hAr2:=(hb2.block w.heap.size (by omega)).trans hAr;have hfr:∀ j,(W1.alloc (.cells #[.string ⟨nm.toArray⟩,.slice ia il ic,.slice none 0 0] 99)).frozen? ⟨w.heap.size,j,none⟩=false:=fun j=>Go.Joins.unfrozen_of_block hAr2 j
  have hgw:w.grownBy w3 (some B):=by have hx:Below w.heap.size w w3:=hB2.grown hg0 (by simp;omega) (fun k e=>by injection e with e;omega);exact ⟨hx.os,hx.tape,hx.output,hx.size,fun k hk _=>hx.block k hk⟩
  exact ⟨bP.grown hg0 hpn,fun j=>(World.frozen?_of_block (a:=⟨W1.heap.size,j,none⟩) (hg0.block _ bP.lt hpn)).trans (hfp j),hbr.grown hg0 hrn,fun j=>(World.frozen?_of_block (a:=⟨w.heap.size,j,none⟩) (hg0.block _ hbr.lt hrn)).trans (hfr j),
   zaU.nil _ _,hown3b,((hc.kept (World.grownBy_alloc w _ none) (by simp)) |> fun c=>by rw [hW1] at c;exact ((c.kept (World.grownBy_alloc W1 _ none) (by simp)).kept hg0 (fun k e=>by injection e with e;omega))),hgw,hlt,by omega,rfl,fun x hx=>by cases hx⟩
 have hcl2:calls.length≤100:=by rw [hin.1];exact hcl
 clear hown3 hg3 hown0 hbA hB2 hin hAr hAp bR bP hb1 hb2 hown3b hg0 hc
 go_enter Tryz.func84,Tryz.ntmps84
 go_wp2_with (at_builtin;refine za0 rfl (.tmp 16) (.tmp 17) 102 rfl _ _ _ rfl rfl hrun ?_;clear hrun)
 obtain ⟨P,hP⟩:∃ P,W1.heap.size=P:=⟨_,rfl⟩
 obtain ⟨R,hR⟩:∃ R,w.heap.size=R:=⟨_,rfl⟩
 rw [hP,hR] at HST;have HSM:Hid (zbp calls):=hsm;have HKD:Hid (∀ n∈calls,zbu n≤3):=hkd;clear HS1 hsm hkd;refine (zad _ B a len cap 3 (by omega) (by omega) HST.out.cur).mono ?_;rintro e w4 ⟨x,rfl,hx0,hx1,hc4,hg4⟩;have HST4:Hid (DrSt w4 w B a len cap R P nm (.slice ia il ic) none 0 [] v3 calls):=HST.out.next hg4 hc4;obtain ⟨T,rfl⟩:∃ T:Nat,x=(T:Int):=Int.eq_ofNat_of_zero_le hx0
 clear HST hc4 hg4 hx0;go_wp2
 go_loopw [10,11] (fun vo n wr=>∃ (r:Nat) (fa:Option Addr) (fc:Nat) (xs:List FV) (ns:List Nd),n=.int .i64 (r:Int)∧xs.length+r=T+1∧ns.length≤100+xs.length∧Hid (DrSt wr w B a len cap R P nm (.slice ia il ic) fa fc xs vo ns)∧Hid (zeC xs)∧Hid (zbp ns)∧Hid (∀ n∈ns,zbu n≤3)) (fun _ n _=>(intOf n).toNat)
 case atStart=>exact ⟨T+1,none,0,[],calls,by go_num,by simp,by simpa using hcl2,HST4,(fun y hy=>by cases hy),HSM,HKD⟩
 case round =>
  obtain ⟨r,fa,fc,xs,ns,rfl,hxr,hnl,HD,HX,HN,HK⟩:=hrel;clear HST4 HSM HKD;by_cases hrz:r=0
  ·subst hrz;have p0:=HD.out.p.c0;have p1:=HD.out.p.c1;have p2:=HD.out.p.c2;have r0:=HD.out.r.c0;have r1:=HD.out.r.c1;have r2:=HD.out.r.c2;have f0:=HD.out.rf 0;have f1:=HD.out.rf 1;have f2:=HD.out.rf 2;go_wp2;obtain ⟨Y,hY,y0,y1,y2,hg⟩:=set3 (.string ⟨nm.toArray⟩) (.slice ia il ic) (.slice fa xs.length fc) r0 r1 r2;rw [hY];refine bodyPost_ret (v:=.agg #[.string ⟨nm.toArray⟩,.slice ia il ic,.slice fa xs.length fc]) (by simp [results,Tryz.results84,go_sem,y0,y1,y2]) rfl ?_;have hst:=HD.out;have hRP:=hst.rp;have hBR:=hst.br;have hwr:=hst.wr;refine ⟨fa,fc,xs,rfl,(hst.fo.grown hg (fun k e=>by injection e with e;omega)).base (by omega),by omega,HX.out,hst.cur.kept hg (fun k e=>by injection e with e;omega),?_⟩;have hgw:=hst.g;exact ⟨hg.os.trans hgw.os,hg.tape.trans hgw.tape,hg.output.trans hgw.output,Nat.le_trans hgw.size hg.size,fun q hq hn=>(hg.block q (Nat.lt_of_lt_of_le hq hgw.size) (fun e=>by injection e with e;omega)).trans (hgw.block q hq hn)⟩
  ·
   obtain ⟨r',rfl⟩:∃ r',r=r'+1:=⟨r-1,by omega⟩
   have hr1:(0:Int)<((r'+1:Nat):Int):=by omega
   have st:=HD.out;have p0:=st.p.c0;have p1:=st.p.c1;have p2:=st.p.c2;have hcur:=st.cur;have hxl:(xs.length:Int)<3:=by omega
   have hxl2:xs.length<3:=by omega
   clear hrz HD;have HST0:Hid (DrSt wr w B a len cap R P nm (.slice ia il ic) fa fc xs _ ns):=st
   go_upto_region 6 with fail
   go_cut [12] from 22 to 62 (fun v wx=>Hid (Dr12 wr w B a len cap R P nm (.slice ia il ic) fa fc xs u10 ns v wx))
   case first =>
    have hBw:B<wr.heap.size:=st.cur.lt;have a1:wr.drew.cell? ⟨P,2,none⟩=some (.slice fa xs.length fc):=st.drew.p.c2;have a2:∀ o,(wr.alloc o).cell? ⟨P,2,none⟩=some (.slice fa xs.length fc):=fun o=>(st.alloc o).p.c2
    have a3:∀ o o',((wr.alloc o).alloc o').cell? ⟨P,2,none⟩=some (.slice fa xs.length fc):=fun o o'=>((st.alloc o).alloc o').p.c2
    obtain ⟨fn,hfn,hget⟩:=zkk [102] [103] [104] xs.length hxl2 (by decide) (by decide) (by decide);clear hi hz0 hz1 hz2 hW1 hnl HX HN HK p0 p1 hcur HST0 hnm hcc hcl hcl2 hxr hr1 hx1 hP hR
    go_region_with (go_at_call 30;refine (zad _ B a len cap 4 (by omega) (by omega) (by first | exact st.cur | exact st.drew.cur | exact (st.alloc _).cur | exact (st.alloc _).drew.cur | exact ((st.alloc _).alloc _).cur | exact ((st.alloc _).alloc _).drew.cur)).mono ?_;rintro e w5 ⟨y,rfl,hy0,hy1,hc5,hg5⟩;have st5:DrSt w5 w B a len cap R P nm (.slice ia il ic) fa fc xs u10 ns:=(by first | exact st.next hg5 hc5 | exact st.drew.next hg5 hc5 | exact (st.alloc _).next hg5 hc5 | exact (st.alloc _).drew.next hg5 hc5 | exact ((st.alloc _).alloc _).next hg5 hc5 | exact ((st.alloc _).alloc _).drew.next hg5 hc5);have q2:=st5.p.c2;have q3:∀ o,(w5.alloc o).cell? ⟨P,2,none⟩=some (.slice fa xs.length fc):=(fun o=>(st5.alloc o).p.c2);have q4:∀ o o',((w5.alloc o).alloc o').cell? ⟨P,2,none⟩=some (.slice fa xs.length fc):=(fun o o'=>((st5.alloc o).alloc o').p.c2);(first | (have H2:=box_up2 (V:=wr) hg5 hBw;have H3:=box_up3 (V:=wr) hg5 hBw;obtain ⟨bx2,bf2⟩:=H2;obtain ⟨bx3,bf3⟩:=H3;have n20:=bx2.c0;have n21:=bx2.c1;have n22:=bx2.c2;have m20:=(fun o=>zbU o n20);have m21:=(fun o=>zbU o n21);have m22:=(fun o=>zbU o n22);have fz2:∀ o j,(w5.alloc o).frozen? ⟨wr.heap.size+1,j,none⟩=false:=(fun o j=>ze7 o bx2.lt (bf2 j));have n30:=bx3.c0;have n31:=bx3.c1;have n32:=bx3.c2;have m30:=(fun o=>zbU o n30);have m31:=(fun o=>zbU o n31);have m32:=(fun o=>zbU o n32);have fz3:∀ o j,(w5.alloc o).frozen? ⟨wr.heap.size,j,none⟩=false:=(fun o j=>ze7 o bx3.lt (bf3 j));(first | (have nL:=zgZ bx2 hxl2 hget;have mL:=(fun o=>zbU o nL)) | (have nL:=zgZ bx3 hxl2 hget;have mL:=(fun o=>zbU o nL)) | skip)) | (have H1:=zlr (V:=wr) hg5 hBw;obtain ⟨bx1,bf1⟩:=H1;have n10:=bx1.c0;have n11:=bx1.c1;have n12:=bx1.c2;have m10:=(fun o=>zbU o n10);have m11:=(fun o=>zbU o n11);have m12:=(fun o=>zbU o n12);have fz1:∀ o j,(w5.alloc o).frozen? ⟨wr.heap.size,j,none⟩=false:=(fun o j=>ze7 o bx1.lt (bf1 j));(first | (have nL:=zgZ bx1 hxl2 hget;have mL:=(fun o=>zbU o nL)) | skip)) | skip))
    all_goals (go_wp2_with fail;go_meet;case rel=>first | exact dr_new st5 (by first | exact sz2 hg5 | exact sz1 hg5 | exact sz0 hg5) fn hfn hy0 (by omega) | exact dr_new2 st5 (by first | exact sz2 hg5 | exact sz1 hg5 | exact sz0 hg5) fn hfn hy0 (by omega) _ | exact dr_new3 st5 (by first | exact sz2 hg5 | exact sz1 hg5 | exact sz0 hg5) fn hfn hy0 (by omega) _ | exact zp4 st st5 (by omega) ⟨bx2,bf2⟩ fn hfn hy0 (by omega) | exact zp4 st st5 (by omega) ⟨bx3,bf3⟩ fn hfn hy0 (by omega) | exact dr_set1 st st5 (by omega) ⟨bx1,bf1⟩ fn hfn hy0 (by omega) _)
   case rest =>
    obtain ⟨F,y,fn,rfl,⟨hy0,hy1⟩,hfn,hF,st6,hb6⟩:=hcut.out;clear hcut p0 p1 p2 hcur HST0;have HST6:Hid (_):=st6;have HB6:Hid (_):=hb6
    go_upto_region 7 with fail
    go_cut [40] from 22 to 62 (fun v wx=>∃ b,v=.bool b∧Hid (DrSt wx w B a len cap R P nm (.slice ia il ic) fa fc xs u10 ns∧(Box3 wx F (.string ⟨fn.toArray⟩) (.int .i64 y) (.slice none 0 0)∧∀ j,wx.frozen? ⟨F,j,none⟩=false)))
    case first =>
     by_cases hm:nm=[109,97,105,110]
     ·
      have dm:(nm==[109,97,105,110])=true:=beq_iff_eq.2 hm;go_wp2_with fail
      go_meet
      case rel=>exact ⟨_,rfl,st6,hb6⟩
     ·
      have dm:(nm==[109,97,105,110])=false:=beq_eq_false_iff_ne.2 hm;go_wp2_with fail
      go_meet
      case rel=>exact ⟨_,rfl,st6,hb6⟩
    case rest =>
     obtain ⟨b,rfl,hc6⟩:=hcut;clear HST6 HB6 hb6 st6
     go_upto_if 40 with fail
     go_cut [] from 22 to 62 (fun wx=>∃ (y:Int) (fn:List UInt8),(0≤y∧y≤3)∧fn.length≤9∧Hid (DrSt wx w B a len cap R P nm (.slice ia il ic) fa fc xs u10 ns∧(Box3 wx F (.string ⟨fn.toArray⟩) (.int .i64 y) (.slice none 0 0)∧∀ j,wx.frozen? ⟨F,j,none⟩=false)))
     case first =>
      rcases b with _ | _
      ·
       go_wp2_with fail
       go_meet
       case rel=>exact ⟨y,fn,⟨hy0,hy1⟩,hfn,hc6⟩
      ·
       obtain ⟨st6,hb6⟩:=hc6.out;have f0:=hb6.1.c0;have f1:=hb6.1.c1;have f2:=hb6.1.c2;have g0:=hb6.2 0;have g1:=hb6.2 1;have g2:=hb6.2 2;go_wp2_with fail
       go_meet
       case rel =>
        obtain ⟨hb2,hg⟩:=zpf (.string ⟨#[109,97,105,110]⟩) (.int .i64 1) (.slice none 0 0) hb6;exact ⟨1,[109,97,105,110],⟨by omega,by omega⟩,by decide,zp5 st st6 hF hg,hb2⟩
     case rest =>
      clear hy0 hy1 hfn hc6;obtain ⟨y,fn,⟨hy0,hy1⟩,hfn,hcut⟩:=hcut;obtain ⟨st6,hb6⟩:=hcut.out;clear hcut;have f0:=hb6.1.c0;have f1:=hb6.1.c1;have f2:=hb6.1.c2;have hT:Hid (_):=dr_tree st st6 hF hb6 hy0 hy1 (by omega) HN.out HK.out;go_wp2_with fail
      refine Calls.mono hT.out ?_;rintro e w7 ⟨ta,tc,t,rfl,⟨ht,hst,htb⟩,st7,hb7,ho7,hap,hq7⟩;clear hT f0 f1 f2 hb6 st6;obtain ⟨st8,hb8,ho8⟩:=dr_store st st7 hF hb7 ho7 hq7;have f0:=hb7.1.c0;have f1:=hb7.1.c1;have f2:=hb7.1.c2;have g2:=hb7.2 2;obtain ⟨Z,hZ⟩:∃ Z,w7.setCell ⟨F,2,none⟩ (.slice ta t.length tc)=Z:=⟨_,rfl⟩
      rw [hZ] at st8 hb8 ho8
      go_upto_region 10 with fail
      clear hZ f0 f1 f2 g2 hb7 st7 ho7;obtain ⟨g',c',Y,hrun,hp2,hpf,st9,hk9⟩:=dr_fn st8 (((fn,y,t),ta,tc):FV) ho8 hap (by omega)
      change (Builtin.append_ #[97,97] 97 #[.slice fa xs.length fc,.slice (some ⟨Z.heap.size,0,none⟩) 1 1]).run Tryz.prog (Z.alloc (.cells #[.string ⟨fn.toArray⟩,.int .i64 y,.slice ta t.length tc] 107))=_ at hrun
      have hpl:=st.p.lt;have b9:=hb8.keep (hk9 F hb8.lt (by omega) (fun e=>by have:=(st.fo.row.lt F e.symm).2;omega));have f0:=hb8.c0;have f1:=hb8.c1;have f2:=hb8.c2;have p2:=st8.p.c2;obtain ⟨Z2,hZ2⟩:∃ Z2,Y.setCell ⟨P,2,none⟩ (.slice (some ⟨g',0,none⟩) (xs.length+1) c')=Z2:=⟨_,rfl⟩
      rw [hZ2] at st9 b9;clear hk9 hq7
      go_upto_region 11 with (at_builtin;refine za0 rfl (.tmp 49) (.tmp 51) 97 rfl _ _ _ rfl rfl hrun ?_;clear hrun)
      clear f0 f1 f2 p2 hZ2 hp2 hpf;have f0:=b9.c0;have f1:=b9.c1;obtain ⟨v',Y2,hrun2,st10⟩:=dr_own st9 ((8,y,nm,fn):Nd) (by omega)
      change (Builtin.append_ #[102,102] 102 #[u10,.slice (some ⟨Z2.heap.size,0,none⟩) 1 1]).run Tryz.prog (Z2.alloc (.cells #[.int .i64 8,.int .i64 y,.string ⟨nm.toArray⟩,.string ⟨fn.toArray⟩] 104))=_ at hrun2
      have HST10:Hid (_):=st10;clear st10 st9 st8 b9 hb8
      go_wp2_with (at_builtin;refine za0 rfl (.tmp 54) (.tmp 61) 102 rfl _ _ _ rfl rfl hrun2 ?_;clear hrun2)
      refine ⟨⟨r',_,_,_,_,rfl,by simp;omega,by simp;omega,HST10,?_,?_,?_⟩,by simp [intOf]⟩
      ·
       intro z hz;rw [List.mem_append,List.mem_singleton] at hz;rcases hz with hz | rfl
       ·exact HX.out z hz
       ·exact ⟨⟨hfn,⟨by show -10≤y;omega,by show y≤10;omega⟩,by show t.length≤100;omega,hst⟩,hy0,hy1,htb⟩
      ·exact zeH HN.out (fun n hn=>by rw [List.mem_singleton] at hn;subst hn;exact (zp6 hy0 hy1 hnm hfn).1)
      ·
       intro n hn;rw [List.mem_append,List.mem_singleton] at hn;rcases hn with hn | rfl
       ·exact HK.out n hn
       ·exact (zp6 hy0 hy1 hnm hfn).2
end Go.Proofs.YtponeoijfaepnaaGreatDoor
