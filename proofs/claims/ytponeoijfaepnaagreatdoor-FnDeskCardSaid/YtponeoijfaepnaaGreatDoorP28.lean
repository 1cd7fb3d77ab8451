/-
  Parts of one proof, one behind the other: TaskJ, TaskK.
-/
import Derived.Test.YtponeoijfaepnaaGreatDoorP27
namespace Go.Proofs.YtponeoijfaepnaaGreatDoor
open Go.RowKit
set_option maxHeartbeats 8000000
set_option maxRecDepth 100000
theorem znB (xs:List TV) (j:Nat) (hj:j<xs.length) (y:TV) (h:y.1=xs[j].1):(tksV xs).set (j*6+1) (tvT y)=tksV (xs.set j y):=by
 induction xs generalizing j with
 | nil=>simp at hj
 | cons b r ih =>
  cases j with
  | zero =>
   simp only [List.getElem_cons_zero] at h;simp [tksV,h]
  | succ j =>
   rw [show (j+1)*6+1=j*6+1+1+1+1+1+1+1 by omega];have:=ih j (by simpa using hj) (by simpa using h);simp [tksV,this]
theorem zaF.src {w:World} {a:Option Addr} {len cap:Nat} {ts:List Ta} (h:zaF w a len cap ts) :
 ∃ xs:List TV,xs.map (·.1)=ts∧Src w (.slice a len cap) len 6 (tksV xs)∧∀ x∈xs,AsIn w x.2.1 x.1.2.1∧(x.2.1=none→x.2.2=0):=by
 have each:∀ j,j<len→∃ y:TV,y.1=ts.getD j ta0∧(∃ b off,a=some ⟨b,off,none⟩∧w.cell? ⟨b,off+j*6,none⟩=some (.string ⟨y.1.1.toArray⟩)∧w.cell? ⟨b,off+j*6+1,none⟩=some (tvT y)∧w.cell? ⟨b,off+j*6+2,none⟩=some (.int .i64 y.1.2.2.1)∧w.cell? ⟨b,off+j*6+3,none⟩=some (.int .i64 y.1.2.2.2.1)∧w.cell? ⟨b,off+j*6+4,none⟩=some (.int .i64 y.1.2.2.2.2.1)∧w.cell? ⟨b,off+j*6+5,none⟩=some (.int .i64 y.1.2.2.2.2.2))∧AsIn w y.2.1 y.1.2.1∧(y.2.1=none→y.2.2=0):=fun j hj=>by
  obtain ⟨b,off,e,_,c0,⟨na,nc,c1,hn,hz⟩,c2,c3,c4,c5⟩:=h.2.2 j hj;exact ⟨(ts.getD j ta0,na,nc),rfl,⟨b,off,e,c0,c1,c2,c3,c4,c5⟩,hn,hz⟩
 let f:Nat→TV:=fun i=>if hi:i<len then Classical.choose (each i hi) else tv0
 have hf:∀ j (hj:j<len),f j=Classical.choose (each j hj):=fun j hj=>by simp only [f,dif_pos hj]
 have hp:=fun j (hj:j<len)=>Classical.choose_spec (each j hj)
 have hg:∀ j,j<len→((List.range len).map f).getD j tv0=f j:=fun j hj=>by simp [List.getD,hj]
 refine ⟨(List.range len).map f,?_,⟨by rw [zlz];simp,zly _,?_⟩,fun x hx=>?_⟩
 ·
  apply List.ext_getElem
  ·simp [h.1]
  ·
   intro j h1 h2;have hj:j<len:=by simpa using h1
   rw [List.getElem_map,List.getElem_map,List.getElem_range,hf j hj,(hp j hj).1];simp [List.getD,h2]
 ·
  rcases a with _ | ad
  ·
   have h0:len=0:=by
    rcases Nat.eq_zero_or_pos len with g | g
    ·exact g
    ·obtain ⟨_,_,e,_⟩:=h.2.2 0 g;cases e
   rw [h.2.1 rfl,h0];exact Or.inl ⟨rfl,rfl⟩
  ·
   refine Or.inr ⟨ad,cap,rfl,fun k u hu=>?_⟩;have hk:k<len*6:=by have:=(List.getElem?_eq_some_iff.1 hu).1;rw [zlz] at this;simpa using this
   have hj:k / 6<len:=by omega
   obtain ⟨v0,v1,v2,v3,v4,v5⟩:=zdp ((List.range len).map f) (k / 6) (by simpa using hj);rw [hg _ hj,hf _ hj] at v0 v1 v2 v3 v4 v5;obtain ⟨_,⟨b,off,e,c0,c1,c2,c3,c4,c5⟩,_⟩:=hp _ hj;injection e with e;subst e;rw [zfD];have h6:k % 6=0∨k % 6=1∨k % 6=2∨k % 6=3∨k % 6=4∨k % 6=5:=by omega
   rcases h6 with h' | h' | h' | h' | h' | h'
   ·
    have ej:k=k / 6*6:=by omega
    rw [ej,v0] at hu;rw [ej,c0,hu]
   ·
    have ej:k=k / 6*6+1:=by omega
    rw [ej,v1] at hu;rw [ej,←Nat.add_assoc,c1,hu]
   ·
    have ej:k=k / 6*6+2:=by omega
    rw [ej,v2] at hu;rw [ej,←Nat.add_assoc,c2,hu]
   ·
    have ej:k=k / 6*6+3:=by omega
    rw [ej,v3] at hu;rw [ej,←Nat.add_assoc,c3,hu]
   ·
    have ej:k=k / 6*6+4:=by omega
    rw [ej,v4] at hu;rw [ej,←Nat.add_assoc,c4,hu]
   ·
    have ej:k=k / 6*6+5:=by omega
    rw [ej,v5] at hu;rw [ej,←Nat.add_assoc,c5,hu]
 ·obtain ⟨j,hj,rfl⟩:=List.mem_map.1 hx;rw [List.mem_range] at hj;rw [hf j hj];exact (hp j hj).2.2
theorem zod {w:World} {base e size g n cp:Nat} {xs:List Value} (h:w.ownsRow base e size (.slice (some ⟨g,0,none⟩) n cp) n xs) (j:Nat) (u:Value) (hx:xs[j]?=some u) :
 (w.setCell ⟨g,j,none⟩ u).ownsRow base e size (.slice (some ⟨g,0,none⟩) n cp) n xs∧w.grownBy (w.setCell ⟨g,j,none⟩ u) (some g):=by
 have hs:=h.stored j u;obtain ⟨hj,e⟩:=List.getElem?_eq_some_iff.1 hx;subst e;rw [List.set_getElem_self] at hs;exact hs
theorem znn (a:Option Addr) (len cap:Nat) (ts:List Ta) (w:World) (hin:zaF w a len cap ts) (hlen:len≤1048576) :
 Calls Tryz.prog 54 #[.slice a len cap] w fun e w'=>∃ (v:Value) (xs:List TV),e=.returned v∧xs.map (·.1)=ts∧w'.ownsRow w.heap.size 42 6 v xs.length (tksV xs)∧(∀ x∈xs,AsIn w x.2.1 x.1.2.1∧(x.2.1=none→x.2.2=0))∧Below w.heap.size w w':=by
 obtain ⟨i0,hi,hz0,hz1,hz2⟩:=info_parts zm3;obtain ⟨xs,hx,hsrc0,has⟩:=hin.src;have hxl:xs.length=len:=by rw [←hin.1,←hx,List.length_map]
 have HX:Hid (xs.map (·.1)=ts∧∀ x∈xs,AsIn w x.2.1 x.1.2.1∧(x.2.1=none→x.2.2=0)):=⟨hx,has⟩;rcases a with _ | ad
 ·
  obtain rfl:=hin.2.1 rfl
  have h0:len=0:=by
   rcases Nat.eq_zero_or_pos len with g | g
   ·exact g
   ·obtain ⟨_,_,e,_⟩:=hin.2.2 0 g;cases e
  subst h0;obtain rfl:xs=[]:=List.eq_nil_of_length_eq_zero hxl;have HO:Hid (w.ownsRow w.heap.size 42 6 (.slice none 0 0) 0 (tksV [])):=World.ownsRow_nil w _ _ _;have heq:∀ V:World,(binOp .eql 24 (.slice none 0 0) (.slice none 0 0)).run Tryz.prog V=.ok (.bool true) V:=fun V=>Lib.run_eql_slice_nil V _ _ none 0 0 0 0 Tryz.underlying24
  clear hin hsrc0 hx has hxl
  go_enter Tryz.func54,Tryz.ntmps54
  go_wp2;go_ret;exact ⟨_,[],rfl,HX.out.1,HO.out,HX.out.2,Below.refl _ _⟩
 ·
  have hbA:Below w.heap.size w (w.alloc (.cells #[] 42)):=(Below.refl _ _).alloc (Nat.le_refl _) _;have hown0:=(World.ownsRow_lit (base:=w.heap.size) (e:=42) (size:=6) w #[] 0 (Nat.le_refl _) (by decide) rfl)
  have hsrc1:Src (w.alloc (.cells #[] 42)) (.slice (some ad) len cap) len 6 (tksV xs):=by
   obtain ⟨h1,h2,h3 | ⟨ad',c',e,h3⟩⟩:=hsrc0
   ·exact ⟨h1,h2,Or.inl h3⟩
   ·exact ⟨h1,h2,Or.inr ⟨ad',c',e,fun j u hu=>zka _ (h3 j u hu)⟩⟩
  obtain ⟨v',w',hrun,hown',hg,_⟩:=zar (P:=Tryz.prog) (w.alloc (.cells #[] 42)) w.heap.size 24 24 42 i0 _ 6 72 Tryz.underlying24 hi hz0 hz1 hz2 rfl (by decide) _ _ _ hown0 (.slice (some ad) len cap) len (tksV xs) hsrc1 (by unfold maxLen;omega) (by omega) (by simp);have HB:Hid (Below w.heap.size w w'):=hbA.grown hg hbA.size (fun q e=>by simp [Value.ownBlock] at e;omega)
  have HO:Hid (w'.ownsRow w.heap.size 42 6 v' xs.length (tksV xs)):=by rw [Nat.zero_add] at hown';rw [hxl];exact (by simpa using hown':w'.ownsRow w.heap.size 42 6 v' len (tksV xs))
  have heq:∀ V:World,(binOp .eql 24 (.slice (some ad) len cap) (.slice none 0 0)).run Tryz.prog V=.ok (.bool false) V:=fun V=>Lib.run_eql_slice_nil V _ _ (some ad) len cap 0 0 Tryz.underlying24
  clear hown' hg hown0 hbA hin hsrc0 hsrc1 hx has hxl
  go_enter Tryz.func54,Tryz.ntmps54
  go_wp2_with (at_builtin;refine za0 rfl (.tmp 5) (.tmp 6) 24 rfl _ _ _ rfl rfl hrun ?_;clear hrun)
  go_ret;exact ⟨v',xs,rfl,HX.out.1,HO.out,HX.out.2,HB.out⟩
theorem zpb (a:Option Addr) (c:Nat) (xs:List Int) (w:World) (hin:AsIn w a xs) (hc:a=none→c=0) (hn:xs.length≤1048576) :
 Calls Tryz.prog 56 #[.slice a xs.length c] w fun e w'=>∃ va vc,e=.returned (.slice va xs.length vc)∧w'.ownsRow w.heap.size 2 1 (.slice va xs.length vc) xs.length (zaY xs)∧Below w.heap.size w w':=by
 obtain ⟨i0,hi,hz0,hz1,hz2⟩:=info_parts info2;rcases a with _ | ad
 ·
  obtain rfl:=hc rfl
  have h0:xs.length=0:=by
   rcases Nat.eq_zero_or_pos xs.length with g | g
   ·exact g
   ·obtain ⟨_,_,e,_⟩:=hin 0 g;cases e
  obtain rfl:xs=[]:=List.eq_nil_of_length_eq_zero h0;have HO:Hid (w.ownsRow w.heap.size 2 1 (.slice none 0 0) 0 (zaY [])):=World.ownsRow_nil w _ _ _;have heq:∀ V:World,(binOp .eql 40 (.slice none 0 0) (.slice none 0 0)).run Tryz.prog V=.ok (.bool true) V:=fun V=>Lib.run_eql_slice_nil V _ _ none 0 0 0 0 Tryz.underlying40
  clear hin hc h0
  go_enter Tryz.func56,Tryz.ntmps56
  go_wp2;go_ret;exact ⟨none,0,rfl,HO.out,Below.refl _ _⟩
 ·
  have hbA:Below w.heap.size w (w.alloc (.cells #[] 2)):=(Below.refl _ _).alloc (Nat.le_refl _) _;have hown0:=(World.ownsRow_lit (base:=w.heap.size) (e:=2) (size:=1) w #[] 0 (Nat.le_refl _) (by decide) rfl);obtain ⟨v',w',hrun,hown',hg,_⟩:=zar (P:=Tryz.prog) (w.alloc (.cells #[] 2)) w.heap.size 40 40 2 i0 _ 1 8 Tryz.underlying40 hi hz0 hz1 hz2 rfl (by decide) _ _ _ hown0 (.slice (some ad) xs.length c) xs.length (zaY xs) (as_src (hin.below hbA) hc) (by unfold maxLen;omega) (by omega) (by simp);have HB:Hid (Below w.heap.size w w'):=hbA.grown hg hbA.size (fun q e=>by simp [Value.ownBlock] at e;omega)
  have hown2:w'.ownsRow w.heap.size 2 1 v' xs.length (zaY xs):=by rw [Nat.zero_add] at hown';exact (by simpa using hown':w'.ownsRow w.heap.size 2 1 v' xs.length (zaY xs))
  have hval:∃ va vc,v'=.slice va xs.length vc:=by
   rcases zaR hown2 with ⟨rfl,h0,_⟩ | ⟨g,cp,rfl⟩
   ·exact ⟨none,0,by rw [h0]⟩
   ·exact ⟨_,_,rfl⟩
  obtain ⟨va,vc,rfl⟩:=hval;have HO:Hid (w'.ownsRow w.heap.size 2 1 (.slice va xs.length vc) xs.length (zaY xs)):=hown2;have heq:∀ V:World,(binOp .eql 40 (.slice (some ad) xs.length c) (.slice none 0 0)).run Tryz.prog V=.ok (.bool false) V:=fun V=>Lib.run_eql_slice_nil V _ _ (some ad) xs.length c 0 0 Tryz.underlying40
  clear hown' hown2 hg hown0 hbA hin hc
  go_enter Tryz.func56,Tryz.ntmps56
  go_wp2_with (at_builtin;refine za0 rfl (.tmp 5) (.tmp 6) 40 rfl _ _ _ rfl rfl hrun ?_;clear hrun)
  go_ret;exact ⟨va,vc,rfl,HO.out,HB.out⟩
theorem zgL (a:Option Addr) (len cap:Nat) (ts:List Ta) (ep nw:Int) (jr:List UInt8) (w:World) (hin:zaF w a len cap ts) (hsh:za1 ts) (hlen:len≤1048576) (hj:jr.length≤1048576) :
 Calls Tryz.prog 25 #[.agg #[.slice a len cap,.int .i64 ep,.int .i64 nw,.string ⟨jr.toArray⟩]] w
  fun e w'=>∃ va vc xs,e=.returned (.agg #[.slice va len vc,.int .i64 ep,.int .i64 nw,.string ⟨jr.toArray⟩])∧xs.map (·.1)=ts∧za2 w' w.heap.size (.slice va len vc) xs∧zai (xs.map tvT)∧Below w.heap.size w w':=by
 obtain rfl:ts.length=len:=hin.1;obtain ⟨D,hD⟩:∃ D,w.heap.size=D:=⟨_,rfl⟩
 obtain ⟨W1,hW1⟩:∃ W,w.alloc (.cells #[.slice a ts.length cap,.int .i64 ep,.int .i64 nw,.string ⟨jr.toArray⟩] 26)=W:=⟨_,rfl⟩
 obtain ⟨W2,hW2⟩:∃ W,W1.alloc (.cells #[.slice none 0 0,.int .i64 0,.int .i64 0,.string ⟨#[]⟩] 26)=W:=⟨_,rfl⟩
 have hs1:W1.heap.size=D+1:=by rw [←hW1,←hD];simp
 have hs2:W2.heap.size=D+2:=by rw [←hW2];simp [hs1]
 have hb1:Below D w W1:=by rw [←hW1,←hD];exact (Below.refl _ _).alloc (Nat.le_refl _) _
 have hb12:Below W1.heap.size W1 W2:=by rw [←hW2];exact (Below.refl _ _).alloc (Nat.le_refl _) _
 have hb2:Below D w W2:=hb1.trans (hb12.mono (by omega));have bD:=B4.new w (.slice a ts.length cap) (.int .i64 ep) (.int .i64 nw) (.string ⟨jr.toArray⟩) 26;rw [hW1,hD] at bD;have bR:=B4.new W1 (.slice none 0 0) (.int .i64 0) (.int .i64 0) (.string ⟨#[]⟩) 26;rw [hW2,hs1] at bR
 have HD:Hid (∀ Z,Below W2.heap.size W2 Z→B4 Z D (.slice a ts.length cap) (.int .i64 ep) (.int .i64 nw) (.string ⟨jr.toArray⟩)∧B4 Z (D+1) (.slice none 0 0) (.int .i64 0) (.int .i64 0) (.string ⟨#[]⟩)∧Below D w Z):=fun Z hz =>
  ⟨(bD.below hb12).below hz,bR.below hz,hb2.trans (hz.mono (by omega))⟩
 have HS:Hid (za1 ts):=hsh;have HC0:Hid (_):=znn a ts.length cap ts W2 (hin.below (by rw [hD];exact hb2)) hlen;have d0:=(HD.out W2 (Below.refl _ _)).1.c0;clear hin hsh bD bR hb1 hb12 hb2
 go_enter Tryz.func25,Tryz.ntmps25
 go_wp2_with fail
 refine Calls.mono HC0.out ?_;rintro e w1 ⟨v0,x0,rfl,hx0,hrow0,has0,hb1⟩;have hx0l:x0.length=ts.length:=by rw [←hx0,List.length_map]
 have HX0:Hid (∀ i,i<ts.length→x0.getD i tv0=(ts.getD i ta0,(x0.getD i tv0).2)):=fun i hi=>by
  have h1:=zet x0 i;rw [hx0] at h1;rw [h1]
 have HXL:Hid (x0.length=ts.length):=hx0l;rw [hs2,hx0l] at hrow0
 have HAs:Hid (∀ Z,Below W2.heap.size W2 Z→∀ i,i<ts.length→AsIn Z (x0.getD i tv0).2.1 (x0.getD i tv0).1.2.1∧((x0.getD i tv0).2.1=none→(x0.getD i tv0).2.2=0)):=fun Z hz i hi=>by
  have hm:x0.getD i tv0∈x0:=by rw [List.getD_eq_getElem?_getD,List.getElem?_eq_getElem (by omega)];exact List.getElem_mem (by omega)
  exact ⟨(has0 _ hm).1.below hz,(has0 _ hm).2⟩
 have hval:∃ va vc,v0=.slice va ts.length vc:=by
  rcases zaR hrow0 with ⟨rfl,h0,_⟩ | ⟨g,cp,rfl⟩
  ·exact ⟨none,0,by rw [h0]⟩
  ·exact ⟨_,_,rfl⟩
 obtain ⟨va,vc,rfl⟩:=hval;have HR0:Hid (w1.ownsRow (D+2) 42 6 (.slice va ts.length vc) ts.length (tksV ([]++x0.drop 0))):=hrow0;have HB0:Hid (Below W2.heap.size W2 w1):=hb1;clear hx0 hrow0 has0 hb1 d0 hx0l HC0;go_wp2
 go_loopw [11] (fun iv wx=>∃ (i:Nat) (ys:List TV),iv=.int .i64 (i:Int)∧i≤ts.length∧ys.length=i∧Hid (ys.map (·.1)=ts.take i)∧Hid (wx.ownsRow (D+2) 42 6 (.slice va ts.length vc) ts.length (tksV (ys++x0.drop i)))∧Hid (∀ x∈ys,wx.ownsRow (D+2) 2 1 (tvT x) x.1.2.1.length (zaY x.1.2.1))∧Hid (zai (ys.map tvT))∧Hid (Below W2.heap.size W2 wx)) (fun iv _=>ts.length-(intOf iv).toNat)
 case atStart=>exact ⟨0,[],rfl,Nat.zero_le _,rfl,rfl,HR0,(fun x hx=>by cases hx),zai.nil,HB0⟩
 case round =>
  obtain ⟨i,ys,rfl,hi,hyl,HM,HR,HT,HAP,HBr⟩:=hrel;clear HR0 HB0;have hsr:D+2≤wr.heap.size:=by have:=HBr.out.size;omega
  by_cases hlt:(i:Int)<(ts.length:Int)
  ·
   have hsi:=HS.out i;have hx0i:=HX0.out i (by omega)
   have hmk:ts.take (i+1)=ts.take i++[ts.getD i ta0]:=by
    have hg:ts.getD i ta0=ts[i]'(by omega):=by simp [List.getD,show i<ts.length by omega]
    rw [hg,List.take_succ_eq_append_getElem]
   obtain ⟨hn1,hnz⟩:=HAs.out wr HBr.out i (by omega);have HAs1:Hid (_):=fun Z hz=>(HAs.out Z hz i (by omega)).1
   have hl0:=HXL.out;have hyx:(ys++x0.drop i).length=ts.length:=by rw [List.length_append,List.length_drop];omega
   have hat:(ys++x0.drop i).getD i tv0=x0.getD i tv0:=by rw [List.getD_eq_getElem?_getD,List.getElem?_append_right (by omega),hyl,Nat.sub_self,List.getElem?_drop,Nat.add_zero,←List.getD_eq_getElem?_getD]
   obtain ⟨v0,v1,v2,v3,v4,v5⟩:=zdp (ys++x0.drop i) i (by omega);rw [hat] at v0 v1 v2 v3 v4 v5;obtain ⟨f,hf⟩:∃ f,ts.getD i ta0=f:=⟨_,rfl⟩
   rw [hf] at hsi hx0i hmk;obtain ⟨nm,ns,st,wk,un,ke⟩:=f;obtain ⟨nd,hnd⟩:∃ nd,(x0.getD i tv0).2=nd:=⟨_,rfl⟩
   rw [hnd] at hx0i;rw [hx0i] at v0 v1 v2 v3 v4 v5 hn1 hnz HAs1;obtain ⟨na,nc⟩:=nd;simp only [tvT] at v0 v1 v2 v3 v4 v5 hn1 hnz hsi HAs1;have HMK:Hid (ts.take (i+1)=ts.take i++[(nm,ns,st,wk,un,ke)]):=hmk
   have HSET:Hid (∀ y:TV,y.1=(nm,ns,st,wk,un,ke)→(tksV (ys++x0.drop i)).set (i*6+1) (tvT y)=tksV ((ys++[y])++x0.drop (i+1))):=fun y hy=>by
    rw [znB _ i (by omega) y (by
     have e:(ys++x0.drop i)[i]'(by omega)=(ys++x0.drop i).getD i tv0:=by rw [List.getD_eq_getElem?_getD,List.getElem?_eq_getElem (by omega)];rfl
     rw [e,hat,hx0i];exact hy)]
    congr 1
    rw [List.set_append_right _ _ (by omega),hyl,Nat.sub_self,List.drop_eq_getElem_cons (by omega),zB,List.append_assoc]
    rfl
   obtain ⟨g,cp,he⟩:=zaw HR.out (by omega);injection he with e1 _ e3;subst e1 e3;obtain ⟨zs,hzs⟩:∃ zs,tksV (ys++x0.drop i)=zs:=⟨_,rfl⟩
   rw [hzs] at v0 v1 v2 v3 v4 v5 HR HSET;have hcell:=fun k (hk:k<ts.length*6)=>World.ownsRow.cellAt HR.out k hk
   have c0:=(hcell (i*6) (by omega)).trans v0;have c1:=(hcell (i*6+1) (by omega)).trans v1;have c2:=(hcell (i*6+2) (by omega)).trans v2;have c3:=(hcell (i*6+3) (by omega)).trans v3;have c4:=(hcell (i*6+4) (by omega)).trans v4;have c5:=(hcell (i*6+5) (by omega)).trans v5;have HV0:Hid (zs[i*6]?=some (.string ⟨nm.toArray⟩)):=v0;have HZL:Hid (zs.length=ts.length*6):=HR.out.1;obtain ⟨Y,hY⟩:∃ Y,wr.alloc (.cells #[.string ⟨nm.toArray⟩,.slice na ns.length nc,.int .i64 st,.int .i64 wk,.int .i64 un,.int .i64 ke] 42)=Y:=⟨_,rfl⟩
   have hbY:Below wr.heap.size wr Y:=by rw [←hY];exact (Below.refl _ _).alloc (Nat.le_refl _) _
   have bE:=B6.new wr (.string ⟨nm.toArray⟩) (.slice na ns.length nc) (.int .i64 st) (.int .i64 wk) (.int .i64 un) (.int .i64 ke) 42;rw [hY] at bE;have hgl:=HR.out.lt g rfl;obtain ⟨E,hE⟩:∃ E,wr.heap.size=E:=⟨_,rfl⟩
   have hsY:Y.heap.size=E+1:=by rw [←hY,←hE];simp
   rw [hE] at bE hgl;have HC1:Hid (_):=zbc nm Y hsi.1;have HBE:Hid (B6 Y E (.string ⟨nm.toArray⟩) (.slice na ns.length nc) (.int .i64 st) (.int .i64 wk) (.int .i64 un) (.int .i64 ke)):=bE;have HbY:Hid (Below wr.heap.size wr Y∧wr.heap.size=E):=⟨hbY,hE⟩;have e0:=HBE.out.c0;have hgE:¬g=E:=by omega
   have hEg:¬E=g:=by omega
   clear hf hn1 hmk bE hbY hx0i hnd hat hyx hl0 hzs v0 v1 v2 v3 v4 v5 hcell;go_wp2_with fail
   refine Calls.mono HC1.out ?_;rintro e w2 ⟨rfl,hb2⟩;have hb2r:Below wr.heap.size wr w2:=HbY.out.1.trans (hb2.mono HbY.out.1.size);have hr2:=za5 HR.out hb2r;obtain ⟨hr3,hg3⟩:=zod hr2 (i*6) (.string ⟨nm.toArray⟩) HV0.out;have q0:w2.cell? ⟨g,i*6,none⟩=some (.string ⟨nm.toArray⟩):=(World.ownsRow.cellAt hr2 _ (by omega)).trans HV0.out;have qf:=World.ownsRow.frozenAt hr2 (i*6);obtain ⟨X,hX⟩:∃ X,w2.setCell ⟨g,i*6,none⟩ (.string ⟨nm.toArray⟩)=X:=⟨_,rfl⟩
   rw [hX] at hr3 hg3;have bX:=(HBE.out.below hb2).grown hg3 (by simp;omega);have hB3:Below W2.heap.size W2 X:=(HBr.out.trans (hb2r.mono HBr.out.size)).grown hg3 (Nat.le_trans HBr.out.size hb2r.size) (fun k e=>by injection e with e;omega);have HC2:Hid (_):=zpb na nc ns X (HAs1.out X hB3) hnz hsi.2;have HR3:Hid (X.ownsRow (D+2) 42 6 (.slice (some ⟨g,0,none⟩) ts.length vc) ts.length zs):=hr3;have keepT:∀ {v:Value} {k:Nat} {l:List Value},wr.ownsRow (D+2) 2 1 v k l→X.ownsRow (D+2) 2 1 v k l:=fun h=>(za5 h hb2r).kept hg3 (zba (za5 h hb2r) hr2 (by decide))
   have HT3:Hid (∀ x∈ys,X.ownsRow (D+2) 2 1 (tvT x) x.1.2.1.length (zaY x.1.2.1)):=fun x hx=>keepT (HT.out x hx)
   have HB3:Hid (Below W2.heap.size W2 X):=hB3
   have HXs:Hid (E+1≤X.heap.size):=by have h1:=hb2.size;have h2:=hg3.size;exact (by omega:E+1≤X.heap.size)
   have HBX:Hid (B6 X E (.string ⟨nm.toArray⟩) (.slice na ns.length nc) (.int .i64 st) (.int .i64 wk) (.int .i64 un) (.int .i64 ke)):=bX;have x1:=bX.c1;clear hb2 hb2r hr2 hr3 hg3 bX hB3 keepT HC1 HBE HR HT HBr HbY HV0 HAs1 e0;go_wp2_with fail
   refine Calls.mono HC2.out ?_;rintro e w3 ⟨va3,vc3,rfl,hown3,hb3⟩;have hr4:=za5 HR3.out hb3
   obtain ⟨u1,d1⟩:∃ u,w3.cell? ⟨g,i*6+1,none⟩=some u:=by rw [hr4.cellAt (i*6+1) (by omega)];exact ⟨_,List.getElem?_eq_getElem (by have:=HZL.out;omega)⟩
   have df:=World.ownsRow.frozenAt hr4 (i*6+1);have hs5:=hr4.stored (i*6+1) (.slice va3 ns.length vc3);have hset:=HSET.out ((nm,ns,st,wk,un,ke),va3,vc3) rfl;simp only [tvT] at hset;rw [hset] at hs5;obtain ⟨Z,hZ⟩:∃ Z,w3.setCell ⟨g,i*6+1,none⟩ (.slice va3 ns.length vc3)=Z:=⟨_,rfl⟩
   rw [hZ] at hs5;have hnew:=zaD hown3 (b2:=D+2) (by have:=HXs.out;omega);have HR5:Hid (Z.ownsRow (D+2) 42 6 (.slice (some ⟨g,0,none⟩) ts.length vc) ts.length (tksV ((ys++[((nm,ns,st,wk,un,ke),va3,vc3)])++x0.drop (i+1)))):=hs5.1
   have HT5:Hid (∀ x∈ys++[((nm,ns,st,wk,un,ke),va3,vc3)],Z.ownsRow (D+2) 2 1 (tvT x) x.1.2.1.length (zaY x.1.2.1)):=fun x hx=>by
    rw [List.mem_append,List.mem_singleton] at hx;rcases hx with hx | rfl
    ·have h:=za5 (HT3.out x hx) hb3;exact h.kept hs5.2 (zba h hr4 (by decide))
    ·exact hnew.kept hs5.2 (zba hnew hr4 (by decide))
   have HM5:Hid ((ys++[((nm,ns,st,wk,un,ke),va3,vc3)]).map (·.1)=ts.take (i+1)):=by exact (by rw [List.map_append,HM.out,HMK.out];rfl:(ys++[((nm,ns,st,wk,un,ke),va3,vc3)]).map (·.1)=ts.take (i+1))
   have HAP5:Hid (zai ((ys++[((nm,ns,st,wk,un,ke),va3,vc3)]).map tvT)):=by rw [List.map_append];refine HAP.out.snoc (fun v hv=>?_);obtain ⟨x,hx,rfl⟩:=List.mem_map.1 hv;exact zhz (HT3.out x hx) hown3 (Nat.le_refl _)
   have HB5:Hid (Below W2.heap.size W2 Z):=(HB3.out.trans (hb3.mono HB3.out.size)).grown hs5.2 (Nat.le_trans HB3.out.size hb3.size) (fun k e=>by injection e with e;omega);have HL5:Hid ((ys++[((nm,ns,st,wk,un,ke),va3,vc3)]).length=i+1):=by exact (by simp [hyl]:(ys++[((nm,ns,st,wk,un,ke),va3,vc3)]).length=i+1)
   clear hown3 hb3 hr4 hs5 hset hnew HC2 HR3 HT3 HB3 HBX HM HAP HSET HMK HXs x1;go_wp2;go_roundw
   case rel=>exact ⟨i+1,_,by go_num,by omega,HL5.out,HM5,HR5,HT5,HAP5,HB5⟩
   case measure=>simp [intOf];omega
  ·
   obtain rfl:i=ts.length:=by omega
   have HM2:Hid (ys.map (·.1)=ts):=by exact (by rw [HM.out,List.take_length]:ys.map (·.1)=ts)
   have hdr:x0.drop ts.length=[]:=List.drop_eq_nil_of_le (by have:=HXL.out;omega)
   have HO:Hid (za2 wr (D+2) (.slice va ys.length vc) ys):=by have h:=HR.out;rw [hdr,List.append_nil,←hyl] at h;exact (⟨h,HT.out⟩:za2 wr (D+2) (.slice va ys.length vc) ys)
   have HYL:Hid (ys.length=ts.length):=hyl;obtain ⟨bd,br,hbD⟩:=HD.out wr HBr.out;have d1:=bd.c1;have d2:=bd.c2;have d3:=bd.c3;have HJ:Hid (∀ Z,_):=fun Z=>zbc jr Z hj
   have HBd:Hid (Below W2.heap.size W2 wr.drew):=HBr.out.trans (by exact ⟨rfl,rfl,rfl,Nat.le_refl _,fun _ _=>rfl⟩);have HRd:Hid (Below wr.heap.size wr wr.drew):=⟨rfl,rfl,rfl,Nat.le_refl _,fun _ _=>rfl⟩;clear hdr hyl HM HR HT bd br hbD;go_wp2;refine wp_region_held_drew (S:=(fun Z=>Z.cell? ⟨D,1,none⟩=some (.int .i64 ep)∧Z.cell? ⟨D,2,none⟩=some (.int .i64 nw)∧Z.cell? ⟨D,3,none⟩=some (.string ⟨jr.toArray⟩))) (by kernel_rfl) ?_ (fun hHeld=>?_)
   ·exact ⟨d1,d2,d3⟩
   refine tkO [(0,31),(1,32),(2,33),(3,34),(4,35),(5,36),(6,37)] ?_
   repeat (refine tkY ?_ rfl (by rfl) ?_ ?_;rotate_left;(focus (intro wq hSw;(try dsimp only at hSw);first | (go_simp;done) | (go_simp;with_reducible rfl)));simp only [zP])
   refine tkZ ?_;refine zR 7 rfl (fun K hK=>?_);go_simp
   (go_at_call 55;refine Calls.mono (HJ.out _) ?_;rintro e wn ⟨rfl,hbn⟩;have hwr:=HRd.out.trans (hbn.mono HRd.out.size);have HBn:Hid (Below W2.heap.size W2 wn):=HBd.out.trans (hbn.mono HBd.out.size);obtain ⟨bd,br,_⟩:=HD.out wn HBn.out;replace d1:=bd.c1;replace d2:=bd.c2;replace d3:=bd.c3;have r0:=br.c0;have r1:=br.c1;have r2:=br.c2;have r3:=br.c3;have f0:=br.fr 0;have f1:=br.fr 1;have f2:=br.fr 2;have f3:=br.fr 3;obtain ⟨X,hX,y0,y1,y2,y3,hg⟩:=set4 (.slice va ts.length vc) (.int .i64 ep) (.int .i64 nw) (.string ⟨jr.toArray⟩) r0 r1 r2 r3)
   refine hK.out _ _ ?_ (fun hHeld=>?_)
   ·exact ⟨d1,d2,d3⟩
   clear hK K;refine tkO [(8,39)] ?_
   repeat (refine tkY ?_ rfl (by rfl) ?_ ?_;rotate_left;(focus (intro wq hSw;(try dsimp only at hSw);first | (go_simp;done) | (go_simp;with_reducible rfl)));simp only [zP])
   refine tkZ ?_;refine zR 9 rfl (fun K hK=>?_);go_simp
   (try rw [hX])
   refine hK.out _ _ ?_ (fun hHeld=>?_)
   ·have bx:=bd.grown hg (by simp);exact ⟨bx.c1,bx.c2,bx.c3⟩
   clear hK K;refine wpAnyH_done (by kernel_rfl) ?_ _;go_wp2;refine bodyPost_ret (v:=.agg #[.slice va ts.length vc,.int .i64 ep,.int .i64 nw,.string ⟨jr.toArray⟩]) (by simp [results,Tryz.results25,go_sem,y0,y1,y2,y3]) rfl ?_;have hoR:=HO.out.below hwr;have hk:=hoR.kept hg (za8 hoR.row (by omega)) (fun y hy=>za8 (hoR.trees y hy) (by omega));rw [HYL.out] at hk;exact ⟨va,vc,ys,rfl,HM2.out,hk.base (by omega),HAP.out,by rw [hD];exact (HD.out _ HBn.out).2.2.grown hg (by have:=HBn.out.size;omega) (fun k e=>by injection e with e;omega)⟩
theorem zn4 (a:Option Addr) (len cap:Nat) (ts:List Ta) (ep nw:Int) (jr:List UInt8) (n:Int) (w:World) (hin:zaF w a len cap ts) (hsh:za1 ts) (hlen:len≤1048576) (hj:jr.length≤1048576) (hc:len≤cap) (hn0:-9223372036854775808≤n) (hn1:n≤9223372036854775807) :
 Calls Tryz.prog 10 #[.agg #[.slice a len cap,.int .i64 ep,.int .i64 nw,.string ⟨jr.toArray⟩],.int .i64 n] w
  fun e w'=>∃ v,e=.returned (.tuple #[v,.bool (zaO (ts,ep,nw,jr) n).2])∧zbQ w w' v (zaO (ts,ep,nw,jr) n).1:=by
 obtain rfl:ts.length=len:=hin.1;obtain ⟨D,hD⟩:∃ D,w.heap.size=D:=⟨_,rfl⟩
 obtain ⟨W1,hW1⟩:∃ W,w.alloc (.cells #[.slice a ts.length cap,.int .i64 ep,.int .i64 nw,.string ⟨jr.toArray⟩] 26)=W:=⟨_,rfl⟩
 obtain ⟨W2,hW2⟩:∃ W,W1.alloc (.cells #[.slice none 0 0,.int .i64 0,.int .i64 0,.string ⟨#[]⟩] 26)=W:=⟨_,rfl⟩
 have hs1:W1.heap.size=D+1:=by rw [←hW1,←hD];simp
 have hs2:W2.heap.size=D+2:=by rw [←hW2];simp [hs1]
 have hb1:Below D w W1:=by rw [←hW1,←hD];exact (Below.refl _ _).alloc (Nat.le_refl _) _
 have hb12:Below W1.heap.size W1 W2:=by rw [←hW2];exact (Below.refl _ _).alloc (Nat.le_refl _) _
 have hb2:Below D w W2:=hb1.trans (hb12.mono (by omega));have bD:=B4.new w (.slice a ts.length cap) (.int .i64 ep) (.int .i64 nw) (.string ⟨jr.toArray⟩) 26;rw [hW1,hD] at bD;have bR:=B4.new W1 (.slice none 0 0) (.int .i64 0) (.int .i64 0) (.string ⟨#[]⟩) 26;rw [hW2,hs1] at bR
 have HD:Hid (∀ Z,Below W2.heap.size W2 Z→B4 Z D (.slice a ts.length cap) (.int .i64 ep) (.int .i64 nw) (.string ⟨jr.toArray⟩)∧B4 Z (D+1) (.slice none 0 0) (.int .i64 0) (.int .i64 0) (.string ⟨#[]⟩)∧zaF Z a ts.length cap ts∧Below D w Z):=fun Z hz =>
  ⟨(bD.below hb12).below hz,bR.below hz,(hin.below (by rw [hD];exact hb2)).below hz,hb2.trans (hz.mono (by omega))⟩
 have HK:Hid (_):=zbw a ts.length cap ts ep nw jr W2 (hin.in.below (by rw [hD];exact hb2)) hc hsh hlen;have HCp:Hid (∀ Z,zaF Z a ts.length cap ts→_):=fun Z hz=>zgL a ts.length cap ts ep nw jr Z hz hsh hlen hj
 have HV0:Hid (zac (ts,ep,nw,jr)=false→zaO (ts,ep,nw,jr) n=(dk0,false)):=fun h=>by unfold zaO;rw [h];rfl
 have HV1:Hid (zac (ts,ep,nw,jr)=true→inB n 0 (1000000-nw)=false→zaO (ts,ep,nw,jr) n=((ts,ep,nw,jr),false)):=fun h h2=>by unfold zaO;rw [h,if_pos rfl];simp only;rw [h2];rfl
 have HV2:Hid (zac (ts,ep,nw,jr)=true→inB n 0 (1000000-nw)=true→zaO (ts,ep,nw,jr) n=((ts,ep,nw+n,jr),true)):=fun h h2=>by unfold zaO;rw [h,if_pos rfl];simp only;rw [h2];rfl
 have HP:Hid (zac (ts,ep,nw,jr)=true→0≤nw∧nw≤1000000):=fun h=>(zao.1 h).t
 obtain ⟨d0,d1,d2,d3⟩:W2.cell? ⟨D,0,none⟩=some (.slice a ts.length cap)∧W2.cell? ⟨D,1,none⟩=some (.int .i64 ep)∧W2.cell? ⟨D,2,none⟩=some (.int .i64 nw)∧W2.cell? ⟨D,3,none⟩=some (.string ⟨jr.toArray⟩):=by have h:=(HD.out W2 (Below.refl _ _)).1;exact ⟨h.c0,h.c1,h.c2,h.c3⟩
 generalize zaO (ts,ep,nw,jr) n=res at HV0 HV1 HV2 ⊢;generalize zac (ts,ep,nw,jr)=b1 at HK HV0 HV1 HV2 HP;clear hin hsh bD bR hb1 hb12 hb2;rcases b1 with _ | _
 ·
  have HR:Hid (res=(dk0,false)):=HV0.out rfl;clear HV0 HV1 HV2 HP HCp
  go_enter Tryz.func10,Tryz.ntmps10
  go_wp2_with fail
  refine Calls.mono HK.out ?_;rintro e w1 ⟨rfl,hb1⟩;obtain ⟨_,br,_,hbD⟩:=HD.out w1 hb1;have r0:=br.c0;have r1:=br.c1;have r2:=br.c2;have r3:=br.c3;have f0:=br.fr 0;have f1:=br.fr 1;have f2:=br.fr 2;have f3:=br.fr 3;have HBD:Hid (Below D w w1):=hbD;clear hbD br hb1 d0 d1 d2 d3;go_wp2;obtain ⟨X,hX,y0,y1,y2,y3,hg⟩:=set4 (.slice none 0 0) (.int .i64 0) (.int .i64 0) (.string ⟨#[]⟩) r0 r1 r2 r3;rw [hX];refine bodyPost_ret (v:=.tuple #[.agg #[.slice none 0 0,.int .i64 0,.int .i64 0,.string ⟨#[]⟩],.bool false]) (by simp [results,Tryz.results10,go_sem,y0,y1,y2,y3]) rfl ?_;rw [HR.out];exact ⟨_,rfl,zbQ.zero (by rw [hD];exact HBD.out.grown hg (by have:=HBD.out.size;omega) (fun k e=>by injection e with e;omega))⟩
 ·
  have HV1b:Hid (_):=HV1.out rfl;have HV2b:Hid (_):=HV2.out rfl;obtain ⟨hp0,hp1⟩:=HP.out rfl;clear HV0 HV1 HV2 HP
  go_enter Tryz.func10,Tryz.ntmps10
  go_wp2_with fail
  refine Calls.mono HK.out ?_;rintro e w1 ⟨rfl,hb1⟩;have HB1:Hid (Below W2.heap.size W2 w1):=hb1;clear d0 d1 d2 d3 hb1 HK;obtain ⟨bd,_,hok1,_⟩:=HD.out w1 HB1.out;have d0:=bd.c0;have d1:=bd.c1;have d2:=bd.c2;have d3:=bd.c3;have HC1:Hid (_):=HCp.out w1 hok1;clear bd hok1 HCp;go_wp2_with fail
  refine Calls.mono HC1.out ?_;rintro e w2 ⟨va,vc,xs,rfl,hx,ho,hap,hb2⟩;have hB2:=HB1.out.trans (hb2.mono HB1.out.size);obtain ⟨Q,hQ⟩:∃ Q,w2.heap.size=Q:=⟨_,rfl⟩
  obtain ⟨w3,hw3⟩:∃ W,w2.alloc (.cells #[.slice va ts.length vc,.int .i64 ep,.int .i64 nw,.string ⟨jr.toArray⟩] 26)=W:=⟨_,rfl⟩
  have bQ:=B4.new w2 (.slice va ts.length vc) (.int .i64 ep) (.int .i64 nw) (.string ⟨jr.toArray⟩) 26;have hb3:Below w2.heap.size w2 w3:=by rw [←hw3];exact (Below.refl _ _).alloc (Nat.le_refl _) _
  have hs3:w3.heap.size=Q+1:=by rw [←hw3,←hQ];simp
  rw [hw3,hQ] at bQ;have hB3:Below W2.heap.size W2 w3:=hB2.trans (hb3.mono hB2.size);have hw1:D+2≤w1.heap.size:=by have:=HB1.out.size;omega
  have hQl:w1.heap.size≤Q:=by rw [←hQ];exact hb2.size
  have HO3:Hid (za2 w3 w1.heap.size (.slice va ts.length vc) xs∧xs.map (·.1)=ts∧zai (xs.map tvT)):=⟨ho.below hb3,hx,hap⟩
  have hO3:∀ k,(Value.slice va ts.length vc).ownBlock=some k∨(∃ x∈xs,(tvT x).ownBlock=some k)→k<Q:=by
   intro k hk;rw [←hQ];rcases hk with e | ⟨x,hx,e⟩
   ·exact (ho.row.lt k e).2
   ·exact ((ho.trees x hx).lt k e).2
  have HO3l:Hid (_):=hO3;have HBQ:Hid (B4 w3 Q (.slice va ts.length vc) (.int .i64 ep) (.int .i64 nw) (.string ⟨jr.toArray⟩)):=bQ;have HB3:Hid (Below W2.heap.size W2 w3):=hB3;clear d0 d1 d2 d3 hb2 ho hap hx hb3 bQ hB3 hB2 hO3 HC1;have q0:=HBQ.out.c0;have q1:=HBQ.out.c1;have q2:=HBQ.out.c2;have q3:=HBQ.out.c3;have qf:=HBQ.out.fr 2;by_cases hn:n<0
  ·have HR:Hid (res=((ts,ep,nw,jr),false)):=HV1b.out (by unfold inB;simp;omega);clear HV1b HV2b;obtain ⟨_,br,_,hbD⟩:=HD.out w3 HB3.out;have r0:=br.c0;have r1:=br.c1;have r2:=br.c2;have r3:=br.c3;have f0:=br.fr 0;have f1:=br.fr 1;have f2:=br.fr 2;have f3:=br.fr 3;have HBD:Hid (Below D w w3):=hbD;clear hbD br;go_wp2;obtain ⟨X,hX,y0,y1,y2,y3,hg⟩:=set4 (.slice va ts.length vc) (.int .i64 ep) (.int .i64 nw) (.string ⟨jr.toArray⟩) r0 r1 r2 r3;rw [hX];refine bodyPost_ret (v:=.tuple #[.agg #[.slice va ts.length vc,.int .i64 ep,.int .i64 nw,.string ⟨jr.toArray⟩],.bool false]) (by simp [results,Tryz.results10,go_sem,y0,y1,y2,y3]) rfl ?_;rw [HR.out];have hk:=HO3.out.1.kept hg (za8 HO3.out.1.row (by omega)) (fun y hy=>za8 (HO3.out.1.trees y hy) (by omega));exact ⟨_,rfl,va,vc,xs,rfl,HO3.out.2.1,hk.base (by omega),HO3.out.2.2,by rw [hD];exact HBD.out.grown hg (by have:=HBD.out.size;omega) (fun k e=>by injection e with e;omega)⟩
  by_cases hn2:1000000-nw<n
  ·have HR:Hid (res=((ts,ep,nw,jr),false)):=HV1b.out (by unfold inB;simp;omega);clear HV1b HV2b;obtain ⟨_,br,_,hbD⟩:=HD.out w3 HB3.out;have r0:=br.c0;have r1:=br.c1;have r2:=br.c2;have r3:=br.c3;have f0:=br.fr 0;have f1:=br.fr 1;have f2:=br.fr 2;have f3:=br.fr 3;have HBD:Hid (Below D w w3):=hbD;clear hbD br;go_wp2;obtain ⟨X,hX,y0,y1,y2,y3,hg⟩:=set4 (.slice va ts.length vc) (.int .i64 ep) (.int .i64 nw) (.string ⟨jr.toArray⟩) r0 r1 r2 r3;rw [hX];refine bodyPost_ret (v:=.tuple #[.agg #[.slice va ts.length vc,.int .i64 ep,.int .i64 nw,.string ⟨jr.toArray⟩],.bool false]) (by simp [results,Tryz.results10,go_sem,y0,y1,y2,y3]) rfl ?_;rw [HR.out];have hk:=HO3.out.1.kept hg (za8 HO3.out.1.row (by omega)) (fun y hy=>za8 (HO3.out.1.trees y hy) (by omega));exact ⟨_,rfl,va,vc,xs,rfl,HO3.out.2.1,hk.base (by omega),HO3.out.2.2,by rw [hD];exact HBD.out.grown hg (by have:=HBD.out.size;omega) (fun k e=>by injection e with e;omega)⟩
  ·
   have HR:Hid (res=((ts,ep,nw+n,jr),true)):=HV2b.out (by unfold inB;simp;omega);clear HV1b HV2b;obtain ⟨w4,hw4⟩:∃ W,w3.setCell ⟨Q,2,none⟩ (.int .i64 (nw+n))=W:=⟨_,rfl⟩
   have bQ4:=HBQ.out.s2 (.int .i64 (nw+n));have hg4:w3.grownBy w4 (some Q):=by rw [←hw4];exact zae _ _ _ _
   rw [hw4] at bQ4;have HB4:Hid (Below W2.heap.size W2 w4):=HB3.out.grown hg4 HB3.out.size (fun k e=>by injection e with e;have:=HB1.out.size;omega)
   have HO4:Hid (za2 w4 w1.heap.size (.slice va ts.length vc) xs):=HO3.out.1.kept hg4 (by
    rcases h:(Value.slice va ts.length vc).ownBlock with _ | k
    ·exact Or.inl rfl
    ·exact Or.inr (fun e=>by injection e with e;have:=HO3l.out k (Or.inl h);omega)) (fun x hx=>by
    rcases h:(tvT x).ownBlock with _ | k
    ·exact Or.inl rfl
    ·exact Or.inr (fun e=>by injection e with e;have:=HO3l.out k (Or.inr ⟨x,hx,h⟩);omega))
   obtain ⟨_,br,_,hbD⟩:=HD.out w4 HB4.out;have p0:=bQ4.c0;have p1:=bQ4.c1;have p2:=bQ4.c2;have p3:=bQ4.c3;have r0:=br.c0;have r1:=br.c1;have r2:=br.c2;have r3:=br.c3;have f0:=br.fr 0;have f1:=br.fr 1;have f2:=br.fr 2;have f3:=br.fr 3;have HBD:Hid (Below D w w4):=hbD;clear hbD br bQ4 hg4;go_wp2;obtain ⟨X,hX,y0,y1,y2,y3,hg⟩:=set4 (.slice va ts.length vc) (.int .i64 ep) (.int .i64 (nw+n)) (.string ⟨jr.toArray⟩) r0 r1 r2 r3;rw [hX];refine bodyPost_ret (v:=.tuple #[.agg #[.slice va ts.length vc,.int .i64 ep,.int .i64 (nw+n),.string ⟨jr.toArray⟩],.bool true]) (by simp [results,Tryz.results10,go_sem,y0,y1,y2,y3]) rfl ?_;rw [HR.out];have hk:=HO4.out.kept hg (za8 HO4.out.row (by omega)) (fun y hy=>za8 (HO4.out.trees y hy) (by omega));exact ⟨_,rfl,va,vc,xs,rfl,HO3.out.2.1,hk.base (by omega),HO3.out.2.2,by rw [hD];exact HBD.out.grown hg (by have:=HBD.out.size;omega) (fun k e=>by injection e with e;omega)⟩
end Go.Proofs.YtponeoijfaepnaaGreatDoor
