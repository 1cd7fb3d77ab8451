/-
  Parts of one proof, one behind the other: Draw8, Draw8L, Draw8M.
-/
import Derived.Test.YtponeoijfaepnaaGreatDoorP20
namespace Go.Proofs.YtponeoijfaepnaaGreatDoor
open Go.RowKit
set_option maxHeartbeats 8000000
set_option maxRecDepth 100000
structure PvLo (w:World) (y:PV):Prop where
 im:w.ownsRow y.lo 9 1 (pvI y) y.ims.length (strV y.ims)
 fo:zaU w y.lo (pvF y) y.xs
 top:∀ k,PkBlocks (pvI y) (pvF y) y.xs k→k<y.hi
theorem PvLo.wrote {w w':World} {y:PV} (h:PvLo w y) {S:Nat→Prop} (hw:zaZ w w' S) (hs:∀ k,S k→k<y.lo∨y.hi≤k):PvLo w' y:=by
 have hoff:∀ {e size n:Nat} {v:Value} {zs:List Value},w.ownsRow y.lo e size v n zs→(∀ k,v.ownBlock=some k→k<y.hi)→w'.ownsRow y.lo e size v n zs:=fun ho ht=>zbR ho hw (fun k hk hS=>by
  have h1:=(ho.lt k hk).1;have h2:=ht k hk;rcases hs k hS with h3 | h3<;>omega)
 exact ⟨hoff h.im (fun k e=>h.top k (Or.inl e)),⟨hoff h.fo.row (fun k e=>h.top k (Or.inr (Or.inl e))),fun x hx=>hoff (h.fo.trees x hx) (fun k e=>h.top k (Or.inr (Or.inr ⟨x,hx,e⟩)))⟩,h.top⟩
theorem PvLo.below {w w':World} {y:PV} (h:PvLo w y) (hb:Below w.heap.size w w'):PvLo w' y:=h.wrote (S:=fun _=>False) (zaZ.of_below hb) (fun _ e=>e.elim)
structure Pv8 (w:World) (y:PV):Prop where
 ok:PvLo w y
 sm:zeC y.xs
 n:1≤y.xs.length∧y.xs.length≤3
 nm:y.nm.length≤9
 im:y.ims.length≤8∧∀ t∈y.ims,t.length≤9
 sa:∃ g,y.ia=some ⟨g,0,none⟩
structure D8 (X w:World) (B:Nat) (a:Option Addr) (len cap N L:Nat) (la:Option Addr) (lc:Nat) (ys:List PV) (vc:Value) (cs:List Nd):Prop where
 nms:X.ownsRow w.heap.size 9 1 (.slice (some ⟨N,0,none⟩) 3 3) 3 (strV [[97],[98],[99]])
 row:X.ownsRow w.heap.size 99 3 (.slice la ys.length lc) ys.length (pvsV ys)
 cal:X.ownsRow w.heap.size 104 4 vc cs.length (zah cs)
 each:∀ y∈ys,Pv8 X y∧w.heap.size≤y.lo∧y.hi≤L
 seq:ys.Pairwise (fun a b=>a.hi≤b.lo)
 nl:N<L
 rl:∀ k,(Value.slice la ys.length lc).ownBlock=some k→k<L
 cl:∀ k,vc.ownBlock=some k→k<L∧∀ y∈ys,k<y.lo∨y.hi≤k
 csm:zbp cs∧∀ n∈cs,zbu n≤3
 cur:Cur X B a len cap
 g:w.grownBy X (some B)
 br:B<w.heap.size
 wl:w.heap.size≤L
 ls:L≤X.heap.size
section
variable {X Y w:World} {B:Nat} {a:Option Addr} {len cap N L:Nat} {la:Option Addr} {lc:Nat} {ys:List PV} {vc:Value} {cs:List Nd}
theorem D8.wrote (h:D8 X w B a len cap N L la lc ys vc cs) {S:Nat→Prop} (hw:zaZ X Y S) (hs:∀ k,S k→k=B∨L≤k) (hc:Cur Y B a len cap):D8 Y w B a len cap N L la lc ys vc cs:=by
 have hbr:=h.br;have hwl:=h.wl
 have hoff:∀ {e size n:Nat} {v:Value} {zs:List Value},X.ownsRow w.heap.size e size v n zs→(∀ k,v.ownBlock=some k→k<L)→Y.ownsRow w.heap.size e size v n zs:=fun ho ht=>zbR ho hw (fun k hk hS=>by
  have h1:=(ho.lt k hk).1;have h2:=ht k hk;rcases hs k hS with h3 | h3<;>omega)
 refine ⟨hoff h.nms (fun k e=>?_),hoff h.row h.rl,hoff h.cal (fun k e=>(h.cl k e).1),fun y hy=>?_,h.seq,h.nl,h.rl,h.cl,h.csm,hc,?_,hbr,hwl,Nat.le_trans h.ls hw.size⟩
 ·
  have e2:N=k:=by simpa [Value.ownBlock] using e
  have:=h.nl;omega
 ·obtain ⟨h1,h2,h3⟩:=h.each y hy;exact ⟨⟨h1.ok.wrote hw (fun k hS=>by rcases hs k hS with h4 | h4<;>omega),h1.sm,h1.n,h1.nm,h1.im,h1.sa⟩,h2,h3⟩
 ·
  have hg:=h.g
  exact ⟨hw.os.trans hg.os,hw.tape.trans hg.tape,hw.output.trans hg.output,Nat.le_trans hg.size hw.size,fun k hk hne=>(hw.block k (Nat.lt_of_lt_of_le hk hg.size) (fun hS=>by
   rcases hs k hS with h4 | h4
   ·exact hne (by rw [h4])
   ·omega)).trans (hg.block k hk hne)⟩
theorem D8.next (h:D8 X w B a len cap N L la lc ys vc cs) (hg:X.grownBy Y (some B)) (hc:Cur Y B a len cap):D8 Y w B a len cap N L la lc ys vc cs :=
 h.wrote (S:=fun k=>k=B) (zaZ.of_grown hg (fun k e=>by injection e with e;exact e.symm)) (fun k e=>Or.inl e) hc
theorem D8.below (h:D8 X w B a len cap N L la lc ys vc cs) (hb:Below X.heap.size X Y):D8 Y w B a len cap N L la lc ys vc cs :=
 h.wrote (S:=fun _=>False) (zaZ.of_below hb) (fun _ e=>e.elim) (h.cur.below hb)
theorem D8.upper (h:D8 X w B a len cap N L la lc ys vc cs) {row:Option Nat} (hg:X.grownBy Y row) (hr:∀ k,row=some k→L≤k):D8 Y w B a len cap N L la lc ys vc cs :=
 h.wrote (S:=fun k=>L≤k) (zaZ.of_grown hg hr) (fun k e=>Or.inr e) (h.cur.kept hg (fun k e=>by have:=hr k e;have:=h.br;have:=h.wl;omega))
theorem D8.raise (h:D8 X w B a len cap N L la lc ys vc cs) {L':Nat} (h1:L≤L') (h2:L'≤X.heap.size):D8 X w B a len cap N L' la lc ys vc cs :=
 ⟨h.nms,h.row,h.cal,fun y hy=>⟨(h.each y hy).1,(h.each y hy).2.1,Nat.le_trans (h.each y hy).2.2 h1⟩,h.seq,Nat.lt_of_lt_of_le h.nl h1,fun k e=>Nat.lt_of_lt_of_le (h.rl k e) h1,fun k e=>⟨Nat.lt_of_lt_of_le (h.cl k e).1 h1,(h.cl k e).2⟩,h.csm,h.cur,h.g,h.br,Nat.le_trans h.wl h1,h2⟩
theorem new_pk (W:World) (y:PV) (c:Nat):Src (W.alloc (.cells #[.string ⟨y.nm.toArray⟩,pvI y,pvF y] 99)) (.slice (some ⟨W.heap.size,0,none⟩) 1 c) 1 3 (pvsV [y]):=by
 refine ⟨rfl,fun u hu=>?_,Or.inr ⟨_,c,rfl,fun j u hu=>?_⟩⟩
 ·simp only [pvsV,List.mem_cons,List.not_mem_nil,or_false] at hu;rcases hu with rfl | rfl | rfl<;>rfl
 ·
  rw [zfe,Nat.zero_add]
  match j,hu with
  | 0,hu=>simp [pvsV] at hu;subst hu;simp
  | 1,hu=>simp [pvsV] at hu;subst hu;simp
  | 2,hu=>simp [pvsV] at hu;subst hu;simp
  | j+3,hu=>simp [pvsV] at hu
theorem zkx (x y:List PV):pvsV (x++y)=pvsV x++pvsV y:=by
 induction x with
 | nil=>rfl
 | cons n r ih=>simp [pvsV,ih]
theorem D8.push (h:D8 X w B a len cap N L la lc ys vc cs) (y:PV) (hy:Pv8 X y) (h0:w.heap.size≤y.lo) (h1:∀ z∈ys,z.hi≤y.lo) (h2:y.hi≤X.heap.size) (hn:ys.length≤8) (hc2:∀ k,vc.ownBlock=some k→k<y.lo∨y.hi≤k) :
 ∃ g' c' Y,(Builtin.append_ #[35,35] 35 #[.slice la ys.length lc,.slice (some ⟨X.heap.size,0,none⟩) 1 1]).run Tryz.prog (X.alloc (.cells #[.string ⟨y.nm.toArray⟩,pvI y,pvF y] 99))=.ok (.slice (some ⟨g',0,none⟩) (ys.length+1) c') Y ∧
  D8 Y w B a len cap N Y.heap.size (some ⟨g',0,none⟩) c' (ys++[y]) vc cs:=by
 obtain ⟨i0,hi,hz0,hz1,hz2⟩:=info_parts zkO;have hX1:Below X.heap.size X (X.alloc (.cells #[.string ⟨y.nm.toArray⟩,pvI y,pvF y] 99)):=(Below.refl _ _).alloc (Nat.le_refl _) _;have hd:=h.below hX1;have hyo:=hy.ok.below hX1;obtain ⟨v',Y,hrun,hown,hg,_⟩:=zar (P:=Tryz.prog) (X.alloc (.cells #[.string ⟨y.nm.toArray⟩,pvI y,pvF y] 99)) w.heap.size 35 35 99 i0 _ 3 64 Tryz.underlying35 hi hz0 hz1 hz2 rfl (by decide) _ _ _ hd.row _ 1 (pvsV [y]) (new_pk X y 1) (by unfold maxLen;omega) (by omega) hd.g.size;obtain ⟨g',c',rfl⟩:=zaw hown (by omega);have e1:(ys++[y]).length=ys.length+1:=by simp
 have hwl:=h.wl;have hls:=h.ls;have hys:=hg.size;refine ⟨g',c',Y,hrun,?_⟩;have hrowB:∀ k,(Value.slice la ys.length lc).ownBlock=some k→w.heap.size≤k∧k<L:=fun k e=>⟨(hd.row.lt k e).1,h.rl k e⟩
 have hW:zaZ (X.alloc (.cells #[.string ⟨y.nm.toArray⟩,pvI y,pvF y] 99)) Y (fun k=>(Value.slice la ys.length lc).ownBlock=some k):=zaZ.of_grown hg (fun k e=>e)
 have hkeep:∀ {z:PV},PvLo (X.alloc (.cells #[.string ⟨y.nm.toArray⟩,pvI y,pvF y] 99)) z→PvLo Y z:=fun hz =>
  ⟨hz.im.kept hg (zam hz.im hd.row (by decide)),hz.fo.kept hg (zam hz.fo.row hd.row (by decide)) (fun x hx=>zam (hz.fo.trees x hx) hd.row (by decide)),hz.top⟩
 refine ⟨hd.nms.kept hg (zam hd.nms hd.row (by decide)),?_,hd.cal.kept hg (zam hd.cal hd.row (by decide)),fun z hz=>?_,List.pairwise_append.2 ⟨h.seq,List.pairwise_singleton _ _,fun z hz q hq=>?_⟩,?_,fun k e=>?_,fun k e=>⟨?_,fun z hz=>?_⟩,h.csm,hd.cur.kept hg (fun k e=>by have:=(hrowB k e).1;have:=h.br;omega),?_,h.br,Nat.le_trans hd.g.size hys,Nat.le_refl _⟩
 ·rw [e1,zkx];exact hown
 ·
  rw [List.mem_append,List.mem_singleton] at hz;have hsz:X.heap.size≤Y.heap.size:=Nat.le_trans hX1.size hys;rcases hz with hz | rfl
  ·obtain ⟨h3,h4,h5⟩:=hd.each z hz;exact ⟨⟨hkeep h3.ok,h3.sm,h3.n,h3.nm,h3.im,h3.sa⟩,h4,by omega⟩
  ·exact ⟨⟨hkeep hyo,hy.sm,hy.n,hy.nm,hy.im,hy.sa⟩,by omega,by omega⟩
 ·rw [List.mem_singleton] at hq;subst hq;exact h1 z hz
 ·have:=h.nl;have:=hX1.size;omega
 ·exact ((show Y.ownsRow w.heap.size 99 3 (.slice (some ⟨g',0,none⟩) (ys.length+1) c') (ys.length+1) _ from hown).lt k (by rw [←e1];exact e)).2
 ·have:=(h.cl k e).1;have:=hX1.size;omega
 ·
  rw [List.mem_append,List.mem_singleton] at hz;rcases hz with hz | rfl
  ·exact (h.cl k e).2 z hz
  ·exact hc2 k e
 ·have hgw:=hd.g;exact ⟨hg.os.trans hgw.os,hg.tape.trans hgw.tape,hg.output.trans hgw.output,Nat.le_trans hgw.size hg.size,fun k hk hne=>(hg.block k (Nat.lt_of_lt_of_le hk hgw.size) (fun e=>by have:=(hrowB k e.symm).1;omega)).trans (hgw.block k hk hne)⟩
theorem D8.call (h:D8 X w B a len cap N L la lc ys vc cs) (n:Nd) (hn:zc9 n) (hk:zbu n≤3) (hc:cs.length≤1000) :
 ∃ v' Y,(Builtin.append_ #[102,102] 102 #[vc,.slice (some ⟨X.heap.size,0,none⟩) 1 1]).run Tryz.prog (X.alloc (.cells #[.int .i64 n.1,.int .i64 n.2.1,.string ⟨n.2.2.1.toArray⟩,.string ⟨n.2.2.2.toArray⟩] 104))=.ok v' Y ∧
  D8 Y w B a len cap N Y.heap.size la lc ys v' (cs++[n])∧X.grownBy Y vc.ownBlock∧(v'.ownBlock=vc.ownBlock∨v'.ownBlock=some (X.heap.size+1)):=by
 obtain ⟨i0,hi,hz0,hz1,hz2⟩:=info_parts ze5;obtain ⟨W,hW⟩:∃ W,X.alloc (.cells #[.int .i64 n.1,.int .i64 n.2.1,.string ⟨n.2.2.1.toArray⟩,.string ⟨n.2.2.2.toArray⟩] 104)=W:=⟨_,rfl⟩
 have hX1:Below X.heap.size X W:=by rw [←hW];exact (Below.refl _ _).alloc (Nat.le_refl _) _
 have hgX:X.grownBy W vc.ownBlock:=by rw [←hW];exact World.grownBy_alloc X _ _
 have hsW:W.heap.size=X.heap.size+1:=by rw [←hW];simp
 have hnew:=zin X n;rw [hW] at hnew ⊢;have hd:=h.below hX1;obtain ⟨v',Y,hrun,hown,hg,_,hat⟩:=run_append_own_at (P:=Tryz.prog) W w.heap.size 102 102 104 i0 _ 4 48 Tryz.underlying102 hi hz0 hz1 hz2 rfl (by decide) _ _ _ hd.cal ⟨X.heap.size,0,none⟩ 1 1 (zah [n]) (by rw [zbX];rfl) hnew (zcE _) (by unfold maxLen;omega) (by omega) hd.g.size;have e1:(cs++[n]).length=cs.length+1:=by simp
 have hown2:Y.ownsRow w.heap.size 104 4 v' (cs++[n]).length (zah (cs++[n])):=by rw [e1,zc3];exact hown
 have hvB:∀ k,vc.ownBlock=some k→w.heap.size≤k∧k<L:=fun k e=>⟨(hd.cal.lt k e).1,(h.cl k e).1⟩
 have hwl:=h.wl;have hls:=h.ls;have hgs:=hg.size;have hbr:=h.br;have hWr:zaZ W Y (fun k=>vc.ownBlock=some k):=zaZ.of_grown hg (fun k e=>e);refine ⟨v',Y,hrun,⟨hd.nms.kept hg (zam hd.nms hd.cal (by decide)),hd.row.kept hg (zam hd.row hd.cal (by decide)),hown2,fun z hz=>?_,h.seq,by have:=h.nl;omega,fun k e=>by have:=h.rl k e;omega,fun k e=>⟨(hown2.lt k e).2,fun z hz=>?_⟩,⟨zeH h.csm.1 (fun m hm=>by rw [List.mem_singleton] at hm;subst hm;exact hn),fun m hm=>?_⟩,hd.cur.kept hg (fun k e=>by have:=(hvB k e).1;omega),?_,hbr,by omega,Nat.le_refl _⟩,hgX.trans hg,by rw [hsW] at hat;exact hat⟩
 ·obtain ⟨h3,h4,h5⟩:=hd.each z hz;exact ⟨⟨h3.ok.wrote hWr (fun k e=>(h.cl k e).2 z hz),h3.sm,h3.n,h3.nm,h3.im,h3.sa⟩,h4,by omega⟩
 ·
  rcases hat with e2 | e2
  ·exact (h.cl k (by rw [←e2];exact e)).2 z hz
  ·rw [e2] at e;injection e with e;have:=(h.each z hz).2.2;right;omega
 ·
  rw [List.mem_append,List.mem_singleton] at hm;rcases hm with hm | rfl
  ·exact h.csm.2 m hm
  ·exact hk
 ·have hgw:=hd.g;exact ⟨hg.os.trans hgw.os,hg.tape.trans hgw.tape,hg.output.trans hgw.output,Nat.le_trans hgw.size hg.size,fun k hk hne=>(hg.block k (Nat.lt_of_lt_of_le hk hgw.size) (fun e=>by have:=(hvB k e.symm).1;omega)).trans (hgw.block k hk hne)⟩
end
structure I8 (X:World) (L:Nat) (vi:Value) (ims:List (List UInt8)) (vo:Value) (os:List Nd):Prop where
 im:X.ownsRow L 9 1 vi ims.length (strV ims)
 ow:X.ownsRow L 104 4 vo os.length (zah os)
 is:∀ t∈ims,t.length≤9
 osm:zbp os∧∀ n∈os,zbu n≤3
 so:∃ g c,vi=.slice (some ⟨g,0,none⟩) ims.length c
theorem I8.below {X Y:World} {L:Nat} {vi:Value} {ims:List (List UInt8)} {vo:Value} {os:List Nd} (h:I8 X L vi ims vo os) (hb:Below X.heap.size X Y):I8 Y L vi ims vo os:=⟨za5 h.im hb,za5 h.ow hb,h.is,h.osm,h.so⟩
theorem I8.next {X Y:World} {L B:Nat} {vi:Value} {ims:List (List UInt8)} {vo:Value} {os:List Nd} (h:I8 X L vi ims vo os) (hg:X.grownBy Y (some B)) (hB:B<L):I8 Y L vi ims vo os :=
 ⟨zck h.im hg (fun k e=>by injection e with e;omega),zck h.ow hg (fun k e=>by injection e with e;omega),h.is,h.osm,h.so⟩
theorem I8.imp {X:World} {L:Nat} {vi:Value} {ims:List (List UInt8)} {vo:Value} {os:List Nd} (h:I8 X L vi ims vo os) (x:List UInt8) (hx:x.length≤9) (hL:L≤X.heap.size) (hn:ims.length≤100) :
 ∃ v' Y,(Builtin.append_ #[67,67] 67 #[vi,.slice (some ⟨X.heap.size,0,none⟩) 1 1]).run Tryz.prog (X.alloc (.cells #[.string ⟨x.toArray⟩] 9))=.ok v' Y∧I8 Y L v' (ims++[x]) vo os∧X.grownBy Y vi.ownBlock:=by
 obtain ⟨v',Y,hrun,hv',hg⟩:=zci x h.im hL (by omega);refine ⟨v',Y,hrun,⟨by rw [List.length_append,List.length_singleton];exact hv',h.ow.kept hg (zam h.ow h.im (by decide)),fun t ht=>?_,h.osm,by rw [List.length_append,List.length_singleton];exact zaw hv' (by omega)⟩,hg⟩;rw [List.mem_append,List.mem_singleton] at ht;rcases ht with ht | rfl
 ·exact h.is t ht
 ·exact hx
theorem I8.node {X:World} {L:Nat} {vi:Value} {ims:List (List UInt8)} {vo:Value} {os:List Nd} (h:I8 X L vi ims vo os) (n:Nd) (hsn:zc9 n) (hk:zbu n≤3) (hL:L≤X.heap.size) (hn:os.length≤1000) :
 ∃ v' Y,(Builtin.append_ #[102,102] 102 #[vo,.slice (some ⟨X.heap.size,0,none⟩) 1 1]).run Tryz.prog (X.alloc (.cells #[.int .i64 n.1,.int .i64 n.2.1,.string ⟨n.2.2.1.toArray⟩,.string ⟨n.2.2.2.toArray⟩] 104))=.ok v' Y∧I8 Y L vi ims v' (os++[n])∧X.grownBy Y vo.ownBlock:=by
 obtain ⟨i0,hi,hz0,hz1,hz2⟩:=info_parts ze5;obtain ⟨W,hW⟩:∃ W,X.alloc (.cells #[.int .i64 n.1,.int .i64 n.2.1,.string ⟨n.2.2.1.toArray⟩,.string ⟨n.2.2.2.toArray⟩] 104)=W:=⟨_,rfl⟩
 have hX1:Below X.heap.size X W:=by rw [←hW];exact (Below.refl _ _).alloc (Nat.le_refl _) _
 have hgX:X.grownBy W vo.ownBlock:=by rw [←hW];exact World.grownBy_alloc X _ _
 have hnew:=zin X n;rw [hW] at hnew ⊢;have hd:=h.below hX1;obtain ⟨v',Y,hrun,hown,hg,_,_⟩:=run_append_own_at (P:=Tryz.prog) W L 102 102 104 i0 _ 4 48 Tryz.underlying102 hi hz0 hz1 hz2 rfl (by decide) _ _ _ hd.ow ⟨X.heap.size,0,none⟩ 1 1 (zah [n]) (by rw [zbX];rfl) hnew (zcE _) (by unfold maxLen;omega) (by omega) (Nat.le_trans hL hX1.size);refine ⟨v',Y,hrun,⟨hd.im.kept hg (zam hd.im hd.ow (by decide)),by rw [List.length_append,List.length_singleton,zc3];exact hown,h.is,⟨zeH h.osm.1 (fun m hm=>by rw [List.mem_singleton] at hm;subst hm;exact hsn),fun m hm=>?_⟩,h.so⟩,hgX.trans hg⟩;rw [List.mem_append,List.mem_singleton] at hm;rcases hm with hm | rfl
 ·exact h.osm.2 m hm
 ·exact hk
theorem D8.start {w w1:World} {B:Nat} {a:Option Addr} {len cap:Nat} (hc:Cur w B a len cap) (hc1:Cur w1 B a len cap) (hg:(w.alloc (.cells #[.string ⟨#[97]⟩,.string ⟨#[98]⟩,.string ⟨#[99]⟩] 9)).grownBy w1 (some B)) :
 D8 ((w1.alloc (.cells #[] 99)).alloc (.cells #[] 104)) w B a len cap w.heap.size (w1.heap.size+2) (some ⟨w1.heap.size,0,none⟩) 0 [] (.slice (some ⟨w1.heap.size+1,0,none⟩) 0 0) []:=by
 have hB:=hc.lt;have hs1:=hg.size;rw [World.size_alloc] at hs1;have hn0:=World.ownsRow_lit (base:=w.heap.size) (e:=9) (size:=1) w #[.string ⟨#[97]⟩,.string ⟨#[98]⟩,.string ⟨#[99]⟩] 3 (Nat.le_refl _) (by decide) rfl;have hn1:=zck hn0 hg (fun k e=>by injection e with e;omega);have hb:Below w1.heap.size w1 ((w1.alloc (.cells #[] 99)).alloc (.cells #[] 104)):=((Below.refl _ _).alloc (Nat.le_refl _) _).alloc (by simp) _;have hr:=(World.ownsRow_lit (base:=w.heap.size) (e:=99) (size:=3) w1 #[] 0 (by omega) (by decide) rfl).alloc (.cells #[] 104);have hl:=World.ownsRow_lit (base:=w.heap.size) (e:=104) (size:=4) (w1.alloc (.cells #[] 99)) #[] 0 (by simp;omega) (by decide) rfl;rw [World.size_alloc] at hl;refine ⟨za5 hn1 hb,hr,hl,fun y hy=>(by cases hy),List.Pairwise.nil,by omega,fun k e=>?_,fun k e=>⟨?_,fun y hy=>(by cases hy)⟩,⟨fun n hn=>(by cases hn),fun n hn=>(by cases hn)⟩,hc1.below hb,?_,hB,by omega,by simp⟩
 ·simp [Value.ownBlock] at e;omega
 ·simp [Value.ownBlock] at e;omega
 ·exact (((World.grownBy_alloc w _ (some B)).trans hg).trans (World.grownBy_alloc w1 _ (some B))).trans (World.grownBy_alloc _ _ (some B))
theorem D8.drew {X w:World} {B:Nat} {a:Option Addr} {len cap N L:Nat} {la:Option Addr} {lc:Nat} {ys:List PV} {vc:Value} {cs:List Nd} (h:D8 X w B a len cap N L la lc ys vc cs):D8 X.drew w B a len cap N L la lc ys vc cs:=h.upper (zap X none) (by simp)
theorem D8.name {X w:World} {B:Nat} {a:Option Addr} {len cap N L:Nat} {la:Option Addr} {lc:Nat} {ys:List PV} {vc:Value} {cs:List Nd} (h:D8 X w B a len cap N L la lc ys vc cs) {k:Nat} (hk:k<3):∃ x:List UInt8,x.length≤9∧X.cell? ⟨N,k,none⟩=some (.string ⟨x.toArray⟩):=by
 refine ⟨_,?_,zfh h.nms rfl k hk⟩
 match k,hk with
 | 0,_=>simp
 | 1,_=>simp
 | 2,_=>simp
theorem zdd {w:World} {base n:Nat} {v:Value} {ns:List Nd} (h:w.ownsRow base 104 4 v n (zah ns)):∃ a c,v=.slice a n c∧(a=none→c=0)∧zay w a n ns:=by
 obtain ⟨_,a,c,rfl,hin⟩:=zcj h;refine ⟨a,c,rfl,fun e=>?_,hin⟩;rcases zaR h with ⟨e1,_,_⟩ | ⟨g,cp,e1⟩
 ·injection e1
 ·injection e1 with e1;rw [e] at e1;cases e1
theorem pv8_mk {X Y:World} {H B:Nat} {nm:List UInt8} {ia fa:Option Addr} {ic fc:Nat} {ims:List (List UInt8)} {xs:List FV} {vo:Value} {os:List Nd} (hI:I8 X H (.slice ia ims.length ic) ims vo os) (hg:X.grownBy Y (some B)) (hB:B<H) (hH:H≤X.heap.size) (hf:zaU Y X.heap.size (.slice fa xs.length fc) xs) (hn:1≤xs.length∧xs.length≤3) (hx:zeC xs) (hnm:nm.length≤9) (hil:ims.length≤8) :
 Pv8 Y ⟨nm,ims,xs,ia,ic,fa,fc,H,Y.heap.size⟩:=by
 have him:=zck hI.im hg (fun k e=>by injection e with e;omega);have hfo:=hf.base hH;refine ⟨⟨him,hfo,fun k hk=>?_⟩,hx,hn,hnm,⟨hil,hI.is⟩,by obtain ⟨g,c,e⟩:=hI.so;injection e with e;exact ⟨g,e⟩⟩;rcases hk with e | e | ⟨x,hx,e⟩
 ·exact (him.lt k e).2
 ·exact (hfo.row.lt k e).2
 ·exact ((hfo.trees x hx).lt k e).2
structure E8 (X w:World) (B:Nat) (a:Option Addr) (len cap N:Nat) (la:Option Addr) (lc:Nat) (ys:List PV) (vc:Value) (cs:List Nd) (y:PV) (P:Nat):Prop where
 d:∃ L,D8 X w B a len cap N L la lc ys vc cs
 y8:Pv8 X y
 lo:w.heap.size≤y.lo∧∀ z∈ys,z.hi≤y.lo
 hi:y.hi≤P
 off:∀ k,vc.ownBlock=some k→k≠P∧(k<y.lo∨y.hi≤k)
 box:Box3 X P (.string ⟨y.nm.toArray⟩) (pvI y) (pvF y)
theorem E8.drew {X w:World} {B:Nat} {a:Option Addr} {len cap N:Nat} {la:Option Addr} {lc:Nat} {ys:List PV} {vc:Value} {cs:List Nd} {y:PV} {P:Nat} (h:E8 X w B a len cap N la lc ys vc cs y P):E8 X.drew w B a len cap N la lc ys vc cs y P:=by
 obtain ⟨L,d⟩:=h.d;exact ⟨⟨L,d.drew⟩,⟨h.y8.ok.wrote (S:=fun _=>False) (zaZ.of_grown (zap X none) (by simp)) (fun _ e=>e.elim),h.y8.sm,h.y8.n,h.y8.nm,h.y8.im,h.y8.sa⟩,h.lo,h.hi,h.off,h.box.drew⟩
theorem E8.call {X w:World} {B:Nat} {a:Option Addr} {len cap N:Nat} {la:Option Addr} {lc:Nat} {ys:List PV} {vc:Value} {cs:List Nd} {y:PV} {P:Nat} (h:E8 X w B a len cap N la lc ys vc cs y P) (n:Nd) (hn:zc9 n) (hk:zbu n≤3) (hc:cs.length≤1000) :
 ∃ v' Y,(Builtin.append_ #[102,102] 102 #[vc,.slice (some ⟨X.heap.size,0,none⟩) 1 1]).run Tryz.prog (X.alloc (.cells #[.int .i64 n.1,.int .i64 n.2.1,.string ⟨n.2.2.1.toArray⟩,.string ⟨n.2.2.2.toArray⟩] 104))=.ok v' Y∧E8 Y w B a len cap N la lc ys v' (cs++[n]) y P:=by
 obtain ⟨L,d⟩:=h.d;obtain ⟨v',Y,hrun,hd,hg,hat⟩:=d.call n hn hk hc;have hP:=h.box.lt;have hhi:=h.hi;refine ⟨v',Y,hrun,⟨_,hd⟩,⟨h.y8.ok.wrote (S:=fun k=>vc.ownBlock=some k) (zaZ.of_grown hg (fun k e=>e)) (fun k e=>(h.off k e).2),h.y8.sm,h.y8.n,h.y8.nm,h.y8.im,h.y8.sa⟩,h.lo,h.hi,fun k e=>?_,h.box.grown hg (fun e=>(h.off P e.symm).1 rfl)⟩;rcases hat with e2 | e2
 ·exact h.off k (by rw [←e2];exact e)
 ·rw [e2] at e;injection e with e;exact ⟨by omega,Or.inr (by omega)⟩
theorem E8.push {X w:World} {B:Nat} {a:Option Addr} {len cap N:Nat} {la:Option Addr} {lc:Nat} {ys:List PV} {vc:Value} {cs:List Nd} {y:PV} {P:Nat} (h:E8 X w B a len cap N la lc ys vc cs y P) (hn:ys.length≤8) :
 ∃ g' c' Y L,(Builtin.append_ #[35,35] 35 #[.slice la ys.length lc,.slice (some ⟨X.heap.size,0,none⟩) 1 1]).run Tryz.prog (X.alloc (.cells #[.string ⟨y.nm.toArray⟩,pvI y,pvF y] 99))=.ok (.slice (some ⟨g',0,none⟩) (ys.length+1) c') Y ∧
  D8 Y w B a len cap N L (some ⟨g',0,none⟩) c' (ys++[y]) vc cs:=by
 obtain ⟨L,d⟩:=h.d;have hP:=h.box.lt;have hhi:=h.hi;obtain ⟨g',c',Y,hrun,hd⟩:=d.push y h.y8 h.lo.1 h.lo.2 (by omega) hn (fun k e=>(h.off k e).2);exact ⟨g',c',Y,_,hrun,hd⟩
theorem E8.start {X Y Z w:World} {B:Nat} {a:Option Addr} {len cap N H:Nat} {la:Option Addr} {lc:Nat} {ys:List PV} {vc:Value} {cs:List Nd} {nm:List UInt8} {ia fa:Option Addr} {ic fc:Nat} {ims:List (List UInt8)} {xs:List FV} {vo:Value} {os:List Nd} (hd:D8 X w B a len cap N H la lc ys vc cs) (hI:I8 X H (.slice ia ims.length ic) ims vo os) (hg:X.grownBy Y (some B)) (hcu:Cur Y B a len cap) (hf:zaU Y X.heap.size (.slice fa xs.length fc) xs) (hn:1≤xs.length∧xs.length≤3) (hx:zeC xs) (hnm:nm.length≤9) (hil:ims.length≤8)
 (hZ:Below Y.heap.size Y Z) (hbx:Box3 Z Y.heap.size (.string ⟨nm.toArray⟩) (.slice ia ims.length ic) (.slice fa xs.length fc)):E8 Z w B a len cap N la lc ys vc cs ⟨nm,ims,xs,ia,ic,fa,fc,H,Y.heap.size⟩ Y.heap.size:=by
 have hy:=pv8_mk (nm:=nm) hI hg (by have:=hd.br;have:=hd.wl;omega) hd.ls hf hn hx hnm hil;have hls:=hd.ls;have hgs:=hg.size;refine ⟨⟨H,(hd.next hg hcu).below hZ⟩,⟨hy.ok.below hZ,hy.sm,hy.n,hy.nm,hy.im,hy.sa⟩,⟨hd.wl,fun z hz=>(hd.each z hz).2.2⟩,Nat.le_refl _,fun k e=>?_,hbx⟩;have:=(hd.cl k e).1;exact ⟨by omega,Or.inl this⟩
theorem E8.fn {X w:World} {B:Nat} {a:Option Addr} {len cap N:Nat} {la:Option Addr} {lc:Nat} {ys:List PV} {vc:Value} {cs:List Nd} {y:PV} {P:Nat} (h:E8 X w B a len cap N la lc ys vc cs y P) {g:Nat} (hg:y.fa=some ⟨g,0,none⟩) {j:Nat} (hj:j<y.xs.length) :
 ∃ (s:List UInt8) (z:Int),X.cell? ⟨g,j*3,none⟩=some (.string ⟨s.toArray⟩)∧X.cell? ⟨g,j*3+1,none⟩=some (.int .i64 z)∧s.length≤9∧0≤z∧z≤3:=by
 have hr:=h.y8.ok.fo.row;unfold pvF at hr;rw [hg] at hr;have hm:y.xs.getD j fv0∈y.xs:=by simp [List.getD,hj]
 obtain ⟨h1,h2,h3⟩:=h.y8.sm _ hm;exact ⟨_,_,(World.ownsRow.cellAt hr (j*3) (by omega)).trans (ziF y.xs j hj).1,(World.ownsRow.cellAt hr (j*3+1) (by omega)).trans (ziF y.xs j hj).2.1,h1.1,h2,h3.1⟩
theorem I8.start (W:World):I8 ((W.alloc (.cells #[] 9)).alloc (.cells #[] 104)) W.heap.size (.slice (some ⟨W.heap.size,0,none⟩) 0 0) [] (.slice (some ⟨W.heap.size+1,0,none⟩) 0 0) []:=by
 have hl:=World.ownsRow_lit (base:=W.heap.size) (e:=104) (size:=4) (W.alloc (.cells #[] 9)) #[] 0 (by simp) (by decide) rfl;rw [World.size_alloc] at hl;exact ⟨(World.ownsRow_lit (base:=W.heap.size) (e:=9) (size:=1) W #[] 0 (Nat.le_refl _) (by decide) rfl).alloc _,hl,fun t ht=>(by cases ht),⟨fun n hn=>(by cases hn),fun n hn=>(by cases hn)⟩,⟨_,_,rfl⟩⟩
theorem drawPs (w:World) (B:Nat) (a:Option Addr) (len cap:Nat) (hc:Cur w B a len cap) :
 Calls Tryz.prog 52 #[.pointer (some ⟨B,0,none⟩)] w fun e w'=>∃ L la lc ys vc cs,e=.returned (.slice la (ys:List PV).length lc)∧D8 w' w B a len cap w.heap.size L la lc ys vc cs∧1≤ys.length∧ys.length≤4:=by
 have hc0:=hc.kept (World.grownBy_alloc w (.cells #[.string ⟨#[97]⟩,.string ⟨#[98]⟩,.string ⟨#[99]⟩] 9) none) (by simp)
 go_enter Tryz.func52,Tryz.ntmps52
 go_wp2_with fail
 refine (zad _ B a len cap 4 (by omega) (by omega) hc0).mono ?_;rintro e w1 ⟨x,rfl,hx0,hx1,hc1,hg1⟩;have HD0:Hid (D8 ((w1.alloc (.cells #[] 99)).alloc (.cells #[] 104)) w B a len cap w.heap.size (w1.heap.size+2) (some ⟨w1.heap.size,0,none⟩) 0 [] (.slice (some ⟨w1.heap.size+1,0,none⟩) 0 0) []):=D8.start hc hc1 hg1;obtain ⟨T,rfl⟩:∃ T:Nat,x=(T:Int):=Int.eq_ofNat_of_zero_le hx0
 obtain ⟨N,hN⟩:∃ N,w.heap.size=N:=⟨_,rfl⟩
 rw [hN] at HD0;clear hc0 hc1 hg1 hx0;have HN:Hid (w.heap.size=N):=hN;go_wp2
 go_loopw [5,6,7] (fun lv cv iv wr=>∃ (L i:Nat) (la:Option Addr) (lc:Nat) (ys:List PV) (ca:Option Addr) (cc:Nat) (cs:List Nd),lv=.slice la ys.length lc∧cv=.slice ca cs.length cc∧iv=.int .i64 (i:Int)∧i≤T+1∧Hid (ys.length=i)∧Hid (cs.length≤3*i)∧Hid (D8 wr w B a len cap N L la lc ys (.slice ca cs.length cc) cs)) (fun _ _ iv _=>T+1-(intOf iv).toNat)
 case atStart=>exact ⟨_,0,_,0,[],_,0,[],rfl,rfl,rfl,by omega,(rfl:([]:List PV).length=0),(Nat.zero_le _:([]:List Nd).length≤3*0),HD0⟩
 case round =>
  obtain ⟨L,i,la,lc,ys,ca,cc,cs,rfl,rfl,rfl,hi,HY,HC,HD⟩:=hrel;clear HD0;by_cases hiT:(i:Int)≤(T:Int)
  rotate_left
  ·
   obtain rfl:i=T+1:=by omega
   go_wp2;go_ret;exact ⟨L,la,lc,ys,rfl,⟨_,cs,HD.out⟩,by have:=HY.out;omega,by have:=HY.out;omega⟩
  ·
   obtain ⟨W,hW⟩:∃ W,W=wr:=⟨_,rfl⟩
   subst hW
   go_upto_if 27 with fail
   go_cut [8] from 27 to 108 (fun v wx=>∃ nm:List UInt8,v=.string ⟨nm.toArray⟩∧nm.length≤9∧W=wx)
   case first =>
    by_cases hit:(i:Int)<(T:Int)
    ·
     obtain ⟨x,hx,c0⟩:=HD.out.name (k:=i) (by omega);have hi3:(i:Int)<3:=by omega
     go_wp2;go_meet
     case rel=>exact ⟨x,rfl,hx,rfl⟩
    ·
     go_wp2;go_meet
     case rel=>exact ⟨[109,97,105,110],rfl,by simp,rfl⟩
   case rest =>
    obtain ⟨nm,rfl,hnm,rfl⟩:=hcut;have HD1:Hid (D8 ((W.alloc (.cells #[] 9)).alloc (.cells #[] 104)) w B a len cap N W.heap.size la lc ys (.slice ca cs.length cc) cs):=(HD.out.raise HD.out.ls (Nat.le_refl _)).below (((Below.refl _ _).alloc (Nat.le_refl _) _).alloc (by simp) _);have HI1:Hid (I8 ((W.alloc (.cells #[] 9)).alloc (.cells #[] 104)) W.heap.size (.slice (some ⟨W.heap.size,0,none⟩) 0 0) [] (.slice (some ⟨W.heap.size+1,0,none⟩) 0 0) []):=I8.start W;clear HD;go_wp2
    go_loopw [9,10,11] (fun iv ov kv wx=>∃ (ia:Option Addr) (ic:Nat) (ims:List (List UInt8)) (oa:Option Addr) (oc:Nat) (os:List Nd) (k:Nat),iv=.slice ia ims.length ic∧ov=.slice oa os.length oc∧kv=.int .i64 (k:Int)∧k≤i∧Hid (ims.length≤k)∧Hid (os.length≤9*k)∧Hid (D8 wx w B a len cap N W.heap.size la lc ys (.slice ca cs.length cc) cs)∧Hid (I8 wx W.heap.size (.slice ia ims.length ic) ims (.slice oa os.length oc) os)) (fun _ _ kv _=>i-(intOf kv).toNat)
    case atStart=>exact ⟨_,0,[],_,0,[],0,rfl,rfl,rfl,by omega,(Nat.le_refl _:([]:List (List UInt8)).length≤0),(Nat.zero_le _:([]:List Nd).length≤9*0),HD1,HI1⟩
    case round =>
     obtain ⟨ia,ic,ims,oa,oc,os,k,rfl,rfl,rfl,hk,HIL,HOL,HD2,HI2⟩:=hrel;clear HD1 HI1;obtain ⟨X,hX⟩:∃ X,X=wr:=⟨_,rfl⟩
     subst hX;by_cases hki:(k:Int)<(i:Int)
     ·
      have hkT:(k:Int)<(T:Int):=by omega
      go_wp2_with fail
      refine (zbO X B a len cap 2 (by omega) (by omega) HD2.out.cur).mono ?_;rintro e w3 ⟨b3,rfl,hc3,hg3⟩;have HD3:Hid (D8 w3 w B a len cap N W.heap.size la lc ys (.slice ca cs.length cc) cs):=HD2.out.next hg3 hc3;have HI3:Hid (I8 w3 W.heap.size (.slice ia ims.length ic) ims (.slice oa os.length oc) os):=HI2.out.next hg3 (by have:=HD2.out.br;have:=HD2.out.wl;omega);clear hc3 hg3 HD2 HI2;rcases b3 with _ | _
      ·
       go_wp2;go_roundw
       case rel=>exact ⟨ia,ic,ims,oa,oc,os,k+1,rfl,rfl,by go_num,by omega,Nat.le_succ_of_le HIL.out,Nat.le_trans HOL.out (by omega),HD3,HI3⟩
       case measure=>simp [intOf];omega
      ·
       obtain ⟨x,hx,c0⟩:=HD3.out.name (k:=k) (by omega);obtain ⟨v4,w4,hr4,hI4,hg4⟩:=HI3.out.imp x hx HD3.out.ls (by have:=HIL.out;omega);have HD4:Hid (D8 w4 w B a len cap N W.heap.size la lc ys (.slice ca cs.length cc) cs):=HD3.out.upper hg4 (fun q e=>(HI3.out.im.lt q e).1);obtain ⟨ia4,ic4,rfl,_,_⟩:=zfp hI4.im;obtain ⟨im4,him4⟩:∃ im4,ims++[x]=im4:=⟨_,rfl⟩
       have HIL4:Hid (im4.length≤k+1):=by exact (by rw [←him4,List.length_append,List.length_singleton];have:=HIL.out;omega:im4.length≤k+1)
       rw [him4] at hr4 hI4;have HI4:Hid (I8 w4 W.heap.size (.slice ia4 im4.length ic4) im4 (.slice oa os.length oc) os):=hI4;have hk3:(k:Int)<3:=by omega
       clear him4 hI4 hg4 HI3 HD3 HIL
       go_wp2_with (at_builtin;refine za0 rfl (.tmp 46) (.tmp 51) 67 rfl _ _ _ rfl rfl hr4 ?_;clear hr4)
       go_loopw [10,12] (fun ov jv wy=>∃ (oa:Option Addr) (oc:Nat) (os:List Nd) (j:Nat),ov=.slice oa os.length oc∧jv=.int .i64 (j:Int)∧j≤cs.length∧Hid (os.length≤9*k+j)∧Hid (D8 wy w B a len cap N W.heap.size la lc ys (.slice ca cs.length cc) cs)∧Hid (I8 wy W.heap.size (.slice ia4 im4.length ic4) im4 (.slice oa os.length oc) os)) (fun _ jv _=>cs.length-(intOf jv).toNat)
       case atStart=>exact ⟨oa,oc,os,0,rfl,rfl,by omega,HOL,HD4,HI4⟩
       case round =>
        obtain ⟨oa,oc,os,j,rfl,rfl,hj,HOL,HD5,HI5⟩:=hrel;clear HD4 HI4;obtain ⟨X5,hX5⟩:∃ X,X=wr:=⟨_,rfl⟩
        subst hX5;have hcl:=HC.out;by_cases hjl:(j:Int)<(cs.length:Int)
        ·
         obtain ⟨x5,hx5,c5⟩:=HD5.out.name (k:=k) (by omega);obtain ⟨_,_,e0,_,hin⟩:=zdd HD5.out.cal;injection e0 with e0 _ e2;subst e0;subst e2;obtain ⟨cb,co,hca,_,hcells⟩:=hin.at (by omega);subst hca;obtain ⟨q0,q1,q2,q3⟩:=hcells j (by omega);have hm:cs.getD j nd0∈cs:=by simp [List.getD,show j<cs.length by omega]
         have hsm:=HD5.out.csm.1 _ hm;have hkd:=HD5.out.csm.2 _ hm;obtain ⟨n5,hn5⟩:∃ n,cs.getD j nd0=n:=⟨_,rfl⟩
         rw [hn5] at q0 q1 q2 q3 hsm hkd;obtain ⟨kd5,a5,p5,f5⟩:=n5;simp only at q0 q1 q2 q3;clear hn5 hcells hin hm;rcases hb:(p5==x5) with _ | _
         ·
          go_wp2_with fail
          go_quiet (fail)
          go_wp2;go_roundw
          case rel=>exact ⟨oa,oc,os,j+1,rfl,by go_num,by omega,Nat.le_succ_of_le HOL.out,HD5.out.upper (row:=none) ⟨rfl,rfl,rfl,Nat.le_refl _,fun _ _ _=>rfl⟩ (by simp),HI5.out.below ⟨rfl,rfl,rfl,Nat.le_refl _,fun _ _=>rfl⟩⟩
          case measure=>simp [intOf];omega
         ·
          go_wp2_with fail
          go_quiet (fail)
          generalize hX6:X5.drewN _=X6;have HD6:Hid (D8 X6 w B a len cap N W.heap.size la lc ys (.slice (some ⟨cb,co,none⟩) cs.length cc) cs):=by exact (by rw [←hX6];exact HD5.out.upper (row:=none) ⟨rfl,rfl,rfl,Nat.le_refl _,fun _ _ _=>rfl⟩ (by simp):D8 X6 w B a len cap N W.heap.size la lc ys (.slice (some ⟨cb,co,none⟩) cs.length cc) cs)
          have hI6:I8 X6 W.heap.size (.slice ia4 im4.length ic4) im4 (.slice oa os.length oc) os:=by rw [←hX6];exact HI5.out.below ⟨rfl,rfl,rfl,Nat.le_refl _,fun _ _=>rfl⟩
          have s0:X6.cell? ⟨cb,co+j*4,none⟩=some (.int .i64 kd5):=by rw [←hX6];exact q0
          have s1:X6.cell? ⟨cb,co+j*4+1,none⟩=some (.int .i64 a5):=by rw [←hX6];exact q1
          have s2:X6.cell? ⟨cb,co+j*4+2,none⟩=some (.string ⟨p5.toArray⟩):=by rw [←hX6];exact q2
          have s3:X6.cell? ⟨cb,co+j*4+3,none⟩=some (.string ⟨f5.toArray⟩):=by rw [←hX6];exact q3
          obtain ⟨v7,w7,hr7,hI7,hg7⟩:=hI6.node (kd5,a5,p5,f5) hsm hkd HD6.out.ls (by have:=HOL.out;omega);have HD7:Hid (D8 w7 w B a len cap N W.heap.size la lc ys (.slice (some ⟨cb,co,none⟩) cs.length cc) cs):=HD6.out.upper hg7 (fun q e=>(hI6.ow.lt q e).1);obtain ⟨oa7,oc7,rfl,_,_⟩:=zdd hI7.ow;obtain ⟨os7,hos7⟩:∃ os7,os++[((kd5,a5,p5,f5):Nd)]=os7:=⟨_,rfl⟩
          have HOL7:Hid (os7.length≤9*k+(j+1)):=by exact (by rw [←hos7,List.length_append,List.length_singleton];have:=HOL.out;omega:os7.length≤9*k+(j+1))
          rw [hos7] at hr7 hI7;simp only at hr7;have HI7:Hid (I8 w7 W.heap.size (.slice ia4 im4.length ic4) im4 (.slice oa7 os7.length oc7) os7):=hI7;clear hX6 hos7 hI7 hg7 hI6 HD6 HD5 HI5 HOL q0 q1 q2 q3 c5 hb
          go_wp2_with (at_builtin;refine za0 rfl (.tmp 69) (.tmp 74) 102 rfl _ _ _ rfl rfl hr7 ?_;clear hr7)
          go_roundw
          case rel=>exact ⟨oa7,oc7,os7,j+1,rfl,by go_num,by omega,HOL7,HD7,HI7⟩
          case measure=>simp [intOf];omega
        ·
         go_wp2;go_roundw
         case rel=>exact ⟨ia4,ic4,im4,oa,oc,os,k+1,rfl,rfl,by go_num,by omega,HIL4,Nat.le_trans HOL.out (by omega),HD5,HI5⟩
         case measure=>simp [intOf];omega
     ·
      obtain ⟨_,_,e0,hcc,hin⟩:=zdd HI2.out.ow;injection e0 with e0 _ e2;subst e0;subst e2;go_wp2_with fail
      refine (drawPk X B a len cap nm ia ims.length ic _ os.length _ os HD2.out.cur hnm hin hcc (by have:=HOL.out;omega) HI2.out.osm.1 HI2.out.osm.2).mono ?_;rintro e w3 ⟨fa,fc,xs,rfl,hfo,hxl,hxd,hc3,hg3⟩
      go_upto_region 24 with fail
      obtain ⟨gF,cF,hF⟩:=zaw hfo.row (by omega);injection hF with e1 e2 e3;subst e1;clear e2 e3;obtain ⟨hbx,hbZ⟩:=Box3.new w3 (.string ⟨nm.toArray⟩) (.slice ia ims.length ic) (.slice (some ⟨gF,0,none⟩) xs.length fc) 99;have hE0:=E8.start HD2.out HI2.out hg3 hc3 hfo hxl hxd hnm (by have:=HIL.out;omega) hbZ hbx;generalize w3.alloc (.cells #[.string ⟨nm.toArray⟩,.slice ia ims.length ic,.slice (some ⟨gF,0,none⟩) xs.length fc] 99)=Z at hE0 ⊢;obtain ⟨P,hP⟩:∃ P,w3.heap.size=P:=⟨_,rfl⟩
      rw [hP] at hE0 ⊢;have HE0:Hid (E8 Z w B a len cap N la lc ys (.slice ca cs.length cc) cs ⟨nm,ims,xs,ia,ic,some ⟨gF,0,none⟩,fc,W.heap.size,P⟩ P):=hE0;clear hE0 hbx hbZ hP hfo hxd hc3 hg3 hin hcc HD2 HI2;have HC0:Hid (cs.length≤3*i+0):=HC.out;go_wp2
      go_loopw [6,14] (fun cv kv wz=>∃ (ca:Option Addr) (cc:Nat) (cs:List Nd) (j:Nat),cv=.slice ca cs.length cc∧kv=.int .i64 (j:Int)∧j≤xs.length∧Hid (cs.length≤3*i+j)∧Hid (E8 wz w B a len cap N la lc ys (.slice ca cs.length cc) cs ⟨nm,ims,xs,ia,ic,some ⟨gF,0,none⟩,fc,W.heap.size,P⟩ P)) (fun _ kv _=>xs.length-(intOf kv).toNat)
      case atStart=>exact ⟨ca,cc,cs,0,rfl,rfl,by omega,HC0,HE0⟩
      case round =>
       obtain ⟨ca,cc,cs,j,rfl,rfl,hj,HC4,HE4⟩:=hrel;clear HE0 HC0 HC;obtain ⟨Z4,hZ4⟩:∃ X,X=wr:=⟨_,rfl⟩
       subst hZ4;have p0:Z4.cell? ⟨P,0,none⟩=some (.string ⟨nm.toArray⟩):=HE4.out.box.c0;have p1:Z4.cell? ⟨P,1,none⟩=some (.slice ia ims.length ic):=HE4.out.box.c1;have p2:Z4.cell? ⟨P,2,none⟩=some (.slice (some ⟨gF,0,none⟩) xs.length fc):=HE4.out.box.c2;by_cases hjl:(j:Int)<(xs.length:Int)
       ·
        obtain ⟨s,z,c0,c1,hs,hz0,hz1⟩:=HE4.out.fn (g:=gF) rfl (show j<xs.length by omega);obtain ⟨v',Y,hr,hEY⟩:=HE4.out.drew.call ((8,z,nm,s):Nd) ⟨⟨⟨by simp,by simp⟩,⟨by simp only;omega,by simp only;omega⟩⟩,hnm,hs⟩ (by simp [zbu];omega) (by have:=HC4.out;omega);obtain ⟨L',hdY⟩:=hEY.d;obtain ⟨ca',cc',rfl,_,_⟩:=zdd hdY.cal;obtain ⟨cs',hcs'⟩:∃ cs',cs++[((8,z,nm,s):Nd)]=cs':=⟨_,rfl⟩
        have HC5:Hid (cs'.length≤3*i+(j+1)):=by exact (by rw [←hcs',List.length_append,List.length_singleton];have:=HC4.out;omega:cs'.length≤3*i+(j+1))
        rw [hcs'] at hr hEY
        change (Builtin.append_ #[102,102] 102 #[.slice ca cs.length cc,.slice (some ⟨Z4.heap.size,0,none⟩) 1 1]).run Tryz.prog (Z4.alloc (.cells #[.int .i64 8,.int .i64 z,.string ⟨nm.toArray⟩,.string ⟨s.toArray⟩] 104)).drew=_ at hr
        have HE5:Hid (E8 Y w B a len cap N la lc ys (.slice ca' cs'.length cc') cs' ⟨nm,ims,xs,ia,ic,some ⟨gF,0,none⟩,fc,W.heap.size,P⟩ P):=hEY;clear hEY hdY hcs' HE4 HC4 p0 p1;go_wp2_with fail
        go_region_law (first | (refine zcI (by rfl) (.tmp 88) (.tmp 103) 102 (by rfl) _ _ _ (by rfl) (by rfl) hr ?_))
        all_goals
         go_wp2;go_roundw
         case rel=>exact ⟨ca',cc',cs',j+1,rfl,by go_num,by omega,HC5,HE5⟩
         case measure=>simp [intOf];omega
       ·
        obtain ⟨g',c',Y,L',hr,hdY⟩:=HE4.out.push (by have:=HY.out;omega);obtain ⟨ys',hys'⟩:∃ ys',ys++[(⟨nm,ims,xs,ia,ic,some ⟨gF,0,none⟩,fc,W.heap.size,P⟩:PV)]=ys':=⟨_,rfl⟩
        have e5:ys.length+1=ys'.length:=by rw [←hys',List.length_append,List.length_singleton]
        have HY5:Hid (ys'.length=i+1):=by exact (by rw [←e5,HY.out]:ys'.length=i+1)
        rw [e5] at hr;rw [hys'] at hdY
        change (Builtin.append_ #[35,35] 35 #[.slice la ys.length lc,.slice (some ⟨Z4.heap.size,0,none⟩) 1 1]).run Tryz.prog (Z4.alloc (.cells #[.string ⟨nm.toArray⟩,.slice ia ims.length ic,.slice (some ⟨gF,0,none⟩) xs.length fc] 99))=_ at hr
        have HD5:Hid (D8 Y w B a len cap N L' (some ⟨g',0,none⟩) c' ys' (.slice ca cs.length cc) cs):=hdY;have HC5:Hid (cs.length≤3*(i+1)):=by exact (by have:=HC4.out;omega:cs.length≤3*(i+1))
        clear hdY hys' e5 HE4 HC4
        go_wp2_with (at_builtin;refine za0 rfl (.tmp 105) (.tmp 107) 35 rfl _ _ _ rfl rfl hr ?_;clear hr)
        go_roundw
        case rel=>exact ⟨L',i+1,_,c',ys',ca,cc,cs,rfl,rfl,by go_num,by omega,HY5,HC5,HD5⟩
        case measure=>simp [intOf];omega
end Go.Proofs.YtponeoijfaepnaaGreatDoor
