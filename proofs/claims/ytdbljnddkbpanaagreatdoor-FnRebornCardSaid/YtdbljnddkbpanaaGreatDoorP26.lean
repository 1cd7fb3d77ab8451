/-
  Parts of one proof, one behind the other: Draw8, Draw8L.
-/
import Derived.Test.YtdbljnddkbpanaaGreatDoorP25
import Derived.Test.YtdbljnddkbpanaaGreatDoorP23
namespace Go.Proofs.YtdbljnddkbpanaaGreatDoor
open Go.RowKit
structure PvLo (w:World) (y:PV):Prop where
 im:w.ownsRow y.lo 9 1 (pvI y) y.ims.length (strV y.ims)
 fo:zaV w y.lo (pvF y) y.xs
 top:∀ k,zmS (pvI y) (pvF y) y.xs k→k<y.hi
theorem PvLo.wrote {w w':World} {y:PV} (h:PvLo w y) {S:Nat→Prop} (hw:zb0 w w' S) (hs:∀ k,S k→k<y.lo∨y.hi≤k):PvLo w' y:=by
 have hoff:∀ {e size n:Nat} {v:Value} {zs:List Value},w.ownsRow y.lo e size v n zs→(∀ k,v.ownBlock=some k→k<y.hi)→w'.ownsRow y.lo e size v n zs:=fun ho ht=>zbz ho hw (fun k hk hS=>by
  have h1:=(ho.lt k hk).1
  have h2:=ht k hk
  rcases hs k hS with h3 | h3<;>omega)
 exact ⟨hoff h.im (fun k e=>h.top k (Or.inl e)),⟨hoff h.fo.row (fun k e=>h.top k (Or.inr (Or.inl e))),fun x hx=>hoff (h.fo.trees x hx) (fun k e=>h.top k (Or.inr (Or.inr ⟨x,hx,e⟩)))⟩,h.top⟩
theorem PvLo.below {w w':World} {y:PV} (h:PvLo w y) (hb:Below w.heap.size w w'):PvLo w' y:=h.wrote (S:=fun _=>False) (zb0.of_below hb) (fun _ e=>e.elim)
structure Pv8 (w:World) (y:PV):Prop where
 ok:PvLo w y
 sm:zeR y.xs
 n:1≤y.xs.length∧y.xs.length≤3
 nm:y.nm.length≤9
 im:y.ims.length≤8∧∀ t∈y.ims,t.length≤9
 sa:∃ g,y.ia=some ⟨g,0,none⟩
structure D8 (X w:World) (B:Nat) (a:Option Addr) (len cap N L:Nat) (la:Option Addr) (lc:Nat) (ys:List PV) (vc:Value) (cs:List Nd):Prop where
 nms:X.ownsRow w.heap.size 9 1 (.slice (some ⟨N,0,none⟩) 3 3) 3 (strV [[97],[98],[99]])
 row:X.ownsRow w.heap.size 75 3 (.slice la ys.length lc) ys.length (pvsV ys)
 cal:X.ownsRow w.heap.size 103 4 vc cs.length (zab cs)
 each:∀ y∈ys,Pv8 X y∧w.heap.size≤y.lo∧y.hi≤L
 seq:ys.Pairwise (fun a b=>a.hi≤b.lo)
 nl:N<L
 rl:∀ k,(Value.slice la ys.length lc).ownBlock=some k→k<L
 cl:∀ k,vc.ownBlock=some k→k<L∧∀ y∈ys,k<y.lo∨y.hi≤k
 csm:zbl cs∧∀ n∈cs,zbt n≤3
 cur:Cur X B a len cap
 g:w.grownBy X (some B)
 br:B<w.heap.size
 wl:w.heap.size≤L
 ls:L≤X.heap.size
section
variable {X Y w:World} {B:Nat} {a:Option Addr} {len cap N L:Nat} {la:Option Addr} {lc:Nat} {ys:List PV} {vc:Value} {cs:List Nd}
theorem D8.wrote (h:D8 X w B a len cap N L la lc ys vc cs) {S:Nat→Prop} (hw:zb0 X Y S) (hs:∀ k,S k→k=B∨L≤k) (hc:Cur Y B a len cap):D8 Y w B a len cap N L la lc ys vc cs:=by
 have hbr:=h.br
 have hwl:=h.wl
 have hoff:∀ {e size n:Nat} {v:Value} {zs:List Value},X.ownsRow w.heap.size e size v n zs→(∀ k,v.ownBlock=some k→k<L)→Y.ownsRow w.heap.size e size v n zs:=fun ho ht=>zbz ho hw (fun k hk hS=>by
  have h1:=(ho.lt k hk).1
  have h2:=ht k hk
  rcases hs k hS with h3 | h3<;>omega)
 refine ⟨hoff h.nms (fun k e=>?_),hoff h.row h.rl,hoff h.cal (fun k e=>(h.cl k e).1),fun y hy=>?_,h.seq,h.nl,h.rl,h.cl,h.csm,hc,?_,hbr,hwl,Nat.le_trans h.ls hw.size⟩
 ·
  have e2:N=k:=by simpa [Value.ownBlock] using e
  have:=h.nl
  omega
 ·
  obtain ⟨h1,h2,h3⟩:=h.each y hy
  exact ⟨⟨h1.ok.wrote hw (fun k hS=>by rcases hs k hS with h4 | h4<;>omega),h1.sm,h1.n,h1.nm,h1.im,h1.sa⟩,h2,h3⟩
 ·
  have hg:=h.g
  exact ⟨hw.os.trans hg.os,hw.tape.trans hg.tape,hw.output.trans hg.output,Nat.le_trans hg.size hw.size,fun k hk hne=>(hw.block k (Nat.lt_of_lt_of_le hk hg.size) (fun hS=>by
   rcases hs k hS with h4 | h4
   ·
    exact hne (by rw [h4])
   ·
    omega)).trans (hg.block k hk hne)⟩
theorem D8.next (h:D8 X w B a len cap N L la lc ys vc cs) (hg:X.grownBy Y (some B)) (hc:Cur Y B a len cap):D8 Y w B a len cap N L la lc ys vc cs :=
 h.wrote (S:=fun k=>k=B) (zb0.of_grown hg (fun k e=>by injection e with e;exact e.symm)) (fun k e=>Or.inl e) hc
theorem D8.below (h:D8 X w B a len cap N L la lc ys vc cs) (hb:Below X.heap.size X Y):D8 Y w B a len cap N L la lc ys vc cs :=
 h.wrote (S:=fun _=>False) (zb0.of_below hb) (fun _ e=>e.elim) (h.cur.below hb)
theorem D8.upper (h:D8 X w B a len cap N L la lc ys vc cs) {row:Option Nat} (hg:X.grownBy Y row) (hr:∀ k,row=some k→L≤k):D8 Y w B a len cap N L la lc ys vc cs :=
 h.wrote (S:=fun k=>L≤k) (zb0.of_grown hg hr) (fun k e=>Or.inr e) (h.cur.kept hg (fun k e=>by have:=hr k e;have:=h.br;have:=h.wl;omega))
theorem D8.raise (h:D8 X w B a len cap N L la lc ys vc cs) {L':Nat} (h1:L≤L') (h2:L'≤X.heap.size):D8 X w B a len cap N L' la lc ys vc cs :=
 ⟨h.nms,h.row,h.cal,fun y hy=>⟨(h.each y hy).1,(h.each y hy).2.1,Nat.le_trans (h.each y hy).2.2 h1⟩,h.seq,Nat.lt_of_lt_of_le h.nl h1,fun k e=>Nat.lt_of_lt_of_le (h.rl k e) h1,fun k e=>⟨Nat.lt_of_lt_of_le (h.cl k e).1 h1,(h.cl k e).2⟩,h.csm,h.cur,h.g,h.br,Nat.le_trans h.wl h1,h2⟩
theorem new_pk (W:World) (y:PV) (c:Nat):Src (W.alloc (.cells #[.string ⟨y.nm.toArray⟩,pvI y,pvF y] 75)) (.slice (some ⟨W.heap.size,0,none⟩) 1 c) 1 3 (pvsV [y]):=by
 refine ⟨rfl,fun u hu=>?_,Or.inr ⟨_,c,rfl,fun j u hu=>?_⟩⟩
 ·
  simp only [pvsV,List.mem_cons,List.not_mem_nil,or_false] at hu
  rcases hu with rfl | rfl | rfl<;>rfl
 ·
  rw [zdu,Nat.zero_add]
  match j,hu with
  | 0,hu=>simp [pvsV] at hu;subst hu;simp
  | 1,hu=>simp [pvsV] at hu;subst hu;simp
  | 2,hu=>simp [pvsV] at hu;subst hu;simp
  | j+3,hu=>simp [pvsV] at hu
theorem zlb (x y:List PV):pvsV (x++y)=pvsV x++pvsV y:=by
 induction x with
 | nil=>rfl
 | cons n r ih=>simp [pvsV,ih]
theorem D8.push (h:D8 X w B a len cap N L la lc ys vc cs) (y:PV) (hy:Pv8 X y) (h0:w.heap.size≤y.lo) (h1:∀ z∈ys,z.hi≤y.lo) (h2:y.hi≤X.heap.size) (hn:ys.length≤8) (hc2:∀ k,vc.ownBlock=some k→k<y.lo∨y.hi≤k) :
 ∃ g' c' Y,(Builtin.append_ #[24,24] 24 #[.slice la ys.length lc,.slice (some ⟨X.heap.size,0,none⟩) 1 1]).run Tryz.prog (X.alloc (.cells #[.string ⟨y.nm.toArray⟩,pvI y,pvF y] 75))=.ok (.slice (some ⟨g',0,none⟩) (ys.length+1) c') Y ∧
  D8 Y w B a len cap N Y.heap.size (some ⟨g',0,none⟩) c' (ys++[y]) vc cs:=by
 obtain ⟨i0,hi,hz0,hz1,hz2⟩:=info_parts zlo
 have hX1:Below X.heap.size X (X.alloc (.cells #[.string ⟨y.nm.toArray⟩,pvI y,pvF y] 75)):=(Below.refl _ _).alloc (Nat.le_refl _) _
 have hd:=h.below hX1
 have hyo:=hy.ok.below hX1
 obtain ⟨v',Y,hrun,hown,hg,_⟩:=zaE (P:=Tryz.prog) (X.alloc (.cells #[.string ⟨y.nm.toArray⟩,pvI y,pvF y] 75)) w.heap.size 24 24 75 i0 _ 3 64 Tryz.underlying24 hi hz0 hz1 hz2 rfl (by decide) _ _ _ hd.row _ 1 (pvsV [y]) (new_pk X y 1) (by unfold maxLen;omega) (by omega) hd.g.size
 obtain ⟨g',c',rfl⟩:=zaw hown (by omega)
 have e1:(ys++[y]).length=ys.length+1:=by simp
 have hwl:=h.wl
 have hls:=h.ls
 have hys:=hg.size
 refine ⟨g',c',Y,hrun,?_⟩
 have hrowB:∀ k,(Value.slice la ys.length lc).ownBlock=some k→w.heap.size≤k∧k<L:=fun k e=>⟨(hd.row.lt k e).1,h.rl k e⟩
 have hW:zb0 (X.alloc (.cells #[.string ⟨y.nm.toArray⟩,pvI y,pvF y] 75)) Y (fun k=>(Value.slice la ys.length lc).ownBlock=some k):=zb0.of_grown hg (fun k e=>e)
 have hkeep:∀ {z:PV},PvLo (X.alloc (.cells #[.string ⟨y.nm.toArray⟩,pvI y,pvF y] 75)) z→PvLo Y z:=fun hz =>
  ⟨hz.im.kept hg (zak hz.im hd.row (by decide)),hz.fo.kept hg (zak hz.fo.row hd.row (by decide)) (fun x hx=>zak (hz.fo.trees x hx) hd.row (by decide)),hz.top⟩
 refine ⟨hd.nms.kept hg (zak hd.nms hd.row (by decide)),?_,hd.cal.kept hg (zak hd.cal hd.row (by decide)),fun z hz=>?_,List.pairwise_append.2 ⟨h.seq,List.pairwise_singleton _ _,fun z hz q hq=>?_⟩,?_,fun k e=>?_,fun k e=>⟨?_,fun z hz=>?_⟩,h.csm,hd.cur.kept hg (fun k e=>by have:=(hrowB k e).1;have:=h.br;omega),?_,h.br,Nat.le_trans hd.g.size hys,Nat.le_refl _⟩
 ·
  rw [e1,zlb];exact hown
 ·
  rw [List.mem_append,List.mem_singleton] at hz
  have hsz:X.heap.size≤Y.heap.size:=Nat.le_trans hX1.size hys
  rcases hz with hz | rfl
  ·
   obtain ⟨h3,h4,h5⟩:=hd.each z hz
   exact ⟨⟨hkeep h3.ok,h3.sm,h3.n,h3.nm,h3.im,h3.sa⟩,h4,by omega⟩
  ·
   exact ⟨⟨hkeep hyo,hy.sm,hy.n,hy.nm,hy.im,hy.sa⟩,by omega,by omega⟩
 ·
  rw [List.mem_singleton] at hq
  subst hq
  exact h1 z hz
 ·
  have:=h.nl;have:=hX1.size;omega
 ·
  exact ((show Y.ownsRow w.heap.size 75 3 (.slice (some ⟨g',0,none⟩) (ys.length+1) c') (ys.length+1) _ from hown).lt k (by rw [←e1];exact e)).2
 ·
  have:=(h.cl k e).1;have:=hX1.size;omega
 ·
  rw [List.mem_append,List.mem_singleton] at hz
  rcases hz with hz | rfl
  ·
   exact (h.cl k e).2 z hz
  ·
   exact hc2 k e
 ·
  have hgw:=hd.g
  exact ⟨hg.os.trans hgw.os,hg.tape.trans hgw.tape,hg.output.trans hgw.output,Nat.le_trans hgw.size hg.size,fun k hk hne=>(hg.block k (Nat.lt_of_lt_of_le hk hgw.size) (fun e=>by have:=(hrowB k e.symm).1;omega)).trans (hgw.block k hk hne)⟩
theorem D8.call (h:D8 X w B a len cap N L la lc ys vc cs) (n:Nd) (hn:zcb n) (hk:zbt n≤3) (hc:cs.length≤1000) :
 ∃ v' Y,(Builtin.append_ #[77,77] 77 #[vc,.slice (some ⟨X.heap.size,0,none⟩) 1 1]).run Tryz.prog (X.alloc (.cells #[.int .i64 n.1,.int .i64 n.2.1,.string ⟨n.2.2.1.toArray⟩,.string ⟨n.2.2.2.toArray⟩] 103))=.ok v' Y ∧
  D8 Y w B a len cap N Y.heap.size la lc ys v' (cs++[n])∧X.grownBy Y vc.ownBlock∧(v'.ownBlock=vc.ownBlock∨v'.ownBlock=some (X.heap.size+1)):=by
 obtain ⟨i0,hi,hz0,hz1,hz2⟩:=info_parts zei
 obtain ⟨W,hW⟩:∃ W,X.alloc (.cells #[.int .i64 n.1,.int .i64 n.2.1,.string ⟨n.2.2.1.toArray⟩,.string ⟨n.2.2.2.toArray⟩] 103)=W:=⟨_,rfl⟩
 have hX1:Below X.heap.size X W:=by rw [←hW];exact (Below.refl _ _).alloc (Nat.le_refl _) _
 have hgX:X.grownBy W vc.ownBlock:=by rw [←hW];exact World.grownBy_alloc X _ _
 have hsW:W.heap.size=X.heap.size+1:=by rw [←hW];simp
 have hnew:=ziR X n
 rw [hW] at hnew ⊢
 have hd:=h.below hX1
 obtain ⟨v',Y,hrun,hown,hg,_,hat⟩:=run_append_own_at (P:=Tryz.prog) W w.heap.size 77 77 103 i0 _ 4 48 Tryz.underlying77 hi hz0 hz1 hz2 rfl (by decide) _ _ _ hd.cal ⟨X.heap.size,0,none⟩ 1 1 (zab [n]) (by rw [zc1];rfl) hnew (zcM _) (by unfold maxLen;omega) (by omega) hd.g.size
 have e1:(cs++[n]).length=cs.length+1:=by simp
 have hown2:Y.ownsRow w.heap.size 103 4 v' (cs++[n]).length (zab (cs++[n])):=by
  rw [e1,zc6];exact hown
 have hvB:∀ k,vc.ownBlock=some k→w.heap.size≤k∧k<L:=fun k e=>⟨(hd.cal.lt k e).1,(h.cl k e).1⟩
 have hwl:=h.wl
 have hls:=h.ls
 have hgs:=hg.size
 have hbr:=h.br
 have hWr:zb0 W Y (fun k=>vc.ownBlock=some k):=zb0.of_grown hg (fun k e=>e)
 refine ⟨v',Y,hrun,⟨hd.nms.kept hg (zak hd.nms hd.cal (by decide)),hd.row.kept hg (zak hd.row hd.cal (by decide)),hown2,fun z hz=>?_,h.seq,by have:=h.nl;omega,fun k e=>by have:=h.rl k e;omega,fun k e=>⟨(hown2.lt k e).2,fun z hz=>?_⟩,⟨zeV h.csm.1 (fun m hm=>by rw [List.mem_singleton] at hm;subst hm;exact hn),fun m hm=>?_⟩,hd.cur.kept hg (fun k e=>by have:=(hvB k e).1;omega),?_,hbr,by omega,Nat.le_refl _⟩,hgX.trans hg,by rw [hsW] at hat;exact hat⟩
 ·
  obtain ⟨h3,h4,h5⟩:=hd.each z hz
  exact ⟨⟨h3.ok.wrote hWr (fun k e=>(h.cl k e).2 z hz),h3.sm,h3.n,h3.nm,h3.im,h3.sa⟩,h4,by omega⟩
 ·
  rcases hat with e2 | e2
  ·
   exact (h.cl k (by rw [←e2];exact e)).2 z hz
  ·
   rw [e2] at e
   injection e with e
   have:=(h.each z hz).2.2
   right;omega
 ·
  rw [List.mem_append,List.mem_singleton] at hm
  rcases hm with hm | rfl
  ·
   exact h.csm.2 m hm
  ·
   exact hk
 ·
  have hgw:=hd.g
  exact ⟨hg.os.trans hgw.os,hg.tape.trans hgw.tape,hg.output.trans hgw.output,Nat.le_trans hgw.size hg.size,fun k hk hne=>(hg.block k (Nat.lt_of_lt_of_le hk hgw.size) (fun e=>by have:=(hvB k e.symm).1;omega)).trans (hgw.block k hk hne)⟩
end
structure I8 (X:World) (L:Nat) (vi:Value) (ims:List (List UInt8)) (vo:Value) (os:List Nd):Prop where
 im:X.ownsRow L 9 1 vi ims.length (strV ims)
 ow:X.ownsRow L 103 4 vo os.length (zab os)
 is:∀ t∈ims,t.length≤9
 osm:zbl os∧∀ n∈os,zbt n≤3
 so:∃ g c,vi=.slice (some ⟨g,0,none⟩) ims.length c
theorem I8.below {X Y:World} {L:Nat} {vi:Value} {ims:List (List UInt8)} {vo:Value} {os:List Nd} (h:I8 X L vi ims vo os) (hb:Below X.heap.size X Y):I8 Y L vi ims vo os:=⟨za6 h.im hb,za6 h.ow hb,h.is,h.osm,h.so⟩
theorem I8.next {X Y:World} {L B:Nat} {vi:Value} {ims:List (List UInt8)} {vo:Value} {os:List Nd} (h:I8 X L vi ims vo os) (hg:X.grownBy Y (some B)) (hB:B<L):I8 Y L vi ims vo os :=
 ⟨zc5 h.im hg (fun k e=>by injection e with e;omega),zc5 h.ow hg (fun k e=>by injection e with e;omega),h.is,h.osm,h.so⟩
theorem I8.imp {X:World} {L:Nat} {vi:Value} {ims:List (List UInt8)} {vo:Value} {os:List Nd} (h:I8 X L vi ims vo os) (x:List UInt8) (hx:x.length≤9) (hL:L≤X.heap.size) (hn:ims.length≤100) :
 ∃ v' Y,(Builtin.append_ #[35,35] 35 #[vi,.slice (some ⟨X.heap.size,0,none⟩) 1 1]).run Tryz.prog (X.alloc (.cells #[.string ⟨x.toArray⟩] 9))=.ok v' Y∧I8 Y L v' (ims++[x]) vo os∧X.grownBy Y vi.ownBlock:=by
 obtain ⟨v',Y,hrun,hv',hg⟩:=zcp x h.im hL (by omega)
 refine ⟨v',Y,hrun,⟨by rw [List.length_append,List.length_singleton];exact hv',h.ow.kept hg (zak h.ow h.im (by decide)),fun t ht=>?_,h.osm,by rw [List.length_append,List.length_singleton];exact zaw hv' (by omega)⟩,hg⟩
 rw [List.mem_append,List.mem_singleton] at ht
 rcases ht with ht | rfl
 ·
  exact h.is t ht
 ·
  exact hx
theorem I8.node {X:World} {L:Nat} {vi:Value} {ims:List (List UInt8)} {vo:Value} {os:List Nd} (h:I8 X L vi ims vo os) (n:Nd) (hsn:zcb n) (hk:zbt n≤3) (hL:L≤X.heap.size) (hn:os.length≤1000) :
 ∃ v' Y,(Builtin.append_ #[77,77] 77 #[vo,.slice (some ⟨X.heap.size,0,none⟩) 1 1]).run Tryz.prog (X.alloc (.cells #[.int .i64 n.1,.int .i64 n.2.1,.string ⟨n.2.2.1.toArray⟩,.string ⟨n.2.2.2.toArray⟩] 103))=.ok v' Y∧I8 Y L vi ims v' (os++[n])∧X.grownBy Y vo.ownBlock:=by
 obtain ⟨i0,hi,hz0,hz1,hz2⟩:=info_parts zei
 obtain ⟨W,hW⟩:∃ W,X.alloc (.cells #[.int .i64 n.1,.int .i64 n.2.1,.string ⟨n.2.2.1.toArray⟩,.string ⟨n.2.2.2.toArray⟩] 103)=W:=⟨_,rfl⟩
 have hX1:Below X.heap.size X W:=by rw [←hW];exact (Below.refl _ _).alloc (Nat.le_refl _) _
 have hgX:X.grownBy W vo.ownBlock:=by rw [←hW];exact World.grownBy_alloc X _ _
 have hnew:=ziR X n
 rw [hW] at hnew ⊢
 have hd:=h.below hX1
 obtain ⟨v',Y,hrun,hown,hg,_,_⟩:=run_append_own_at (P:=Tryz.prog) W L 77 77 103 i0 _ 4 48 Tryz.underlying77 hi hz0 hz1 hz2 rfl (by decide) _ _ _ hd.ow ⟨X.heap.size,0,none⟩ 1 1 (zab [n]) (by rw [zc1];rfl) hnew (zcM _) (by unfold maxLen;omega) (by omega) (Nat.le_trans hL hX1.size)
 refine ⟨v',Y,hrun,⟨hd.im.kept hg (zak hd.im hd.ow (by decide)),by rw [List.length_append,List.length_singleton,zc6];exact hown,h.is,⟨zeV h.osm.1 (fun m hm=>by rw [List.mem_singleton] at hm;subst hm;exact hsn),fun m hm=>?_⟩,h.so⟩,hgX.trans hg⟩
 rw [List.mem_append,List.mem_singleton] at hm
 rcases hm with hm | rfl
 ·
  exact h.osm.2 m hm
 ·
  exact hk
theorem D8.start {w w1:World} {B:Nat} {a:Option Addr} {len cap:Nat} (hc:Cur w B a len cap) (hc1:Cur w1 B a len cap) (hg:(w.alloc (.cells #[.string ⟨#[97]⟩,.string ⟨#[98]⟩,.string ⟨#[99]⟩] 9)).grownBy w1 (some B)) :
 D8 ((w1.alloc (.cells #[] 75)).alloc (.cells #[] 103)) w B a len cap w.heap.size (w1.heap.size+2) (some ⟨w1.heap.size,0,none⟩) 0 [] (.slice (some ⟨w1.heap.size+1,0,none⟩) 0 0) []:=by
 have hB:=hc.lt
 have hs1:=hg.size
 rw [World.size_alloc] at hs1
 have hn0:=World.ownsRow_lit (base:=w.heap.size) (e:=9) (size:=1) w #[.string ⟨#[97]⟩,.string ⟨#[98]⟩,.string ⟨#[99]⟩] 3 (Nat.le_refl _) (by decide) rfl
 have hn1:=zc5 hn0 hg (fun k e=>by injection e with e;omega)
 have hb:Below w1.heap.size w1 ((w1.alloc (.cells #[] 75)).alloc (.cells #[] 103)):=((Below.refl _ _).alloc (Nat.le_refl _) _).alloc (by simp) _
 have hr:=(World.ownsRow_lit (base:=w.heap.size) (e:=75) (size:=3) w1 #[] 0 (by omega) (by decide) rfl).alloc (.cells #[] 103)
 have hl:=World.ownsRow_lit (base:=w.heap.size) (e:=103) (size:=4) (w1.alloc (.cells #[] 75)) #[] 0 (by simp;omega) (by decide) rfl
 rw [World.size_alloc] at hl
 refine ⟨za6 hn1 hb,hr,hl,fun y hy=>(by cases hy),List.Pairwise.nil,by omega,fun k e=>?_,fun k e=>⟨?_,fun y hy=>(by cases hy)⟩,⟨fun n hn=>(by cases hn),fun n hn=>(by cases hn)⟩,hc1.below hb,?_,hB,by omega,by simp⟩
 ·
  simp [Value.ownBlock] at e;omega
 ·
  simp [Value.ownBlock] at e;omega
 ·
  exact (((World.grownBy_alloc w _ (some B)).trans hg).trans (World.grownBy_alloc w1 _ (some B))).trans (World.grownBy_alloc _ _ (some B))
theorem D8.drew {X w:World} {B:Nat} {a:Option Addr} {len cap N L:Nat} {la:Option Addr} {lc:Nat} {ys:List PV} {vc:Value} {cs:List Nd} (h:D8 X w B a len cap N L la lc ys vc cs):D8 X.drew w B a len cap N L la lc ys vc cs:=h.upper (zaq X none) (by simp)
theorem D8.name {X w:World} {B:Nat} {a:Option Addr} {len cap N L:Nat} {la:Option Addr} {lc:Nat} {ys:List PV} {vc:Value} {cs:List Nd} (h:D8 X w B a len cap N L la lc ys vc cs) {k:Nat} (hk:k<3):∃ x:List UInt8,x.length≤9∧X.cell? ⟨N,k,none⟩=some (.string ⟨x.toArray⟩):=by
 refine ⟨_,?_,zfn h.nms rfl k hk⟩
 match k,hk with
 | 0,_=>simp
 | 1,_=>simp
 | 2,_=>simp
theorem zdl {w:World} {base n:Nat} {v:Value} {ns:List Nd} (h:w.ownsRow base 103 4 v n (zab ns)):∃ a c,v=.slice a n c∧(a=none→c=0)∧zas w a n ns:=by
 obtain ⟨_,a,c,rfl,hin⟩:=zcq h
 refine ⟨a,c,rfl,fun e=>?_,hin⟩
 rcases zb4 h with ⟨e1,_,_⟩ | ⟨g,cp,e1⟩
 ·
  injection e1
 ·
  injection e1 with e1;rw [e] at e1;cases e1
theorem pv8_mk {X Y:World} {H B:Nat} {nm:List UInt8} {ia fa:Option Addr} {ic fc:Nat} {ims:List (List UInt8)} {xs:List FV} {vo:Value} {os:List Nd} (hI:I8 X H (.slice ia ims.length ic) ims vo os) (hg:X.grownBy Y (some B)) (hB:B<H) (hH:H≤X.heap.size) (hf:zaV Y X.heap.size (.slice fa xs.length fc) xs) (hn:1≤xs.length∧xs.length≤3) (hx:zeR xs) (hnm:nm.length≤9) (hil:ims.length≤8) :
 Pv8 Y ⟨nm,ims,xs,ia,ic,fa,fc,H,Y.heap.size⟩:=by
 have him:=zc5 hI.im hg (fun k e=>by injection e with e;omega)
 have hfo:=hf.base hH
 refine ⟨⟨him,hfo,fun k hk=>?_⟩,hx,hn,hnm,⟨hil,hI.is⟩,by obtain ⟨g,c,e⟩:=hI.so;injection e with e;exact ⟨g,e⟩⟩
 rcases hk with e | e | ⟨x,hx,e⟩
 ·
  exact (him.lt k e).2
 ·
  exact (hfo.row.lt k e).2
 ·
  exact ((hfo.trees x hx).lt k e).2
structure E8 (X w:World) (B:Nat) (a:Option Addr) (len cap N:Nat) (la:Option Addr) (lc:Nat) (ys:List PV) (vc:Value) (cs:List Nd) (y:PV) (P:Nat):Prop where
 d:∃ L,D8 X w B a len cap N L la lc ys vc cs
 y8:Pv8 X y
 lo:w.heap.size≤y.lo∧∀ z∈ys,z.hi≤y.lo
 hi:y.hi≤P
 off:∀ k,vc.ownBlock=some k→k≠P∧(k<y.lo∨y.hi≤k)
 box:Box3 X P (.string ⟨y.nm.toArray⟩) (pvI y) (pvF y)
theorem E8.drew {X w:World} {B:Nat} {a:Option Addr} {len cap N:Nat} {la:Option Addr} {lc:Nat} {ys:List PV} {vc:Value} {cs:List Nd} {y:PV} {P:Nat} (h:E8 X w B a len cap N la lc ys vc cs y P):E8 X.drew w B a len cap N la lc ys vc cs y P:=by
 obtain ⟨L,d⟩:=h.d
 exact ⟨⟨L,d.drew⟩,⟨h.y8.ok.wrote (S:=fun _=>False) (zb0.of_grown (zaq X none) (by simp)) (fun _ e=>e.elim),h.y8.sm,h.y8.n,h.y8.nm,h.y8.im,h.y8.sa⟩,h.lo,h.hi,h.off,h.box.drew⟩
theorem E8.call {X w:World} {B:Nat} {a:Option Addr} {len cap N:Nat} {la:Option Addr} {lc:Nat} {ys:List PV} {vc:Value} {cs:List Nd} {y:PV} {P:Nat} (h:E8 X w B a len cap N la lc ys vc cs y P) (n:Nd) (hn:zcb n) (hk:zbt n≤3) (hc:cs.length≤1000) :
 ∃ v' Y,(Builtin.append_ #[77,77] 77 #[vc,.slice (some ⟨X.heap.size,0,none⟩) 1 1]).run Tryz.prog (X.alloc (.cells #[.int .i64 n.1,.int .i64 n.2.1,.string ⟨n.2.2.1.toArray⟩,.string ⟨n.2.2.2.toArray⟩] 103))=.ok v' Y∧E8 Y w B a len cap N la lc ys v' (cs++[n]) y P:=by
 obtain ⟨L,d⟩:=h.d
 obtain ⟨v',Y,hrun,hd,hg,hat⟩:=d.call n hn hk hc
 have hP:=h.box.lt
 have hhi:=h.hi
 refine ⟨v',Y,hrun,⟨_,hd⟩,⟨h.y8.ok.wrote (S:=fun k=>vc.ownBlock=some k) (zb0.of_grown hg (fun k e=>e)) (fun k e=>(h.off k e).2),h.y8.sm,h.y8.n,h.y8.nm,h.y8.im,h.y8.sa⟩,h.lo,h.hi,fun k e=>?_,h.box.grown hg (fun e=>(h.off P e.symm).1 rfl)⟩
 rcases hat with e2 | e2
 ·
  exact h.off k (by rw [←e2];exact e)
 ·
  rw [e2] at e
  injection e with e
  exact ⟨by omega,Or.inr (by omega)⟩
theorem E8.push {X w:World} {B:Nat} {a:Option Addr} {len cap N:Nat} {la:Option Addr} {lc:Nat} {ys:List PV} {vc:Value} {cs:List Nd} {y:PV} {P:Nat} (h:E8 X w B a len cap N la lc ys vc cs y P) (hn:ys.length≤8) :
 ∃ g' c' Y L,(Builtin.append_ #[24,24] 24 #[.slice la ys.length lc,.slice (some ⟨X.heap.size,0,none⟩) 1 1]).run Tryz.prog (X.alloc (.cells #[.string ⟨y.nm.toArray⟩,pvI y,pvF y] 75))=.ok (.slice (some ⟨g',0,none⟩) (ys.length+1) c') Y ∧
  D8 Y w B a len cap N L (some ⟨g',0,none⟩) c' (ys++[y]) vc cs:=by
 obtain ⟨L,d⟩:=h.d
 have hP:=h.box.lt
 have hhi:=h.hi
 obtain ⟨g',c',Y,hrun,hd⟩:=d.push y h.y8 h.lo.1 h.lo.2 (by omega) hn (fun k e=>(h.off k e).2)
 exact ⟨g',c',Y,_,hrun,hd⟩
theorem E8.start {X Y Z w:World} {B:Nat} {a:Option Addr} {len cap N H:Nat} {la:Option Addr} {lc:Nat} {ys:List PV} {vc:Value} {cs:List Nd} {nm:List UInt8} {ia fa:Option Addr} {ic fc:Nat} {ims:List (List UInt8)} {xs:List FV} {vo:Value} {os:List Nd} (hd:D8 X w B a len cap N H la lc ys vc cs) (hI:I8 X H (.slice ia ims.length ic) ims vo os) (hg:X.grownBy Y (some B)) (hcu:Cur Y B a len cap) (hf:zaV Y X.heap.size (.slice fa xs.length fc) xs) (hn:1≤xs.length∧xs.length≤3) (hx:zeR xs) (hnm:nm.length≤9) (hil:ims.length≤8)
 (hZ:Below Y.heap.size Y Z) (hbx:Box3 Z Y.heap.size (.string ⟨nm.toArray⟩) (.slice ia ims.length ic) (.slice fa xs.length fc)):E8 Z w B a len cap N la lc ys vc cs ⟨nm,ims,xs,ia,ic,fa,fc,H,Y.heap.size⟩ Y.heap.size:=by
 have hy:=pv8_mk (nm:=nm) hI hg (by have:=hd.br;have:=hd.wl;omega) hd.ls hf hn hx hnm hil
 have hls:=hd.ls
 have hgs:=hg.size
 refine ⟨⟨H,(hd.next hg hcu).below hZ⟩,⟨hy.ok.below hZ,hy.sm,hy.n,hy.nm,hy.im,hy.sa⟩,⟨hd.wl,fun z hz=>(hd.each z hz).2.2⟩,Nat.le_refl _,fun k e=>?_,hbx⟩
 have:=(hd.cl k e).1
 exact ⟨by omega,Or.inl this⟩
theorem E8.fn {X w:World} {B:Nat} {a:Option Addr} {len cap N:Nat} {la:Option Addr} {lc:Nat} {ys:List PV} {vc:Value} {cs:List Nd} {y:PV} {P:Nat} (h:E8 X w B a len cap N la lc ys vc cs y P) {g:Nat} (hg:y.fa=some ⟨g,0,none⟩) {j:Nat} (hj:j<y.xs.length) :
 ∃ (s:List UInt8) (z:Int),X.cell? ⟨g,j*3,none⟩=some (.string ⟨s.toArray⟩)∧X.cell? ⟨g,j*3+1,none⟩=some (.int .i64 z)∧s.length≤9∧0≤z∧z≤3:=by
 have hr:=h.y8.ok.fo.row
 unfold pvF at hr
 rw [hg] at hr
 have hm:y.xs.getD j fv0∈y.xs:=by simp [List.getD,hj]
 obtain ⟨h1,h2,h3⟩:=h.y8.sm _ hm
 exact ⟨_,_,(World.ownsRow.cellAt hr (j*3) (by omega)).trans (zjc y.xs j hj).1,(World.ownsRow.cellAt hr (j*3+1) (by omega)).trans (zjc y.xs j hj).2.1,h1.1,h2,h3.1⟩
theorem I8.start (W:World):I8 ((W.alloc (.cells #[] 9)).alloc (.cells #[] 103)) W.heap.size (.slice (some ⟨W.heap.size,0,none⟩) 0 0) [] (.slice (some ⟨W.heap.size+1,0,none⟩) 0 0) []:=by
 have hl:=World.ownsRow_lit (base:=W.heap.size) (e:=103) (size:=4) (W.alloc (.cells #[] 9)) #[] 0 (by simp) (by decide) rfl
 rw [World.size_alloc] at hl
 exact ⟨(World.ownsRow_lit (base:=W.heap.size) (e:=9) (size:=1) W #[] 0 (Nat.le_refl _) (by decide) rfl).alloc _,hl,fun t ht=>(by cases ht),⟨fun n hn=>(by cases hn),fun n hn=>(by cases hn)⟩,⟨_,_,rfl⟩⟩
end Go.Proofs.YtdbljnddkbpanaaGreatDoor
