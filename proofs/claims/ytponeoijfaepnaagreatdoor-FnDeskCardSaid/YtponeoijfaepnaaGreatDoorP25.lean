/-
  Parts of one proof, one behind the other: DrawDk.
-/
import Derived.Test.YtponeoijfaepnaaGreatDoorP24
namespace Go.Proofs.YtponeoijfaepnaaGreatDoor
open Go.RowKit
set_option maxHeartbeats 8000000
set_option maxRecDepth 100000
theorem zid {V Y:World} {k:Nat} {row:Option Nat} (hg:(V.alloc (.cells #[.int .i64 0,.int .i64 1,.int .i64 9,.int .i64 1000000,.int .i64 (-1),.int .i64 4611686018427387904] 2)).grownBy Y row) (hne:row≠some V.heap.size) (hk:k<6):∃ y:Int,(-9223372036854775808≤y∧y≤9223372036854775807)∧Y.cell? ⟨V.heap.size,k,none⟩=some (.int .i64 y):=by
 have hA:=heap_alloc_new V (.cells #[.int .i64 0,.int .i64 1,.int .i64 9,.int .i64 1000000,.int .i64 (-1),.int .i64 4611686018427387904] 2);have key:∀ v,(V.alloc (.cells #[.int .i64 0,.int .i64 1,.int .i64 9,.int .i64 1000000,.int .i64 (-1),.int .i64 4611686018427387904] 2)).cell? ⟨V.heap.size,k,none⟩=some v→Y.cell? ⟨V.heap.size,k,none⟩=some v:=fun v h=>hg.cell h (fun e=>hne e.symm)
 match k,hk with
 | 0,_=>exact ⟨0,by omega,key _ (by rw [cell_of_row _ _ _ _ _ _ hA];rfl)⟩
 | 1,_=>exact ⟨1,by omega,key _ (by rw [cell_of_row _ _ _ _ _ _ hA];rfl)⟩
 | 2,_=>exact ⟨9,by omega,key _ (by rw [cell_of_row _ _ _ _ _ _ hA];rfl)⟩
 | 3,_=>exact ⟨1000000,by omega,key _ (by rw [cell_of_row _ _ _ _ _ _ hA];rfl)⟩
 | 4,_=>exact ⟨(-1),by omega,key _ (by rw [cell_of_row _ _ _ _ _ _ hA];rfl)⟩
 | 5,_=>exact ⟨4611686018427387904,by omega,key _ (by rw [cell_of_row _ _ _ _ _ _ hA];rfl)⟩
theorem zie {V Y:World} {k:Nat} {row:Option Nat} (hg:(V.alloc (.cells #[.int .i64 0,.int .i64 7,.int .i64 2147483646,.int .i64 2147483647,.int .i64 (-1)] 2)).grownBy Y row) (hne:row≠some V.heap.size) (hk:k<5):∃ y:Int,(-9223372036854775808≤y∧y≤9223372036854775807)∧Y.cell? ⟨V.heap.size,k,none⟩=some (.int .i64 y):=by
 have hA:=heap_alloc_new V (.cells #[.int .i64 0,.int .i64 7,.int .i64 2147483646,.int .i64 2147483647,.int .i64 (-1)] 2);have key:∀ v,(V.alloc (.cells #[.int .i64 0,.int .i64 7,.int .i64 2147483646,.int .i64 2147483647,.int .i64 (-1)] 2)).cell? ⟨V.heap.size,k,none⟩=some v→Y.cell? ⟨V.heap.size,k,none⟩=some v:=fun v h=>hg.cell h (fun e=>hne e.symm)
 match k,hk with
 | 0,_=>exact ⟨0,by omega,key _ (by rw [cell_of_row _ _ _ _ _ _ hA];rfl)⟩
 | 1,_=>exact ⟨7,by omega,key _ (by rw [cell_of_row _ _ _ _ _ _ hA];rfl)⟩
 | 2,_=>exact ⟨2147483646,by omega,key _ (by rw [cell_of_row _ _ _ _ _ _ hA];rfl)⟩
 | 3,_=>exact ⟨2147483647,by omega,key _ (by rw [cell_of_row _ _ _ _ _ _ hA];rfl)⟩
 | 4,_=>exact ⟨(-1),by omega,key _ (by rw [cell_of_row _ _ _ _ _ _ hA];rfl)⟩
structure Dr18 (w X:World) (B D Q:Nat) (a:Option Addr) (len cap L:Nat) (va:Option Addr) (vc:Nat) (xs:List TV) (n:Nat) (ep nw:Int) (jr:List UInt8):Prop where
 cur:Cur X B a len cap
 q:B4 X Q (.slice va n vc) (.int .i64 ep) (.int .i64 nw) (.string ⟨jr.toArray⟩)
 r:B4 X D (.slice none 0 0) (.int .i64 0) (.int .i64 0) (.string ⟨#[]⟩)
 own:za2 X L (.slice va n vc) xs
 bel:Below w.heap.size w X
 lt:w.heap.size=D∧D<B∧B<L∧L≤X.heap.size∧B<Q∧D<X.heap.size∧B<X.heap.size
structure Fn18 (w X:World) (D Q:Nat) (va:Option Addr) (vc:Nat) (xs:List TV) (n:Nat) (ep nw:Int) (jr:List UInt8):Prop where
 q:B4 X Q (.slice va n vc) (.int .i64 ep) (.int .i64 nw) (.string ⟨jr.toArray⟩)
 r:B4 X D (.slice va n vc) (.int .i64 ep) (.int .i64 nw) (.string ⟨jr.toArray⟩)
 own:za2 X w.heap.size (.slice va n vc) xs
 bel:Below w.heap.size w X
section
variable {w X Y:World} {B D Q L:Nat} {a:Option Addr} {len cap:Nat} {va:Option Addr} {vc n:Nat} {xs:List TV} {ep nw:Int} {jr:List UInt8}
theorem Dr18.alloc (h:Dr18 w X B D Q a len cap L va vc xs n ep nw jr) (c:Obj):Dr18 w (X.alloc c) B D Q a len cap L va vc xs n ep nw jr:=by
 have hb:Below X.heap.size X (X.alloc c):=(Below.refl _ _).alloc (Nat.le_refl _) _;have hs:=hb.size;have hl:=h.lt;exact ⟨h.cur.below hb,h.q.below hb,h.r.below hb,h.own.below hb,h.bel.trans (hb.mono h.bel.size),by omega⟩
theorem Dr18.call (h:Dr18 w X B D Q a len cap L va vc xs n ep nw jr) (hc:Cur Y B a len cap) (hg:X.grownBy Y (some B)):Dr18 w Y B D Q a len cap L va vc xs n ep nw jr:=by
 have hs:=hg.size;have hl:=h.lt;exact ⟨hc,h.q.grown hg (by intro e;injection e with e;omega),h.r.grown hg (by intro e;injection e with e;omega),h.own.kept hg (za8 h.own.row (by omega)) (fun y hy=>za8 (h.own.trees y hy) (by omega)),h.bel.grown hg h.bel.size (fun k e=>by injection e with e;omega),by omega⟩
theorem Dr18.drew (h:Dr18 w X B D Q a len cap L va vc xs n ep nw jr):Dr18 w X.drew B D Q a len cap L va vc xs n ep nw jr:=h.call h.cur.drew (zap X (some B))
theorem Dr18.store (h:Dr18 w X B D Q a len cap L va vc xs n ep nw jr):∃ Y,(((X.setCell ⟨D,0,none⟩ (.slice va n vc)).setCell ⟨D,1,none⟩ (.int .i64 ep)).setCell ⟨D,2,none⟩ (.int .i64 nw)).setCell ⟨D,3,none⟩ (.string ⟨jr.toArray⟩)=Y∧X.grownBy Y (some D)∧Fn18 w Y D Q va vc xs n ep nw jr:=by
 have hl:=h.lt;have hr:=(((h.r.s0 (.slice va n vc)).s1 (.int .i64 ep)).s2 (.int .i64 nw)).s3 (.string ⟨jr.toArray⟩);have hg:X.grownBy ((((X.setCell ⟨D,0,none⟩ (.slice va n vc)).setCell ⟨D,1,none⟩ (.int .i64 ep)).setCell ⟨D,2,none⟩ (.int .i64 nw)).setCell ⟨D,3,none⟩ (.string ⟨jr.toArray⟩)) (some D):=(((zae _ _ _ _).trans (zae _ _ _ _)).trans (zae _ _ _ _)).trans (zae _ _ _ _);refine ⟨_,rfl,hg,h.q.grown hg (by intro e;injection e with e;omega),hr,(h.own.kept hg (za8 h.own.row (by omega)) (fun y hy=>za8 (h.own.trees y hy) (by omega))).base (by omega),h.bel.grown hg h.bel.size (fun k e=>by injection e with e;omega)⟩
theorem Fn18.alloc (h:Fn18 w X D Q va vc xs n ep nw jr) (c:Obj):Fn18 w (X.alloc c) D Q va vc xs n ep nw jr:=by
 have hb:Below X.heap.size X (X.alloc c):=(Below.refl _ _).alloc (Nat.le_refl _) _;exact ⟨h.q.below hb,h.r.below hb,h.own.below hb,h.bel.trans (hb.mono h.bel.size)⟩
end
theorem znk (w:World) (a:Option Addr) (len cap:Nat) (hl:len≤4096) (hc:Code w w.heap.size a len) :
 Calls Tryz.prog 9 #[.slice a len cap] w fun e w'=>∃ va vc xs ts ep nw jr k,e=.returned (.tuple #[.agg #[.slice va (ts:List Ta).length vc,.int .i64 ep,.int .i64 nw,.string ⟨(jr:List UInt8).toArray⟩],.int .i64 k])∧za2 w' w.heap.size (.slice va ts.length vc) xs∧xs.map (·.1)=ts∧ts.length≤9∧za1 ts∧jr.length≤1508∧Below w.heap.size w w'∧(-9223372036854775808≤k∧k≤9223372036854775807):=by
 obtain ⟨D,hD⟩:∃ D,w.heap.size=D:=⟨_,rfl⟩
 obtain ⟨W1,hW1⟩:∃ W,w.alloc (.cells #[.slice none 0 0,.int .i64 0,.int .i64 0,.string ⟨#[]⟩] 26)=W:=⟨_,rfl⟩
 have hs1:W1.heap.size=D+1:=by rw [←hW1,←hD];simp
 have hb1:Below w.heap.size w W1:=by rw [←hW1];exact (Below.refl _ _).alloc (Nat.le_refl _) _
 have bR:=B4.new w (.slice none 0 0) (.int .i64 0) (.int .i64 0) (.string ⟨#[]⟩) 26;rw [hW1,hD] at bR;have hcode:Code W1 W1.heap.size a len:=Code.later hc hb1;have HR1:Hid (B4 W1 D (.slice none 0 0) (.int .i64 0) (.int .i64 0) (.string ⟨#[]⟩)):=bR;have HW:Hid (Below w.heap.size w W1):=hb1;clear hc bR hb1
 go_enter Tryz.func9,Tryz.ntmps9
 go_wp2_with fail
 refine (ziJ _ a len cap hl hcode).mono ?_;rintro e w1 ⟨rfl,hc1,hg1⟩;obtain ⟨B,hB⟩:∃ B,W1.heap.size=B:=⟨_,rfl⟩
 rw [hB] at hc1 ⊢;have HBD:Hid (B=D+1):=by exact (by rw [←hB,hs1]:B=D+1)
 have HWs:Hid (D+1≤w1.heap.size):=by exact (by have:=hg1.size;omega:D+1≤w1.heap.size)
 have HR2:Hid (B4 w1 D (.slice none 0 0) (.int .i64 0) (.int .i64 0) (.string ⟨#[]⟩)):=HR1.out.grown hg1 (by simp);have HG1:Hid (W1.grownBy w1 none):=hg1;clear hcode hg1 HR1 hs1 hB;go_wp2_with fail
 refine (zgW w1 B a len cap hc1).mono ?_;rintro e w2 ⟨_,rfl,lv,va,vc,xs,ts,ep,nw,jr,rfl,_,ho2,hx2,hn9,hsh,hj,hc2,hg2⟩;have HR3:Hid (B4 w2 D (.slice none 0 0) (.int .i64 0) (.int .i64 0) (.string ⟨#[]⟩)):=HR2.out.grown hg2 (by intro e;injection e with e;have:=HBD.out;omega);have HO2:Hid (za2 w2 w1.heap.size (.slice va ts.length vc) xs∧xs.map (·.1)=ts∧ts.length≤9∧za1 ts∧jr.length≤1508∧D+1≤w1.heap.size):=⟨ho2,hx2,hn9,hsh,hj,HWs.out⟩
 have HB2:Hid (Below w.heap.size w w2):=by have h1:Below w.heap.size w w1:=HW.out.grown HG1.out HW.out.size (fun k e=>by cases e);exact h1.grown hg2 h1.size (fun k e=>by injection e with e;have:=HBD.out;omega)
 have HC2:Hid (Cur w2 B a len cap):=hc2;have HC1L:Hid (B<w1.heap.size):=hc1.lt;have HS12:Hid (w1.heap.size≤w2.heap.size):=hg2.size;clear ho2 hx2 hn9 hsh hj hc1 hc2 hg2 HR2 HW HG1;obtain ⟨Q,hQ⟩:∃ Q,w2.heap.size=Q:=⟨_,rfl⟩
 obtain ⟨Z0,hZ0⟩:∃ Z0,w2.alloc (.cells #[.slice none 0 0,.int .i64 0,.int .i64 0,.string ⟨#[]⟩] 26)=Z0:=⟨_,rfl⟩
 have bz:=B4.new w2 (.slice none 0 0) (.int .i64 0) (.int .i64 0) (.string ⟨#[]⟩) 26;have hbZ:Below w2.heap.size w2 Z0:=by rw [←hZ0];exact (Below.refl _ _).alloc (Nat.le_refl _) _
 rw [hZ0] at bz;rw [hQ] at bz hbZ;have z0:=bz.c0;have z1:=bz.c1;have z2:=bz.c2;have z3:=bz.c3;have zf:=bz.fr;have b4:=(((bz.s0 (.slice va ts.length vc)).s1 (.int .i64 ep)).s2 (.int .i64 nw)).s3 (.string ⟨jr.toArray⟩);have hbX:Below Q w2 ((((Z0.setCell ⟨Q,0,none⟩ (.slice va ts.length vc)).setCell ⟨Q,1,none⟩ (.int .i64 ep)).setCell ⟨Q,2,none⟩ (.int .i64 nw)).setCell ⟨Q,3,none⟩ (.string ⟨jr.toArray⟩)):=(((hbZ.setCell (Nat.le_refl _) _).setCell (Nat.le_refl _) _).setCell (Nat.le_refl _) _).setCell (Nat.le_refl _) _;obtain ⟨w3,hw3⟩:∃ W,(((Z0.setCell ⟨Q,0,none⟩ (.slice va ts.length vc)).setCell ⟨Q,1,none⟩ (.int .i64 ep)).setCell ⟨Q,2,none⟩ (.int .i64 nw)).setCell ⟨Q,3,none⟩ (.string ⟨jr.toArray⟩)=W:=⟨_,rfl⟩
 rw [hw3] at b4 hbX;rw [←hQ] at hbX;have HQ3:Hid (B4 w3 Q (.slice va ts.length vc) (.int .i64 ep) (.int .i64 nw) (.string ⟨jr.toArray⟩)):=b4;have HX3:Hid (Below w2.heap.size w2 w3):=hbX
 have HQD:Hid (D<Q∧B<Q):=by have h1:=HR3.out.lt;have h2:=HC2.out.lt;exact (⟨by omega,by omega⟩:D<Q∧B<Q)
 have HC3:Hid (Cur w3 B a len cap):=HC2.out.below hbX;have q0:=b4.c0;have q1:=b4.c1;have q2:=b4.c2;have q3:=b4.c3;clear b4 hbX bz hbZ HC2;have HD3:Hid (Dr18 w w3 B D Q a len cap w1.heap.size va vc xs ts.length ep nw jr):=⟨HC3.out,HQ3.out,HR3.out.below HX3.out,HO2.out.1.below HX3.out,HB2.out.trans (HX3.out.mono HB2.out.size),by have h1:=HBD.out;have h2:=HC1L.out;have h3:=HQD.out;have h4:=HO2.out.2.2.2.2.2;have h5:=HX3.out.size;have h6:=HQ3.out.lt;have h7:=HB2.out.size;have h8:=HS12.out;omega⟩;have HO3:Hid (xs.map (·.1)=ts∧ts.length≤9∧za1 ts∧jr.length≤1508):=⟨HO2.out.2.1,HO2.out.2.2.1,HO2.out.2.2.2.1,HO2.out.2.2.2.2.1⟩;clear HQ3 HC3 HR3 HX3 HO2 HB2;go_wp2;refine wp_region_held_drew (S:=(fun Z=>Z.cell? ⟨Q,0,none⟩=some (.slice va ts.length vc)∧Z.cell? ⟨Q,1,none⟩=some (.int .i64 ep)∧Z.cell? ⟨Q,2,none⟩=some (.int .i64 nw)∧Z.cell? ⟨Q,3,none⟩=some (.string ⟨jr.toArray⟩))) (by kernel_rfl) ?_ (fun hHeld=>?_)
 ·exact ⟨q0,q1,q2,q3⟩
 obtain ⟨X,hX⟩:∃ X,w3.drew=X:=⟨_,rfl⟩
 rw [hX] at hHeld ⊢;have HD0:Hid (_):=HD3.out.drew;rw [hX] at HD0;clear hX q0 q1 q2 q3;refine tkO [(0,14),(2,16)] ?_
 repeat (refine tkY ?_ rfl (by rfl) ?_ ?_;rotate_left;(focus (intro wq hSw;(try dsimp only at hSw);first | (go_simp;done) | (go_simp;with_reducible rfl)));simp only [zP])
 refine tkZ ?_;refine wpAnyH_ready (rs:=[1,3]) (by kernel_rfl) (by simp) ?_;refine AllReadyH.cons rfl (fun K hK=>?_) (AllReadyH.cons rfl (fun K hK=>?_) AllReadyH.nil)
 ·
  go_simp;have HD5:Hid (_):=HD0.out.alloc (.cells #[.int .i64 0,.int .i64 1,.int .i64 9,.int .i64 1000000,.int .i64 (-1),.int .i64 4611686018427387904] 2);have hq5:=HD5.out.q;refine hK.out _ _ ?_ (fun hHeld=>?_)
  ·exact ⟨hq5.c0,hq5.c1,hq5.c2,hq5.c3⟩
  clear hK K;refine zR 3 rfl (fun K hK=>?_);go_simp;have hcu:=HD5.out.cur
  go_at_call 30
  refine (zad _ B a len cap 6 (by omega) (by omega) hcu).mono ?_;rintro e w6 ⟨y,rfl,hy0,hy1,hc6,hg6⟩;obtain ⟨y,rfl⟩:∃ i:Nat,y=(i:Int):=Int.eq_ofNat_of_zero_le hy0
  have HD6:Hid (_):=HD5.out.call hc6 hg6;have hq6:=HD6.out.q;obtain ⟨v0,hv0,c0⟩:=zid (V:=X) hg6 (by have:=HD0.out.lt;intro e;injection e with e;omega) (show y<6 by omega);refine hK.out _ _ ?_ (fun hHeld=>?_)
  ·exact ⟨hq6.c0,hq6.c1,hq6.c2,hq6.c3⟩
  clear hK K;obtain ⟨Xe,hXe,hge,hF⟩:=HD6.out.store;have HF:Hid (_):=hF;have hqe:=hF.q;have r0:=HD6.out.r.c0;have r1:=HD6.out.r.c1;have r2:=HD6.out.r.c2;have r3:=HD6.out.r.c3;have f0:=HD6.out.r.fr 0;have f1:=HD6.out.r.fr 1;have f2:=HD6.out.r.fr 2;have f3:=HD6.out.r.fr 3;have c1:=hge.cell c0 (by have:=HD0.out.lt;intro e;injection e with e;simp only at e;omega);refine tkO [(4,18)] ?_
  repeat (refine tkY ?_ rfl (by rfl) ?_ ?_;rotate_left;(focus (intro wq hSw;(try dsimp only at hSw);first | (go_simp;done) | (go_simp;with_reducible rfl)));simp only [zP])
  refine tkZ ?_;refine wpAnyH_ready (rs:=[5,6]) (by kernel_rfl) (by simp) ?_;refine AllReadyH.cons rfl (fun K hK=>?_) (AllReadyH.cons rfl (fun K hK=>?_) AllReadyH.nil)
  ·
   go_simp;refine hK.out _ _ ?_ (fun hHeld=>?_)
   ·exact ⟨hq6.c0,hq6.c1,hq6.c2,hq6.c3⟩
   clear hK K;refine zR 6 rfl (fun K hK=>?_);go_simp
   (try rw [hXe])
   refine hK.out _ _ ?_ (fun hHeld=>?_)
   ·exact ⟨hqe.c0,hqe.c1,hqe.c2,hqe.c3⟩
   clear hK K;refine tkO [(7,3)] ?_
   repeat (refine tkY ?_ rfl (by rfl) ?_ ?_;rotate_left;(focus (intro wq hSw;(try dsimp only at hSw);first | (go_simp;done) | (go_simp;with_reducible rfl)));simp only [zP])
   refine tkZ ?_;refine wpAnyH_done (by kernel_rfl) ?_ _;go_wp2;have y0:=HF.out.r.c0;have y1:=HF.out.r.c1;have y2:=HF.out.r.c2;have y3:=HF.out.r.c3;refine bodyPost_ret (v:=.tuple #[.agg #[.slice va ts.length vc,.int .i64 ep,.int .i64 nw,.string ⟨jr.toArray⟩],.int .i64 v0]) (by simp [results,Tryz.results9,go_sem,y0,y1,y2,y3]) rfl ?_;exact ⟨va,vc,xs,ts,ep,nw,jr,v0,rfl,HF.out.own,HO3.out.1,HO3.out.2.1,HO3.out.2.2.1,HO3.out.2.2.2,HF.out.bel,hv0⟩
  ·
   go_simp
   (try rw [hXe])
   refine hK.out _ _ ?_ (fun hHeld=>?_)
   ·exact ⟨hqe.c0,hqe.c1,hqe.c2,hqe.c3⟩
   clear hK K;refine zR 5 rfl (fun K hK=>?_);go_simp;refine hK.out _ _ ?_ (fun hHeld=>?_)
   ·exact ⟨hqe.c0,hqe.c1,hqe.c2,hqe.c3⟩
   clear hK K;refine tkO [(7,3)] ?_
   repeat (refine tkY ?_ rfl (by rfl) ?_ ?_;rotate_left;(focus (intro wq hSw;(try dsimp only at hSw);first | (go_simp;done) | (go_simp;with_reducible rfl)));simp only [zP])
   refine tkZ ?_;refine wpAnyH_done (by kernel_rfl) ?_ _;go_wp2;have y0:=HF.out.r.c0;have y1:=HF.out.r.c1;have y2:=HF.out.r.c2;have y3:=HF.out.r.c3;refine bodyPost_ret (v:=.tuple #[.agg #[.slice va ts.length vc,.int .i64 ep,.int .i64 nw,.string ⟨jr.toArray⟩],.int .i64 v0]) (by simp [results,Tryz.results9,go_sem,y0,y1,y2,y3]) rfl ?_;exact ⟨va,vc,xs,ts,ep,nw,jr,v0,rfl,HF.out.own,HO3.out.1,HO3.out.2.1,HO3.out.2.2.1,HO3.out.2.2.2,HF.out.bel,hv0⟩
 ·
  go_simp;have hcu:=HD0.out.cur
  go_at_call 30
  refine (zad _ B a len cap 6 (by omega) (by omega) hcu).mono ?_;rintro e w6 ⟨y,rfl,hy0,hy1,hc6,hg6⟩;obtain ⟨y,rfl⟩:∃ i:Nat,y=(i:Int):=Int.eq_ofNat_of_zero_le hy0
  have HD6:Hid (_):=HD0.out.call hc6 hg6;have hq6:=HD6.out.q;refine hK.out _ _ ?_ (fun hHeld=>?_)
  ·exact ⟨hq6.c0,hq6.c1,hq6.c2,hq6.c3⟩
  clear hK K;obtain ⟨Xe,hXe,hge,hF⟩:=HD6.out.store;have HF:Hid (_):=hF;have hqe:=hF.q;have r0:=HD6.out.r.c0;have r1:=HD6.out.r.c1;have r2:=HD6.out.r.c2;have r3:=HD6.out.r.c3;have f0:=HD6.out.r.fr 0;have f1:=HD6.out.r.fr 1;have f2:=HD6.out.r.fr 2;have f3:=HD6.out.r.fr 3;refine wpAnyH_ready (rs:=[1,6]) (by kernel_rfl) (by simp) ?_;refine AllReadyH.cons rfl (fun K hK=>?_) (AllReadyH.cons rfl (fun K hK=>?_) AllReadyH.nil)
  ·
   go_simp;have HD7:Hid (_):=HD6.out.alloc (.cells #[.int .i64 0,.int .i64 1,.int .i64 9,.int .i64 1000000,.int .i64 (-1),.int .i64 4611686018427387904] 2);have hq7:=HD7.out.q;refine hK.out _ _ ?_ (fun hHeld=>?_)
   ·exact ⟨hq7.c0,hq7.c1,hq7.c2,hq7.c3⟩
   clear hK K;obtain ⟨v0,hv0,c0⟩:=zid (V:=w6) (World.grownBy.refl _ none) (by simp) (show y<6 by omega);obtain ⟨Xe,hXe,hge,hF⟩:=HD7.out.store;have HF:Hid (_):=hF;have hqe:=hF.q;have r0:=HD7.out.r.c0;have r1:=HD7.out.r.c1;have r2:=HD7.out.r.c2;have r3:=HD7.out.r.c3;have f0:=HD7.out.r.fr 0;have f1:=HD7.out.r.fr 1;have f2:=HD7.out.r.fr 2;have f3:=HD7.out.r.fr 3;have c1:=hge.cell c0 (by have:=HD6.out.lt;intro e;injection e with e;simp only at e;omega);refine tkO [(4,18)] ?_
   repeat (refine tkY ?_ rfl (by rfl) ?_ ?_;rotate_left;(focus (intro wq hSw;(try dsimp only at hSw);first | (go_simp;done) | (go_simp;with_reducible rfl)));simp only [zP])
   refine tkZ ?_;refine wpAnyH_ready (rs:=[5,6]) (by kernel_rfl) (by simp) ?_;refine AllReadyH.cons rfl (fun K hK=>?_) (AllReadyH.cons rfl (fun K hK=>?_) AllReadyH.nil)
   ·
    go_simp;refine hK.out _ _ ?_ (fun hHeld=>?_)
    ·exact ⟨hq7.c0,hq7.c1,hq7.c2,hq7.c3⟩
    clear hK K;refine zR 6 rfl (fun K hK=>?_);go_simp
    (try rw [hXe])
    refine hK.out _ _ ?_ (fun hHeld=>?_)
    ·exact ⟨hqe.c0,hqe.c1,hqe.c2,hqe.c3⟩
    clear hK K;refine tkO [(7,3)] ?_
    repeat (refine tkY ?_ rfl (by rfl) ?_ ?_;rotate_left;(focus (intro wq hSw;(try dsimp only at hSw);first | (go_simp;done) | (go_simp;with_reducible rfl)));simp only [zP])
    refine tkZ ?_;refine wpAnyH_done (by kernel_rfl) ?_ _;go_wp2;have y0:=HF.out.r.c0;have y1:=HF.out.r.c1;have y2:=HF.out.r.c2;have y3:=HF.out.r.c3;refine bodyPost_ret (v:=.tuple #[.agg #[.slice va ts.length vc,.int .i64 ep,.int .i64 nw,.string ⟨jr.toArray⟩],.int .i64 v0]) (by simp [results,Tryz.results9,go_sem,y0,y1,y2,y3]) rfl ?_;exact ⟨va,vc,xs,ts,ep,nw,jr,v0,rfl,HF.out.own,HO3.out.1,HO3.out.2.1,HO3.out.2.2.1,HO3.out.2.2.2,HF.out.bel,hv0⟩
   ·
    go_simp
    (try rw [hXe])
    refine hK.out _ _ ?_ (fun hHeld=>?_)
    ·exact ⟨hqe.c0,hqe.c1,hqe.c2,hqe.c3⟩
    clear hK K;refine zR 5 rfl (fun K hK=>?_);go_simp;refine hK.out _ _ ?_ (fun hHeld=>?_)
    ·exact ⟨hqe.c0,hqe.c1,hqe.c2,hqe.c3⟩
    clear hK K;refine tkO [(7,3)] ?_
    repeat (refine tkY ?_ rfl (by rfl) ?_ ?_;rotate_left;(focus (intro wq hSw;(try dsimp only at hSw);first | (go_simp;done) | (go_simp;with_reducible rfl)));simp only [zP])
    refine tkZ ?_;refine wpAnyH_done (by kernel_rfl) ?_ _;go_wp2;have y0:=HF.out.r.c0;have y1:=HF.out.r.c1;have y2:=HF.out.r.c2;have y3:=HF.out.r.c3;refine bodyPost_ret (v:=.tuple #[.agg #[.slice va ts.length vc,.int .i64 ep,.int .i64 nw,.string ⟨jr.toArray⟩],.int .i64 v0]) (by simp [results,Tryz.results9,go_sem,y0,y1,y2,y3]) rfl ?_;exact ⟨va,vc,xs,ts,ep,nw,jr,v0,rfl,HF.out.own,HO3.out.1,HO3.out.2.1,HO3.out.2.2.1,HO3.out.2.2.2,HF.out.bel,hv0⟩
  ·
   go_simp
   (try rw [hXe])
   refine hK.out _ _ ?_ (fun hHeld=>?_)
   ·exact ⟨hqe.c0,hqe.c1,hqe.c2,hqe.c3⟩
   clear hK K;refine zR 1 rfl (fun K hK=>?_);go_simp;have HF2:Hid (_):=HF.out.alloc (.cells #[.int .i64 0,.int .i64 1,.int .i64 9,.int .i64 1000000,.int .i64 (-1),.int .i64 4611686018427387904] 2);have hq8:=HF2.out.q;obtain ⟨v0,hv0,c0⟩:=zid (V:=Xe) (World.grownBy.refl _ none) (by simp) (show y<6 by omega);refine hK.out _ _ ?_ (fun hHeld=>?_)
   ·exact ⟨hq8.c0,hq8.c1,hq8.c2,hq8.c3⟩
   clear hK K;refine tkO [(4,18)] ?_
   repeat (refine tkY ?_ rfl (by rfl) ?_ ?_;rotate_left;(focus (intro wq hSw;(try dsimp only at hSw);first | (go_simp;done) | (go_simp;with_reducible rfl)));simp only [zP])
   refine tkZ ?_;refine zR 5 rfl (fun K hK=>?_);go_simp;refine hK.out _ _ ?_ (fun hHeld=>?_)
   ·exact ⟨hq8.c0,hq8.c1,hq8.c2,hq8.c3⟩
   clear hK K;refine tkO [(7,3)] ?_
   repeat (refine tkY ?_ rfl (by rfl) ?_ ?_;rotate_left;(focus (intro wq hSw;(try dsimp only at hSw);first | (go_simp;done) | (go_simp;with_reducible rfl)));simp only [zP])
   refine tkZ ?_;refine wpAnyH_done (by kernel_rfl) ?_ _;go_wp2;have y0:=HF2.out.r.c0;have y1:=HF2.out.r.c1;have y2:=HF2.out.r.c2;have y3:=HF2.out.r.c3;refine bodyPost_ret (v:=.tuple #[.agg #[.slice va ts.length vc,.int .i64 ep,.int .i64 nw,.string ⟨jr.toArray⟩],.int .i64 v0]) (by simp [results,Tryz.results9,go_sem,y0,y1,y2,y3]) rfl ?_;exact ⟨va,vc,xs,ts,ep,nw,jr,v0,rfl,HF2.out.own,HO3.out.1,HO3.out.2.1,HO3.out.2.2.1,HO3.out.2.2.2,HF2.out.bel,hv0⟩
theorem zjZ (w:World) (a:Option Addr) (len cap:Nat) (hl:len≤4096) (hc:Code w w.heap.size a len) :
 Calls Tryz.prog 7 #[.slice a len cap] w fun e w'=>∃ va vc xs ts ep nw jr k e2 ke,e=.returned (.tuple #[.agg #[.slice va (ts:List Ta).length vc,.int .i64 ep,.int .i64 nw,.string ⟨(jr:List UInt8).toArray⟩],.int .i64 k,.int .i64 e2,.int .i64 ke])∧za2 w' w.heap.size (.slice va ts.length vc) xs∧xs.map (·.1)=ts∧ts.length≤9∧za1 ts∧jr.length≤1508∧Below w.heap.size w w'∧-1≤k∧k≤6∧(-9223372036854775808≤ke∧ke≤9223372036854775807):=by
 obtain ⟨D,hD⟩:∃ D,w.heap.size=D:=⟨_,rfl⟩
 obtain ⟨W1,hW1⟩:∃ W,w.alloc (.cells #[.slice none 0 0,.int .i64 0,.int .i64 0,.string ⟨#[]⟩] 26)=W:=⟨_,rfl⟩
 have hs1:W1.heap.size=D+1:=by rw [←hW1,←hD];simp
 have hb1:Below w.heap.size w W1:=by rw [←hW1];exact (Below.refl _ _).alloc (Nat.le_refl _) _
 have bR:=B4.new w (.slice none 0 0) (.int .i64 0) (.int .i64 0) (.string ⟨#[]⟩) 26;rw [hW1,hD] at bR;have hcode:Code W1 W1.heap.size a len:=Code.later hc hb1;have HR1:Hid (B4 W1 D (.slice none 0 0) (.int .i64 0) (.int .i64 0) (.string ⟨#[]⟩)):=bR;have HW:Hid (Below w.heap.size w W1):=hb1;clear hc bR hb1
 go_enter Tryz.func7,Tryz.ntmps7
 go_wp2_with fail
 refine (ziJ _ a len cap hl hcode).mono ?_;rintro e w1 ⟨rfl,hc1,hg1⟩;obtain ⟨B,hB⟩:∃ B,W1.heap.size=B:=⟨_,rfl⟩
 rw [hB] at hc1 ⊢;have HBD:Hid (B=D+1):=by exact (by rw [←hB,hs1]:B=D+1)
 have HWs:Hid (D+1≤w1.heap.size):=by exact (by have:=hg1.size;omega:D+1≤w1.heap.size)
 have HR2:Hid (B4 w1 D (.slice none 0 0) (.int .i64 0) (.int .i64 0) (.string ⟨#[]⟩)):=HR1.out.grown hg1 (by simp);have HG1:Hid (W1.grownBy w1 none):=hg1;clear hcode hg1 HR1 hs1 hB;go_wp2_with fail
 refine (zgW w1 B a len cap hc1).mono ?_;rintro e w2 ⟨_,rfl,lv,va,vc,xs,ts,ep,nw,jr,rfl,_,ho2,hx2,hn9,hsh,hj,hc2,hg2⟩;have HR3:Hid (B4 w2 D (.slice none 0 0) (.int .i64 0) (.int .i64 0) (.string ⟨#[]⟩)):=HR2.out.grown hg2 (by intro e;injection e with e;have:=HBD.out;omega);have HO2:Hid (za2 w2 w1.heap.size (.slice va ts.length vc) xs∧xs.map (·.1)=ts∧ts.length≤9∧za1 ts∧jr.length≤1508∧D+1≤w1.heap.size):=⟨ho2,hx2,hn9,hsh,hj,HWs.out⟩
 have HB2:Hid (Below w.heap.size w w2):=by have h1:Below w.heap.size w w1:=HW.out.grown HG1.out HW.out.size (fun k e=>by cases e);exact h1.grown hg2 h1.size (fun k e=>by injection e with e;have:=HBD.out;omega)
 have HC2:Hid (Cur w2 B a len cap):=hc2;have HC1L:Hid (B<w1.heap.size):=hc1.lt;have HS12:Hid (w1.heap.size≤w2.heap.size):=hg2.size;clear ho2 hx2 hn9 hsh hj hc1 hc2 hg2 HR2 HW HG1;obtain ⟨Q,hQ⟩:∃ Q,w2.heap.size=Q:=⟨_,rfl⟩
 obtain ⟨Z0,hZ0⟩:∃ Z0,w2.alloc (.cells #[.slice none 0 0,.int .i64 0,.int .i64 0,.string ⟨#[]⟩] 26)=Z0:=⟨_,rfl⟩
 have bz:=B4.new w2 (.slice none 0 0) (.int .i64 0) (.int .i64 0) (.string ⟨#[]⟩) 26;have hbZ:Below w2.heap.size w2 Z0:=by rw [←hZ0];exact (Below.refl _ _).alloc (Nat.le_refl _) _
 rw [hZ0] at bz;rw [hQ] at bz hbZ;have z0:=bz.c0;have z1:=bz.c1;have z2:=bz.c2;have z3:=bz.c3;have zf:=bz.fr;have b4:=(((bz.s0 (.slice va ts.length vc)).s1 (.int .i64 ep)).s2 (.int .i64 nw)).s3 (.string ⟨jr.toArray⟩);have hbX:Below Q w2 ((((Z0.setCell ⟨Q,0,none⟩ (.slice va ts.length vc)).setCell ⟨Q,1,none⟩ (.int .i64 ep)).setCell ⟨Q,2,none⟩ (.int .i64 nw)).setCell ⟨Q,3,none⟩ (.string ⟨jr.toArray⟩)):=(((hbZ.setCell (Nat.le_refl _) _).setCell (Nat.le_refl _) _).setCell (Nat.le_refl _) _).setCell (Nat.le_refl _) _;obtain ⟨w3,hw3⟩:∃ W,(((Z0.setCell ⟨Q,0,none⟩ (.slice va ts.length vc)).setCell ⟨Q,1,none⟩ (.int .i64 ep)).setCell ⟨Q,2,none⟩ (.int .i64 nw)).setCell ⟨Q,3,none⟩ (.string ⟨jr.toArray⟩)=W:=⟨_,rfl⟩
 rw [hw3] at b4 hbX;rw [←hQ] at hbX;have HQ3:Hid (B4 w3 Q (.slice va ts.length vc) (.int .i64 ep) (.int .i64 nw) (.string ⟨jr.toArray⟩)):=b4;have HX3:Hid (Below w2.heap.size w2 w3):=hbX
 have HQD:Hid (D<Q∧B<Q):=by have h1:=HR3.out.lt;have h2:=HC2.out.lt;exact (⟨by omega,by omega⟩:D<Q∧B<Q)
 have HC3:Hid (Cur w3 B a len cap):=HC2.out.below hbX;have q0:=b4.c0;have q1:=b4.c1;have q2:=b4.c2;have q3:=b4.c3;clear b4 hbX bz hbZ HC2;have HD3:Hid (Dr18 w w3 B D Q a len cap w1.heap.size va vc xs ts.length ep nw jr):=⟨HC3.out,HQ3.out,HR3.out.below HX3.out,HO2.out.1.below HX3.out,HB2.out.trans (HX3.out.mono HB2.out.size),by have h1:=HBD.out;have h2:=HC1L.out;have h3:=HQD.out;have h4:=HO2.out.2.2.2.2.2;have h5:=HX3.out.size;have h6:=HQ3.out.lt;have h7:=HB2.out.size;have h8:=HS12.out;omega⟩;have HO3:Hid (xs.map (·.1)=ts∧ts.length≤9∧za1 ts∧jr.length≤1508):=⟨HO2.out.2.1,HO2.out.2.2.1,HO2.out.2.2.2.1,HO2.out.2.2.2.2.1⟩;clear HQ3 HC3 HR3 HX3 HO2 HB2;go_wp2_with fail
 refine (zdS _ B a len cap (-1) 6 (by omega) (by omega) (by omega) HD3.out.cur).mono ?_;rintro e w4 ⟨k,rfl,hk0,hk1,hc4,hg4⟩;have HD4:Hid (_):=HD3.out.call hc4 hg4;clear q0 q1 q2 q3 hc4 hg4 HD3;have q0:=HD4.out.q.c0;have q1:=HD4.out.q.c1;have q2:=HD4.out.q.c2;have q3:=HD4.out.q.c3
 go_upto_if 23 with (go_at_call 29;refine (zbO _ B a len cap 5 (by omega) (by omega) HD4.out.cur).mono ?_;rintro e w5 ⟨b,rfl,hc5,hg5⟩)
 have HD5':Hid (_):=HD4.out.call hc5 hg5;clear q0 q1 q2 q3 hc5 hg5 HD4
 go_cut [10] from 11 (fun ev wx=>∃ e2:Int,ev=.int .i64 e2∧w5=wx)
 case first =>
  rcases b with _ | _
  ·
   go_wp2;go_meet
   case rel=>exact ⟨_,rfl,rfl⟩
  ·
   go_wp2;go_meet
   case rel=>exact ⟨_,rfl,rfl⟩
 case rest =>
  obtain ⟨e2,rfl,rfl⟩:=hcut;have q0:=HD5'.out.q.c0;have q1:=HD5'.out.q.c1;have q2:=HD5'.out.q.c2;have q3:=HD5'.out.q.c3;go_wp2;refine wp_region_held_drew (S:=(fun Z=>Z.cell? ⟨Q,0,none⟩=some (.slice va ts.length vc)∧Z.cell? ⟨Q,1,none⟩=some (.int .i64 ep)∧Z.cell? ⟨Q,2,none⟩=some (.int .i64 nw)∧Z.cell? ⟨Q,3,none⟩=some (.string ⟨jr.toArray⟩))) (by kernel_rfl) ?_ (fun hHeld=>?_)
  ·exact ⟨q0,q1,q2,q3⟩
  obtain ⟨X,hX⟩:∃ X,w5.drew=X:=⟨_,rfl⟩
  rw [hX] at hHeld ⊢;have HD0:Hid (_):=HD5'.out.drew;rw [hX] at HD0;clear hX q0 q1 q2 q3;refine tkO [(0,26),(1,27),(2,28),(4,30)] ?_
  repeat (refine tkY ?_ rfl (by rfl) ?_ ?_;rotate_left;(focus (intro wq hSw;(try dsimp only at hSw);first | (go_simp;done) | (go_simp;with_reducible rfl)));simp only [zP])
  refine tkZ ?_;refine wpAnyH_ready (rs:=[3,5]) (by kernel_rfl) (by simp) ?_;refine AllReadyH.cons rfl (fun K hK=>?_) (AllReadyH.cons rfl (fun K hK=>?_) AllReadyH.nil)
  ·
   go_simp;have HD5:Hid (_):=HD0.out.alloc (.cells #[.int .i64 0,.int .i64 7,.int .i64 2147483646,.int .i64 2147483647,.int .i64 (-1)] 2);have hq5:=HD5.out.q;refine hK.out _ _ ?_ (fun hHeld=>?_)
   ·exact ⟨hq5.c0,hq5.c1,hq5.c2,hq5.c3⟩
   clear hK K;refine zR 5 rfl (fun K hK=>?_);go_simp;have hcu:=HD5.out.cur
   go_at_call 30
   refine (zad _ B a len cap 5 (by omega) (by omega) hcu).mono ?_;rintro e w6 ⟨y,rfl,hy0,hy1,hc6,hg6⟩;obtain ⟨y,rfl⟩:∃ i:Nat,y=(i:Int):=Int.eq_ofNat_of_zero_le hy0
   have HD6:Hid (_):=HD5.out.call hc6 hg6;have hq6:=HD6.out.q;obtain ⟨v0,hv0,c0⟩:=zie (V:=X) hg6 (by have:=HD0.out.lt;intro e;injection e with e;omega) (show y<5 by omega);refine hK.out _ _ ?_ (fun hHeld=>?_)
   ·exact ⟨hq6.c0,hq6.c1,hq6.c2,hq6.c3⟩
   clear hK K;obtain ⟨Xe,hXe,hge,hF⟩:=HD6.out.store;have HF:Hid (_):=hF;have hqe:=hF.q;have r0:=HD6.out.r.c0;have r1:=HD6.out.r.c1;have r2:=HD6.out.r.c2;have r3:=HD6.out.r.c3;have f0:=HD6.out.r.fr 0;have f1:=HD6.out.r.fr 1;have f2:=HD6.out.r.fr 2;have f3:=HD6.out.r.fr 3;have c1:=hge.cell c0 (by have:=HD0.out.lt;intro e;injection e with e;simp only at e;omega);refine tkO [(6,32)] ?_
   repeat (refine tkY ?_ rfl (by rfl) ?_ ?_;rotate_left;(focus (intro wq hSw;(try dsimp only at hSw);first | (go_simp;done) | (go_simp;with_reducible rfl)));simp only [zP])
   refine tkZ ?_;refine wpAnyH_ready (rs:=[7,8]) (by kernel_rfl) (by simp) ?_;refine AllReadyH.cons rfl (fun K hK=>?_) (AllReadyH.cons rfl (fun K hK=>?_) AllReadyH.nil)
   ·
    go_simp;refine hK.out _ _ ?_ (fun hHeld=>?_)
    ·exact ⟨hq6.c0,hq6.c1,hq6.c2,hq6.c3⟩
    clear hK K;refine zR 8 rfl (fun K hK=>?_);go_simp
    (try rw [hXe])
    refine hK.out _ _ ?_ (fun hHeld=>?_)
    ·exact ⟨hqe.c0,hqe.c1,hqe.c2,hqe.c3⟩
    clear hK K;refine tkO [(9,3),(10,4),(11,5)] ?_
    repeat (refine tkY ?_ rfl (by rfl) ?_ ?_;rotate_left;(focus (intro wq hSw;(try dsimp only at hSw);first | (go_simp;done) | (go_simp;with_reducible rfl)));simp only [zP])
    refine tkZ ?_;refine wpAnyH_done (by kernel_rfl) ?_ _;go_wp2;have y0:=HF.out.r.c0;have y1:=HF.out.r.c1;have y2:=HF.out.r.c2;have y3:=HF.out.r.c3;refine bodyPost_ret (v:=.tuple #[.agg #[.slice va ts.length vc,.int .i64 ep,.int .i64 nw,.string ⟨jr.toArray⟩],.int .i64 k,.int .i64 e2,.int .i64 v0]) (by simp [results,Tryz.results7,go_sem,y0,y1,y2,y3]) rfl ?_;exact ⟨va,vc,xs,ts,ep,nw,jr,k,e2,v0,rfl,HF.out.own,HO3.out.1,HO3.out.2.1,HO3.out.2.2.1,HO3.out.2.2.2,HF.out.bel,hk0,hk1,hv0⟩
   ·
    go_simp
    (try rw [hXe])
    refine hK.out _ _ ?_ (fun hHeld=>?_)
    ·exact ⟨hqe.c0,hqe.c1,hqe.c2,hqe.c3⟩
    clear hK K;refine tkO [(9,3),(10,4)] ?_
    repeat (refine tkY ?_ rfl (by rfl) ?_ ?_;rotate_left;(focus (intro wq hSw;(try dsimp only at hSw);first | (go_simp;done) | (go_simp;with_reducible rfl)));simp only [zP])
    refine tkZ ?_;refine zR 7 rfl (fun K hK=>?_);go_simp;refine hK.out _ _ ?_ (fun hHeld=>?_)
    ·exact ⟨hqe.c0,hqe.c1,hqe.c2,hqe.c3⟩
    clear hK K;refine tkO [(11,5)] ?_
    repeat (refine tkY ?_ rfl (by rfl) ?_ ?_;rotate_left;(focus (intro wq hSw;(try dsimp only at hSw);first | (go_simp;done) | (go_simp;with_reducible rfl)));simp only [zP])
    refine tkZ ?_;refine wpAnyH_done (by kernel_rfl) ?_ _;go_wp2;have y0:=HF.out.r.c0;have y1:=HF.out.r.c1;have y2:=HF.out.r.c2;have y3:=HF.out.r.c3;refine bodyPost_ret (v:=.tuple #[.agg #[.slice va ts.length vc,.int .i64 ep,.int .i64 nw,.string ⟨jr.toArray⟩],.int .i64 k,.int .i64 e2,.int .i64 v0]) (by simp [results,Tryz.results7,go_sem,y0,y1,y2,y3]) rfl ?_;exact ⟨va,vc,xs,ts,ep,nw,jr,k,e2,v0,rfl,HF.out.own,HO3.out.1,HO3.out.2.1,HO3.out.2.2.1,HO3.out.2.2.2,HF.out.bel,hk0,hk1,hv0⟩
  ·
   go_simp;have hcu:=HD0.out.cur
   go_at_call 30
   refine (zad _ B a len cap 5 (by omega) (by omega) hcu).mono ?_;rintro e w6 ⟨y,rfl,hy0,hy1,hc6,hg6⟩;obtain ⟨y,rfl⟩:∃ i:Nat,y=(i:Int):=Int.eq_ofNat_of_zero_le hy0
   have HD6:Hid (_):=HD0.out.call hc6 hg6;have hq6:=HD6.out.q;refine hK.out _ _ ?_ (fun hHeld=>?_)
   ·exact ⟨hq6.c0,hq6.c1,hq6.c2,hq6.c3⟩
   clear hK K;obtain ⟨Xe,hXe,hge,hF⟩:=HD6.out.store;have HF:Hid (_):=hF;have hqe:=hF.q;have r0:=HD6.out.r.c0;have r1:=HD6.out.r.c1;have r2:=HD6.out.r.c2;have r3:=HD6.out.r.c3;have f0:=HD6.out.r.fr 0;have f1:=HD6.out.r.fr 1;have f2:=HD6.out.r.fr 2;have f3:=HD6.out.r.fr 3;refine wpAnyH_ready (rs:=[3,8]) (by kernel_rfl) (by simp) ?_;refine AllReadyH.cons rfl (fun K hK=>?_) (AllReadyH.cons rfl (fun K hK=>?_) AllReadyH.nil)
   ·
    go_simp;have HD7:Hid (_):=HD6.out.alloc (.cells #[.int .i64 0,.int .i64 7,.int .i64 2147483646,.int .i64 2147483647,.int .i64 (-1)] 2);have hq7:=HD7.out.q;refine hK.out _ _ ?_ (fun hHeld=>?_)
    ·exact ⟨hq7.c0,hq7.c1,hq7.c2,hq7.c3⟩
    clear hK K;obtain ⟨v0,hv0,c0⟩:=zie (V:=w6) (World.grownBy.refl _ none) (by simp) (show y<5 by omega);obtain ⟨Xe,hXe,hge,hF⟩:=HD7.out.store;have HF:Hid (_):=hF;have hqe:=hF.q;have r0:=HD7.out.r.c0;have r1:=HD7.out.r.c1;have r2:=HD7.out.r.c2;have r3:=HD7.out.r.c3;have f0:=HD7.out.r.fr 0;have f1:=HD7.out.r.fr 1;have f2:=HD7.out.r.fr 2;have f3:=HD7.out.r.fr 3;have c1:=hge.cell c0 (by have:=HD6.out.lt;intro e;injection e with e;simp only at e;omega);refine tkO [(6,32)] ?_
    repeat (refine tkY ?_ rfl (by rfl) ?_ ?_;rotate_left;(focus (intro wq hSw;(try dsimp only at hSw);first | (go_simp;done) | (go_simp;with_reducible rfl)));simp only [zP])
    refine tkZ ?_;refine wpAnyH_ready (rs:=[7,8]) (by kernel_rfl) (by simp) ?_;refine AllReadyH.cons rfl (fun K hK=>?_) (AllReadyH.cons rfl (fun K hK=>?_) AllReadyH.nil)
    ·
     go_simp;refine hK.out _ _ ?_ (fun hHeld=>?_)
     ·exact ⟨hq7.c0,hq7.c1,hq7.c2,hq7.c3⟩
     clear hK K;refine zR 8 rfl (fun K hK=>?_);go_simp
     (try rw [hXe])
     refine hK.out _ _ ?_ (fun hHeld=>?_)
     ·exact ⟨hqe.c0,hqe.c1,hqe.c2,hqe.c3⟩
     clear hK K;refine tkO [(9,3),(10,4),(11,5)] ?_
     repeat (refine tkY ?_ rfl (by rfl) ?_ ?_;rotate_left;(focus (intro wq hSw;(try dsimp only at hSw);first | (go_simp;done) | (go_simp;with_reducible rfl)));simp only [zP])
     refine tkZ ?_;refine wpAnyH_done (by kernel_rfl) ?_ _;go_wp2;have y0:=HF.out.r.c0;have y1:=HF.out.r.c1;have y2:=HF.out.r.c2;have y3:=HF.out.r.c3;refine bodyPost_ret (v:=.tuple #[.agg #[.slice va ts.length vc,.int .i64 ep,.int .i64 nw,.string ⟨jr.toArray⟩],.int .i64 k,.int .i64 e2,.int .i64 v0]) (by simp [results,Tryz.results7,go_sem,y0,y1,y2,y3]) rfl ?_;exact ⟨va,vc,xs,ts,ep,nw,jr,k,e2,v0,rfl,HF.out.own,HO3.out.1,HO3.out.2.1,HO3.out.2.2.1,HO3.out.2.2.2,HF.out.bel,hk0,hk1,hv0⟩
    ·
     go_simp
     (try rw [hXe])
     refine hK.out _ _ ?_ (fun hHeld=>?_)
     ·exact ⟨hqe.c0,hqe.c1,hqe.c2,hqe.c3⟩
     clear hK K;refine tkO [(9,3),(10,4)] ?_
     repeat (refine tkY ?_ rfl (by rfl) ?_ ?_;rotate_left;(focus (intro wq hSw;(try dsimp only at hSw);first | (go_simp;done) | (go_simp;with_reducible rfl)));simp only [zP])
     refine tkZ ?_;refine zR 7 rfl (fun K hK=>?_);go_simp;refine hK.out _ _ ?_ (fun hHeld=>?_)
     ·exact ⟨hqe.c0,hqe.c1,hqe.c2,hqe.c3⟩
     clear hK K;refine tkO [(11,5)] ?_
     repeat (refine tkY ?_ rfl (by rfl) ?_ ?_;rotate_left;(focus (intro wq hSw;(try dsimp only at hSw);first | (go_simp;done) | (go_simp;with_reducible rfl)));simp only [zP])
     refine tkZ ?_;refine wpAnyH_done (by kernel_rfl) ?_ _;go_wp2;have y0:=HF.out.r.c0;have y1:=HF.out.r.c1;have y2:=HF.out.r.c2;have y3:=HF.out.r.c3;refine bodyPost_ret (v:=.tuple #[.agg #[.slice va ts.length vc,.int .i64 ep,.int .i64 nw,.string ⟨jr.toArray⟩],.int .i64 k,.int .i64 e2,.int .i64 v0]) (by simp [results,Tryz.results7,go_sem,y0,y1,y2,y3]) rfl ?_;exact ⟨va,vc,xs,ts,ep,nw,jr,k,e2,v0,rfl,HF.out.own,HO3.out.1,HO3.out.2.1,HO3.out.2.2.1,HO3.out.2.2.2,HF.out.bel,hk0,hk1,hv0⟩
   ·
    go_simp
    (try rw [hXe])
    refine hK.out _ _ ?_ (fun hHeld=>?_)
    ·exact ⟨hqe.c0,hqe.c1,hqe.c2,hqe.c3⟩
    clear hK K;refine tkO [(9,3),(10,4)] ?_
    repeat (refine tkY ?_ rfl (by rfl) ?_ ?_;rotate_left;(focus (intro wq hSw;(try dsimp only at hSw);first | (go_simp;done) | (go_simp;with_reducible rfl)));simp only [zP])
    refine tkZ ?_;refine zR 3 rfl (fun K hK=>?_);go_simp;have HF2:Hid (_):=HF.out.alloc (.cells #[.int .i64 0,.int .i64 7,.int .i64 2147483646,.int .i64 2147483647,.int .i64 (-1)] 2);have hq8:=HF2.out.q;obtain ⟨v0,hv0,c0⟩:=zie (V:=Xe) (World.grownBy.refl _ none) (by simp) (show y<5 by omega);refine hK.out _ _ ?_ (fun hHeld=>?_)
    ·exact ⟨hq8.c0,hq8.c1,hq8.c2,hq8.c3⟩
    clear hK K;refine tkO [(6,32)] ?_
    repeat (refine tkY ?_ rfl (by rfl) ?_ ?_;rotate_left;(focus (intro wq hSw;(try dsimp only at hSw);first | (go_simp;done) | (go_simp;with_reducible rfl)));simp only [zP])
    refine tkZ ?_;refine zR 7 rfl (fun K hK=>?_);go_simp;refine hK.out _ _ ?_ (fun hHeld=>?_)
    ·exact ⟨hq8.c0,hq8.c1,hq8.c2,hq8.c3⟩
    clear hK K;refine tkO [(11,5)] ?_
    repeat (refine tkY ?_ rfl (by rfl) ?_ ?_;rotate_left;(focus (intro wq hSw;(try dsimp only at hSw);first | (go_simp;done) | (go_simp;with_reducible rfl)));simp only [zP])
    refine tkZ ?_;refine wpAnyH_done (by kernel_rfl) ?_ _;go_wp2;have y0:=HF2.out.r.c0;have y1:=HF2.out.r.c1;have y2:=HF2.out.r.c2;have y3:=HF2.out.r.c3;refine bodyPost_ret (v:=.tuple #[.agg #[.slice va ts.length vc,.int .i64 ep,.int .i64 nw,.string ⟨jr.toArray⟩],.int .i64 k,.int .i64 e2,.int .i64 v0]) (by simp [results,Tryz.results7,go_sem,y0,y1,y2,y3]) rfl ?_;exact ⟨va,vc,xs,ts,ep,nw,jr,k,e2,v0,rfl,HF2.out.own,HO3.out.1,HO3.out.2.1,HO3.out.2.2.1,HO3.out.2.2.2,HF2.out.bel,hk0,hk1,hv0⟩
end Go.Proofs.YtponeoijfaepnaaGreatDoor
