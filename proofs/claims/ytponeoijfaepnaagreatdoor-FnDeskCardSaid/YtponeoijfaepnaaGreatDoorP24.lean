/-
  Parts of one proof, one behind the other: Codes, DrawL18.
-/
import Derived.Test.YtponeoijfaepnaaGreatDoorP23
namespace Go.Proofs.YtponeoijfaepnaaGreatDoor
open Go.RowKit
set_option maxHeartbeats 4000000
set_option maxRecDepth 100000
theorem code_nil (w:World):Code w w.heap.size none 0:=fun j hj=>by omega
theorem code_of (w:World) (x:Addr) (len:Nat) (zs:List Int) (h:∀ i,i<zs.length→w.cell? (x.add i)=some (.int .u8 (zs.getD i 0))) (hl:len≤zs.length) (hw:∀ n∈zs,(Lit.int .u8 n).wf=true):Code w w.heap.size (some x) len:=by
 intro j hj;obtain ⟨b,off,spot⟩:=x;have hc:=h j (by omega);have hspot:spot=none:=by simpa [Addr.add] using World.cell?_spot (h 0 (by omega))
 subst hspot;have e:(⟨b,off,none⟩:Addr).add j=⟨b,off+j,none⟩:=by unfold Addr.add;split<;>simp_all
 rw [e] at hc;have hb:=bounds_u8 (hw (zs.getD j 0) (by rw [List.getD_eq_getElem?_getD,List.getElem?_eq_getElem (by omega)];exact List.getElem_mem _));exact ⟨b,off,_,rfl,World.block_lt_of_cell? w ⟨b,off+j,none⟩ hc,hc,hb⟩
theorem Code.later {w w':World} {a:Option Addr} {len:Nat} (h:Code w w.heap.size a len) (hb:Below w.heap.size w w'):Code w' w'.heap.size a len:=by
 intro j hj;obtain ⟨b,off,x,e1,e2,e3,e0⟩:=h j hj;exact ⟨b,off,x,e1,Nat.lt_of_lt_of_le e2 hb.size,(hb.cell (p:=⟨b,off+j,none⟩) e2).trans e3,e0⟩
theorem Code.kept {w w':World} {a:Option Addr} {len:Nat} (h:Code w w.heap.size a len) (hg:w.grownBy w' none):Code w' w'.heap.size a len :=
 h.later ⟨hg.os,hg.tape,hg.output,hg.size,fun k hk=>hg.block k hk (by simp)⟩
theorem bigB (w:World) (a:Option Addr) (len cap:Nat) :
 Calls Tryz.prog 4 #[.slice a len cap] w fun e w'=>e=.returned (.bool (decide (4096<(len:Int))))∧w'=w:=by
 go_enter Tryz.func4,Tryz.ntmps4
 go_wp2;go_ret;exact ⟨rfl,rfl⟩
theorem drawLent (w:World) (a:Option Addr) (len cap:Nat) (hl:len≤4096) (hc:Code w w.heap.size a len) :
 Calls Tryz.prog 5 #[.slice a len cap] w fun e w'=>∃ va vc xs ts ep nw jr k,e=.returned (.tuple #[.agg #[.slice va (ts:List Ta).length vc,.int .i64 ep,.int .i64 nw,.string ⟨(jr:List UInt8).toArray⟩],.int .i64 k])∧za2 w' w.heap.size (.slice va ts.length vc) xs∧xs.map (·.1)=ts∧ts.length≤9∧za1 ts∧jr.length≤1508∧Below w.heap.size w w':=by
 obtain ⟨D,hD⟩:∃ D,w.heap.size=D:=⟨_,rfl⟩
 obtain ⟨W1,hW1⟩:∃ W,w.alloc (.cells #[.slice none 0 0,.int .i64 0,.int .i64 0,.string ⟨#[]⟩] 26)=W:=⟨_,rfl⟩
 have hs1:W1.heap.size=D+1:=by rw [←hW1,←hD];simp
 have hb1:Below w.heap.size w W1:=by rw [←hW1];exact (Below.refl _ _).alloc (Nat.le_refl _) _
 have bR:=B4.new w (.slice none 0 0) (.int .i64 0) (.int .i64 0) (.string ⟨#[]⟩) 26;rw [hW1,hD] at bR;have hcode:Code W1 W1.heap.size a len:=Code.later hc hb1;have HR1:Hid (B4 W1 D (.slice none 0 0) (.int .i64 0) (.int .i64 0) (.string ⟨#[]⟩)):=bR;have HW:Hid (Below w.heap.size w W1):=hb1;clear hc bR hb1
 go_enter Tryz.func5,Tryz.ntmps5
 go_wp2_with fail
 refine (ziJ _ a len cap hl hcode).mono ?_;rintro e w1 ⟨rfl,hc1,hg1⟩;obtain ⟨B,hB⟩:∃ B,W1.heap.size=B:=⟨_,rfl⟩
 rw [hB] at hc1 ⊢;have HBD:Hid (B=D+1):=by exact (by rw [←hB,hs1]:B=D+1)
 have HWs:Hid (D+1≤w1.heap.size):=by exact (by have:=hg1.size;omega:D+1≤w1.heap.size)
 have HR2:Hid (B4 w1 D (.slice none 0 0) (.int .i64 0) (.int .i64 0) (.string ⟨#[]⟩)):=HR1.out.grown hg1 (by simp);have HG1:Hid (W1.grownBy w1 none):=hg1;clear hcode hg1 HR1 hs1 hB;go_wp2_with fail
 refine (zgW w1 B a len cap hc1).mono ?_;rintro e w2 ⟨_,rfl,lv,va,vc,xs,ts,ep,nw,jr,rfl,_,ho2,hx2,hn9,hsh,hj,hc2,hg2⟩;have HR3:Hid (B4 w2 D (.slice none 0 0) (.int .i64 0) (.int .i64 0) (.string ⟨#[]⟩)):=HR2.out.grown hg2 (by intro e;injection e with e;have:=HBD.out;omega);have HO2:Hid (za2 w2 w1.heap.size (.slice va ts.length vc) xs∧xs.map (·.1)=ts∧ts.length≤9∧za1 ts∧jr.length≤1508∧D+1≤w1.heap.size):=⟨ho2,hx2,hn9,hsh,hj,HWs.out⟩
 have HB2:Hid (Below w.heap.size w w2):=by have h1:Below w.heap.size w w1:=HW.out.grown HG1.out HW.out.size (fun k e=>by cases e);exact h1.grown hg2 h1.size (fun k e=>by injection e with e;have:=HBD.out;omega)
 have HC2:Hid (Cur w2 B a len cap):=hc2;have HC1L:Hid (B<w1.heap.size):=hc1.lt;clear ho2 hx2 hn9 hsh hj hc1 hc2 hg2 HR2 HW HG1;obtain ⟨Q,hQ⟩:∃ Q,w2.heap.size=Q:=⟨_,rfl⟩
 obtain ⟨Z0,hZ0⟩:∃ Z0,w2.alloc (.cells #[.slice none 0 0,.int .i64 0,.int .i64 0,.string ⟨#[]⟩] 26)=Z0:=⟨_,rfl⟩
 have bz:=B4.new w2 (.slice none 0 0) (.int .i64 0) (.int .i64 0) (.string ⟨#[]⟩) 26;have hbZ:Below w2.heap.size w2 Z0:=by rw [←hZ0];exact (Below.refl _ _).alloc (Nat.le_refl _) _
 rw [hZ0] at bz;rw [hQ] at bz hbZ;have z0:=bz.c0;have z1:=bz.c1;have z2:=bz.c2;have z3:=bz.c3;have zf:=bz.fr;have b4:=(((bz.s0 (.slice va ts.length vc)).s1 (.int .i64 ep)).s2 (.int .i64 nw)).s3 (.string ⟨jr.toArray⟩);have hbX:Below Q w2 ((((Z0.setCell ⟨Q,0,none⟩ (.slice va ts.length vc)).setCell ⟨Q,1,none⟩ (.int .i64 ep)).setCell ⟨Q,2,none⟩ (.int .i64 nw)).setCell ⟨Q,3,none⟩ (.string ⟨jr.toArray⟩)):=(((hbZ.setCell (Nat.le_refl _) _).setCell (Nat.le_refl _) _).setCell (Nat.le_refl _) _).setCell (Nat.le_refl _) _;obtain ⟨w3,hw3⟩:∃ W,(((Z0.setCell ⟨Q,0,none⟩ (.slice va ts.length vc)).setCell ⟨Q,1,none⟩ (.int .i64 ep)).setCell ⟨Q,2,none⟩ (.int .i64 nw)).setCell ⟨Q,3,none⟩ (.string ⟨jr.toArray⟩)=W:=⟨_,rfl⟩
 rw [hw3] at b4 hbX;rw [←hQ] at hbX;have HQ3:Hid (B4 w3 Q (.slice va ts.length vc) (.int .i64 ep) (.int .i64 nw) (.string ⟨jr.toArray⟩)):=b4;have HX3:Hid (Below w2.heap.size w2 w3):=hbX
 have HQD:Hid (D<Q∧B<Q):=by have h1:=HR3.out.lt;have h2:=HC2.out.lt;exact (⟨by omega,by omega⟩:D<Q∧B<Q)
 have HC3:Hid (Cur w3 B a len cap):=HC2.out.below hbX;have q0:=b4.c0;have q1:=b4.c1;have q2:=b4.c2;have q3:=b4.c3;clear b4 hbX bz hbZ HC2;go_wp2;refine wp_region_held_drew (S:=(fun Z=>Z.cell? ⟨Q,0,none⟩=some (.slice va ts.length vc)∧Z.cell? ⟨Q,1,none⟩=some (.int .i64 ep)∧Z.cell? ⟨Q,2,none⟩=some (.int .i64 nw)∧Z.cell? ⟨Q,3,none⟩=some (.string ⟨jr.toArray⟩))) (by kernel_rfl) ?_ (fun hHeld=>?_)
 ·exact ⟨q0,q1,q2,q3⟩
 refine tkO [(0,14),(1,15)] ?_
 repeat (refine tkY ?_ rfl (by rfl) ?_ ?_;rotate_left;(focus (intro wq hSw;(try dsimp only at hSw);first | (go_simp;done) | (go_simp;with_reducible rfl)));simp only [zP])
 refine tkZ ?_;refine zR 2 rfl (fun K hK=>?_);go_simp
 (go_at_call 24;refine (zdS _ B a len cap (-1) 6 (by omega) (by omega) (by omega) HC3.out.drew).mono ?_;rintro e w4 ⟨k,rfl,hk0,hk1,hc4,hg4⟩;have hg34:w3.grownBy w4 (some B):=(zap w3 (some B)).trans hg4;have HQ4:Hid (B4 w4 Q (.slice va ts.length vc) (.int .i64 ep) (.int .i64 nw) (.string ⟨jr.toArray⟩)):=HQ3.out.grown hg34 (by intro e;injection e with e;have h1:=HQD.out;omega);have hr4:=(HR3.out.below HX3.out).grown hg34 (by intro e;injection e with e;have:=HBD.out;omega);have HO4:Hid (za2 w4 w1.heap.size (.slice va ts.length vc) xs):=(HO2.out.1.below HX3.out).kept hg34 (za8 (HO2.out.1.below HX3.out).row (by have:=HC1L.out;omega)) (fun y hy=>za8 ((HO2.out.1.below HX3.out).trees y hy) (by have:=HC1L.out;omega));have HB4:Hid (Below w.heap.size w w4):=(HB2.out.trans (HX3.out.mono HB2.out.size)).grown hg34 (Nat.le_trans HB2.out.size HX3.out.size) (fun k e=>by injection e with e;have:=HBD.out;omega);clear hc4 hg4 hg34 q0 q1 q2 q3;have q0:=HQ4.out.c0;have q1:=HQ4.out.c1;have q2:=HQ4.out.c2;have q3:=HQ4.out.c3;have r0:=hr4.c0;have r1:=hr4.c1;have r2:=hr4.c2;have r3:=hr4.c3;have f0:=hr4.fr 0;have f1:=hr4.fr 1;have f2:=hr4.fr 2;have f3:=hr4.fr 3;obtain ⟨Xe,hXe,y0,y1,y2,y3,hge⟩:=set4 (.slice va ts.length vc) (.int .i64 ep) (.int .i64 nw) (.string ⟨jr.toArray⟩) r0 r1 r2 r3;have bqe:=HQ4.out.grown hge (by intro e;injection e with e;have h2:=HQD.out;omega))
 refine hK.out _ _ ?_ (fun hHeld=>?_)
 ·exact ⟨q0,q1,q2,q3⟩
 clear hK K;refine zR 3 rfl (fun K hK=>?_);go_simp
 (try rw [hXe])
 refine hK.out _ _ ?_ (fun hHeld=>?_)
 ·exact ⟨bqe.c0,bqe.c1,bqe.c2,bqe.c3⟩
 clear hK K;refine tkO [(4,3)] ?_
 repeat (refine tkY ?_ rfl (by rfl) ?_ ?_;rotate_left;(focus (intro wq hSw;(try dsimp only at hSw);first | (go_simp;done) | (go_simp;with_reducible rfl)));simp only [zP])
 refine tkZ ?_;refine wpAnyH_done (by kernel_rfl) ?_ _;go_wp2;refine bodyPost_ret (v:=.tuple #[.agg #[.slice va ts.length vc,.int .i64 ep,.int .i64 nw,.string ⟨jr.toArray⟩],.int .i64 k]) (by simp [results,Tryz.results5,go_sem,y0,y1,y2,y3]) rfl ?_;have hk:=(HO4.out.kept hge (za8 HO4.out.row (by have:=HO2.out.2.2.2.2.2;omega)) (fun y hy=>za8 (HO4.out.trees y hy) (by have:=HO2.out.2.2.2.2.2;omega)));exact ⟨va,vc,xs,ts,ep,nw,jr,k,rfl,hk.base (by have:=HO2.out.2.2.2.2.2;omega),HO2.out.2.1,HO2.out.2.2.1,HO2.out.2.2.2.1,HO2.out.2.2.2.2.1,HB4.out.grown hge HB4.out.size (fun k e=>by injection e with e;omega)⟩
end Go.Proofs.YtponeoijfaepnaaGreatDoor
