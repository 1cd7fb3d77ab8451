/-
  Parts of one proof, one behind the other: TaskC, TaskD, Hash, FromHex, Lists, ListsX, FrameS.
-/
import Derived.Test.YtponeoijfaepnaaGreatDoorP12
namespace Go.Proofs.YtponeoijfaepnaaGreatDoor
open Go.RowKit
set_option maxHeartbeats 4000000
set_option maxRecDepth 100000
theorem as_src {w:World} {a:Option Addr} {c:Nat} {xs:List Int} (h:AsIn w a xs) (hc:a=none→c=0):Src w (.slice a xs.length c) xs.length 1 (zaY xs):=by
 refine ⟨by rw [zjE,Nat.mul_one],zjD _,?_⟩;rcases a with _ | ad
 ·
  have h0:xs.length=0:=by
   rcases Nat.eq_zero_or_pos xs.length with g | g
   ·exact g
   ·obtain ⟨b,off,e,_⟩:=h 0 g;cases e
  rw [hc rfl,h0];exact Or.inl ⟨rfl,rfl⟩
 ·
  refine Or.inr ⟨ad,c,rfl,fun j u hu=>?_⟩;have hj:j<xs.length:=by have:=(List.getElem?_eq_some_iff.1 hu).1;rw [zjE] at this;exact this
  obtain ⟨b,off,e,_,hcell⟩:=h j hj;injection e with e;subst e;rw [zfD,hcell,←hu,zm1 _ j hj];simp [List.getD,hj]
theorem zmJ (a:Option Addr) (c:Nat) (xs:List Int) (w:World) (hin:AsIn w a xs) (hc:a=none→c=0) (hn:xs.length≤1048576) :
 Calls Tryz.prog 70 #[.slice a xs.length c] w fun e w'=>∃ va vc,e=.returned (.slice va xs.length vc)∧w'.ownsRow w.heap.size 2 1 (.slice va xs.length vc) xs.length (zaY xs)∧Below w.heap.size w w':=by
 obtain ⟨i0,hi,hz0,hz1,hz2⟩:=info_parts info2;have hb0:Below w.heap.size w (w.alloc (.cells #[] 2)):=(Below.refl _ _).alloc (Nat.le_refl _) _;have hP0:(w.alloc (.cells #[] 2)).ownsRow w.heap.size 2 1 (.slice (some ⟨w.heap.size,0,none⟩) 0 0) 0 []:=World.ownsRow_lit w #[] 0 (Nat.le_refl _) (by decide) rfl;obtain ⟨v',Y,hrun,hown,hg,_⟩:=zar (P:=Tryz.prog) (w.alloc (.cells #[] 2)) w.heap.size 40 40 2 i0 _ 1 8 Tryz.underlying40 hi hz0 hz1 hz2 rfl (by decide) _ _ _ hP0 _ xs.length (zaY xs) (as_src (hin.below hb0) hc) (by unfold maxLen;omega) (by omega) hb0.size;rw [Nat.zero_add,List.nil_append] at hown
 have hval:∃ va vc,v'=.slice va xs.length vc:=by
  rcases zaR hown with ⟨rfl,h0,_⟩ | ⟨g,cp,rfl⟩
  ·exact ⟨none,0,by rw [h0]⟩
  ·exact ⟨_,_,rfl⟩
 obtain ⟨va,vc,rfl⟩:=hval
 have HF:Hid (Y.ownsRow w.heap.size 2 1 (.slice va xs.length vc) xs.length (zaY xs)∧Below w.heap.size w Y):=by
  refine ⟨hown,hb0.grown hg hb0.size (fun q e=>?_)⟩;have:w.heap.size=q:=by simpa [Value.ownBlock] using e
  omega
 clear hown hg hP0 hb0 hin
 go_enter Tryz.func70,Tryz.ntmps70
 go_wp2_with (at_builtin;refine za0 rfl (.tmp 3) (.tmp 4) 40 rfl _ _ _ rfl rfl hrun ?_;clear hrun)
 go_ret;exact ⟨va,vc,rfl,HF.out⟩
theorem zgo (a:Option Addr) (len cap:Nat) (ts:List Ta) (ep nw:Int) (jr:List UInt8) (w:World) (hin:zaF w a len cap ts) (hsh:za1 ts) (hlen:len≤1048576) :
 Calls Tryz.prog 35 #[.agg #[.slice a len cap,.int .i64 ep,.int .i64 nw,.string ⟨jr.toArray⟩]] w
  fun e w'=>∃ va vc xs,e=.returned (.agg #[.slice va len vc,.int .i64 ep,.int .i64 nw,.string ⟨jr.toArray⟩])∧xs.map (·.1)=ts∧za2 w' w.heap.size (.slice va len vc) xs∧zai (xs.map tvT)∧Below w.heap.size w w':=by
 obtain rfl:ts.length=len:=hin.1;obtain ⟨D,hD⟩:∃ D,w.heap.size=D:=⟨_,rfl⟩
 obtain ⟨W1,hW1⟩:∃ W,w.alloc (.cells #[.slice a ts.length cap,.int .i64 ep,.int .i64 nw,.string ⟨jr.toArray⟩] 26)=W:=⟨_,rfl⟩
 obtain ⟨W2,hW2⟩:∃ W,W1.alloc (.cells #[.slice none 0 0,.int .i64 0,.int .i64 0,.string ⟨#[]⟩] 26)=W:=⟨_,rfl⟩
 have hs1:W1.heap.size=D+1:=by rw [←hW1,←hD];simp
 have hs2:W2.heap.size=D+2:=by rw [←hW2];simp [hs1]
 have hb1:Below D w W1:=by rw [←hW1,←hD];exact (Below.refl _ _).alloc (Nat.le_refl _) _
 have hb12:Below W1.heap.size W1 W2:=by rw [←hW2];exact (Below.refl _ _).alloc (Nat.le_refl _) _
 have hb2:Below D w W2:=hb1.trans (hb12.mono (by omega));have bD:=B4.new w (.slice a ts.length cap) (.int .i64 ep) (.int .i64 nw) (.string ⟨jr.toArray⟩) 26;rw [hW1,hD] at bD;have bR:=B4.new W1 (.slice none 0 0) (.int .i64 0) (.int .i64 0) (.string ⟨#[]⟩) 26;rw [hW2,hs1] at bR
 have HD:Hid (∀ Z,Below W2.heap.size W2 Z→B4 Z D (.slice a ts.length cap) (.int .i64 ep) (.int .i64 nw) (.string ⟨jr.toArray⟩)∧B4 Z (D+1) (.slice none 0 0) (.int .i64 0) (.int .i64 0) (.string ⟨#[]⟩)∧zaF Z a ts.length cap ts∧Below D w Z):=fun Z hz =>
  ⟨(bD.below hb12).below hz,bR.below hz,(hin.below (by rw [hD];exact hb2)).below hz,hb2.trans (hz.mono (by omega))⟩
 have HS:Hid (za1 ts):=hsh
 obtain ⟨d0,d1,d2,d3⟩:W2.cell? ⟨D,0,none⟩=some (.slice a ts.length cap)∧W2.cell? ⟨D,1,none⟩=some (.int .i64 ep)∧W2.cell? ⟨D,2,none⟩=some (.int .i64 nw)∧W2.cell? ⟨D,3,none⟩=some (.string ⟨jr.toArray⟩):=by have h:=(HD.out W2 (Below.refl _ _)).1;exact ⟨h.c0,h.c1,h.c2,h.c3⟩
 obtain ⟨V,hV⟩:∃ V,W2.alloc (.cells #[.slice (some ⟨D+2+1,0,none⟩) 0 0,.int .i64 ep,.int .i64 nw,.string ⟨jr.toArray⟩] 26)=V:=⟨_,rfl⟩
 have bO:=B4.new W2 (.slice (some ⟨D+2+1,0,none⟩) 0 0) (.int .i64 ep) (.int .i64 nw) (.string ⟨jr.toArray⟩) 26;rw [hV,hs2] at bO;have hsV:V.heap.size=D+2+1:=by rw [←hV];simp [hs2]
 have hbV:Below W2.heap.size W2 V:=by rw [←hV];exact (Below.refl _ _).alloc (Nat.le_refl _) _
 have hbV2:Below V.heap.size V (V.alloc (.cells #[] 42)):=(Below.refl _ _).alloc (Nat.le_refl _) _;have HO0:Hid (B4 (V.alloc (.cells #[] 42)) (D+2) (.slice (some ⟨D+2+1,0,none⟩) 0 0) (.int .i64 ep) (.int .i64 nw) (.string ⟨jr.toArray⟩)):=bO.below hbV2
 have HF0:Hid (za2 (V.alloc (.cells #[] 42)) (D+3) (.slice (some ⟨D+2+1,0,none⟩) 0 0) []):=by have h:=World.ownsRow_lit (base:=V.heap.size) (e:=42) (size:=6) V #[] 0 (Nat.le_refl _) (by decide) rfl;rw [hsV] at h;exact ⟨h,fun x hx=>by cases hx⟩
 have HB0:Hid (Below W2.heap.size W2 (V.alloc (.cells #[] 42))):=hbV.trans (hbV2.mono hbV.size);clear hin hsh bD bR hb1 hb12 hb2 bO hsV hbV hbV2
 go_enter Tryz.func35,Tryz.ntmps35
 go_wp2
 go_loopw [4] (fun iv wx=>∃ (i:Nat) (xs:List TV) (ga:Option Addr) (gc:Nat),iv=.int .i64 (i:Int)∧i≤ts.length∧xs.length=i∧Hid (xs.map (·.1)=ts.take i)∧Hid (B4 wx (D+2) (.slice ga i gc) (.int .i64 ep) (.int .i64 nw) (.string ⟨jr.toArray⟩))∧Hid (za2 wx (D+3) (.slice ga i gc) xs)∧Hid (zai (xs.map tvT))∧Hid (Below W2.heap.size W2 wx)) (fun iv _=>ts.length-(intOf iv).toNat)
 case atStart=>exact ⟨0,[],some ⟨D+2+1,0,none⟩,0,rfl,Nat.zero_le _,rfl,rfl,HO0,HF0,zai.nil,HB0⟩
 case round =>
  obtain ⟨i,xs,ga,gc,rfl,hi,hxl,HM,HO,HF,HAP,HBr⟩:=hrel;clear HO0 HF0 HB0 d0 d1 d2 d3;have hsr:D+3≤wr.heap.size:=by have:=HO.out.lt;omega
  obtain ⟨bd,br,hok,hbD⟩:=HD.out wr HBr.out;have d0:=bd.c0;have o0:=HO.out.c0;by_cases hlt:(i:Int)<(ts.length:Int)
  ·
   obtain ⟨b,off,rfl,hbl,c0,⟨na,nc,c1,hn1,hnz⟩,c2,c3,c4,c5⟩:=hok.2.2 i (by omega);have hsi:=HS.out i
   have hmk:ts.take (i+1)=ts.take i++[ts.getD i ta0]:=by
    have hg:ts.getD i ta0=ts[i]'(by omega):=by simp [List.getD,show i<ts.length by omega]
    rw [hg,List.take_succ_eq_append_getElem]
   obtain ⟨f,hf⟩:∃ f,ts.getD i ta0=f:=⟨_,rfl⟩
   rw [hf] at c0 c1 c2 c3 c4 c5 hn1 hsi hmk;obtain ⟨nm,ns,st,wk,un,ke⟩:=f;simp only at c0 c1 c2 c3 c4 c5 hn1 hsi;have HMK:Hid (ts.take (i+1)=ts.take i++[(nm,ns,st,wk,un,ke)]):=hmk;obtain ⟨Y,hY⟩:∃ Y,wr.alloc (.cells #[.string ⟨nm.toArray⟩,.slice na ns.length nc,.int .i64 st,.int .i64 wk,.int .i64 un,.int .i64 ke] 42)=Y:=⟨_,rfl⟩
   have hbY:Below wr.heap.size wr Y:=by rw [←hY];exact (Below.refl _ _).alloc (Nat.le_refl _) _
   have hsY:Y.heap.size=wr.heap.size+1:=by rw [←hY];simp
   have bE:=B6.new wr (.string ⟨nm.toArray⟩) (.slice na ns.length nc) (.int .i64 st) (.int .i64 wk) (.int .i64 un) (.int .i64 ke) 42;rw [hY] at bE;obtain ⟨E,hE⟩:∃ E,wr.heap.size=E:=⟨_,rfl⟩
   have HC:Hid (_):=zmJ na nc ns Y (hn1.below hbY) hnz hsi.2;have HBE:Hid (B6 Y E (.string ⟨nm.toArray⟩) (.slice na ns.length nc) (.int .i64 st) (.int .i64 wk) (.int .i64 un) (.int .i64 ke)):=by rw [←hE];exact bE
   have HbY:Hid (Below wr.heap.size wr Y):=hbY;rw [hE] at hsY;have e1:=HBE.out.c1;have HE:Hid (wr.heap.size=E):=hE;clear hf hn1 hmk bE hbY bd br hbD hok;go_wp2_with fail
   refine Calls.mono HC.out ?_;rintro e w2 ⟨va,vc,rfl,hown,hb2⟩;have hb2r:Below wr.heap.size wr w2:=HbY.out.trans (hb2.mono HbY.out.size);have b2:=HBE.out.below hb2;have bU:=b2.s1 (.slice va ns.length vc);have q1:=b2.c1;have qf:=b2.fr 1;obtain ⟨U,hU⟩:∃ U,w2.setCell ⟨E,1,none⟩ (.slice va ns.length vc)=U:=⟨_,rfl⟩
   have hgU:w2.grownBy U (some E):=by rw [←hU];exact zae _ _ _ _
   rw [hU] at bU;have hrE:=HE.out;have hFU:za2 U (D+3) (.slice ga i gc) xs:=(HF.out.below hb2r).kept hgU (zjl HF.out.row (by omega)) (fun x hx=>zjl (HF.out.trees x hx) (by omega));have hnU:U.ownsRow (E+1) 2 1 (.slice va ns.length vc) ns.length (zaY ns):=by rw [←hsY];exact hown.kept hgU (za8 hown (by omega))
   have hBU:Below W2.heap.size W2 U:=(HBr.out.trans (hb2r.mono HBr.out.size)).grown hgU (Nat.le_trans HBr.out.size hb2r.size) (fun k e=>by injection e with e;have:=HBr.out.size;omega);have bO:=(HO.out.below hb2r).grown hgU (by simp;omega);obtain ⟨v',Z,hrun,hFZ,hgZ⟩:=zky hFU ((nm,ns,st,wk,un,ke),va,vc) (zaD hnU (by omega)) (by have:=hb2r.size;have:=hgU.size;omega) (by omega);simp only at hrun;have hT:tvT ((nm,ns,st,wk,un,ke),va,vc)=.slice va ns.length vc:=rfl;rw [hT] at hrun;obtain ⟨ga2,gc2,rfl⟩:=zoe hFZ
   have hoff:(Value.slice ga i gc).ownBlock≠some (D+2):=by
    rcases za8 (R:=D+2) HF.out.row (by omega) with h | h
    ·rw [h];simp
    ·exact h
   have bOZ:=bO.grown hgZ hoff;have bOF:=bOZ.s0 (.slice ga2 (xs++[((nm,ns,st,wk,un,ke),va,vc)]).length gc2);have z0:=bOZ.c0;have zf:=bOZ.fr 0;have hl1:(xs++[((nm,ns,st,wk,un,ke),va,vc)]).length=i+1:=by simp [hxl]
   rw [hl1] at hFZ bOF hrun;obtain ⟨Zf,hZf⟩:∃ Zf,Z.setCell ⟨D+2,0,none⟩ (.slice ga2 (i+1) gc2)=Zf:=⟨_,rfl⟩
   have hgF:Z.grownBy Zf (some (D+2)):=by rw [←hZf];exact zae _ _ _ _
   rw [hZf] at bOF;have HO2:Hid (B4 Zf (D+2) (.slice ga2 (i+1) gc2) (.int .i64 ep) (.int .i64 nw) (.string ⟨jr.toArray⟩)):=bOF;have HF2:Hid (za2 Zf (D+3) (.slice ga2 (i+1) gc2) (xs++[((nm,ns,st,wk,un,ke),va,vc)])):=hFZ.kept hgF (za8 hFZ.row (by omega)) (fun x hx=>za8 (hFZ.trees x hx) (by omega));have HM2:Hid ((xs++[((nm,ns,st,wk,un,ke),va,vc)]).map (·.1)=ts.take (i+1)):=by exact (by rw [List.map_append,HM.out,HMK.out];rfl:(xs++[((nm,ns,st,wk,un,ke),va,vc)]).map (·.1)=ts.take (i+1))
   have HAP2:Hid (zai ((xs++[((nm,ns,st,wk,un,ke),va,vc)]).map tvT)):=by rw [List.map_append];refine HAP.out.snoc (fun v hv=>?_);obtain ⟨x,hx,rfl⟩:=List.mem_map.1 hv;exact zhz (HF.out.trees x hx) hnU (by omega)
   have HB2:Hid (Below W2.heap.size W2 Zf):=by have h1:Below W2.heap.size W2 Z:=hBU.grown hgZ hBU.size (fun k e=>by have:=(HF.out.row.lt k e).1;omega);exact h1.grown hgF h1.size (fun k e=>by injection e with e;omega)
   have HL2:Hid ((xs++[((nm,ns,st,wk,un,ke),va,vc)]).length=i+1):=hl1;have u0:=bU.c0;have u1:=bU.c1;have u2:=bU.c2;have u3:=bU.c3;have u4:=bU.c4;have u5:=bU.c5;have x0:=bO.c0;have hEO:¬E=D+2:=by omega
   clear hown hb2 hb2r b2 bU hgU hFU hnU hBU bO hFZ hgZ hoff bOZ bOF hl1 hgF HC HBE HF HO HM HAP HBr HMK hT d0 o0
   go_wp2_with (at_builtin;refine za0 rfl (.tmp 26) (.tmp 28) 24 rfl _ _ _ rfl rfl hrun ?_;clear hrun)
   go_roundw
   case rel=>exact ⟨i+1,_,ga2,gc2,by go_num,by omega,HL2.out,HM2,HO2,HF2,HAP2,HB2⟩
   case measure=>simp [intOf];omega
  ·
   obtain rfl:i=ts.length:=by omega
   have HM2:Hid (xs.map (·.1)=ts):=by exact (by rw [HM.out,List.take_length]:xs.map (·.1)=ts)
   have o1:=HO.out.c1;have o2:=HO.out.c2;have o3:=HO.out.c3;have r0:=br.c0;have r1:=br.c1;have r2:=br.c2;have r3:=br.c3;have f0:=br.fr 0;have f1:=br.fr 1;have f2:=br.fr 2;have f3:=br.fr 3;have HBD:Hid (Below D w wr):=hbD;clear hbD hok bd br HM;go_wp2;obtain ⟨X,hX,y0,y1,y2,y3,hg⟩:=set4 (.slice ga ts.length gc) (.int .i64 ep) (.int .i64 nw) (.string ⟨jr.toArray⟩) r0 r1 r2 r3;rw [hX];refine bodyPost_ret (v:=.agg #[.slice ga ts.length gc,.int .i64 ep,.int .i64 nw,.string ⟨jr.toArray⟩]) (by simp [results,Tryz.results35,go_sem,y0,y1,y2,y3]) rfl ?_;have hk:=HF.out.kept hg (za8 HF.out.row (by omega)) (fun y hy=>za8 (HF.out.trees y hy) (by omega));exact ⟨ga,gc,rfl,xs,HM2.out,hk.base (by omega),HAP.out,HBD.out.grown hg (by omega) (fun k e=>by injection e with e;omega)⟩
def zbQ (w w':World) (v:Value) (d:Dk):Prop:=∃ va vc xs,v=.agg #[.slice va d.1.length vc,.int .i64 d.2.1,.int .i64 d.2.2.1,.string ⟨d.2.2.2.toArray⟩]∧xs.map (·.1)=d.1∧za2 w' w.heap.size (.slice va d.1.length vc) xs∧zai (xs.map tvT)∧Below w.heap.size w w'
theorem zbQ.zero {w w':World} (h:Below w.heap.size w w'):zbQ w w' (.agg #[.slice none 0 0,.int .i64 0,.int .i64 0,.string ⟨#[]⟩]) dk0:=⟨none,0,[],rfl,rfl,za2.nil _ _,zai.nil,h⟩
theorem zlC (B:Nat) (va v1 v3:Value) (nw n:Int) (w:World) (h:B4 w B va v1 (.int .i64 nw) v3) (h0:0≤nw) (h1:nw≤1000000) (hn0:-9223372036854775808≤n) (hn1:n≤9223372036854775807) :
 Calls Tryz.prog 48 #[.pointer (some ⟨B,0,none⟩),.int .i64 n] w fun e w'=>e=.returned (.bool (inB n 0 (1000000-nw)))∧w'=if inB n 0 (1000000-nw)=true then w.setCell ⟨B,2,none⟩ (.int .i64 (nw+n)) else w:=by
 have HI:Hid (_):=zca n 0 (1000000-nw) w;have k2:=h.c2;have kf:=h.fr 2;have HB:Hid (inB n 0 (1000000-nw)=true→0≤n∧n≤1000000-nw):=fun e=>by unfold inB at e;exact of_decide_eq_true e
 generalize inB n 0 (1000000-nw)=b at HI HB ⊢;clear h;rcases b with _ | _
 ·
  go_enter Tryz.func48,Tryz.ntmps48
  go_wp2_with (go_at_call 42;refine Calls.mono HI.out ?_;rintro e w1 ⟨rfl,rfl⟩)
  go_ret;exact ⟨rfl,rfl⟩
 ·
  obtain ⟨hb0,hb1⟩:=HB.out rfl
  go_enter Tryz.func48,Tryz.ntmps48
  go_wp2_with (go_at_call 42;refine Calls.mono HI.out ?_;rintro e w1 ⟨rfl,rfl⟩)
  go_ret;exact ⟨rfl,rfl⟩
theorem zmB (a:Option Addr) (len cap:Nat) (ts:List Ta) (ep nw:Int) (jr:List UInt8) (n:Int) (w:World) (hin:zaF w a len cap ts) (hsh:za1 ts) (hlen:len≤1048576) (hn0:-9223372036854775808≤n) (hn1:n≤9223372036854775807) :
 Calls Tryz.prog 20 #[.agg #[.slice a len cap,.int .i64 ep,.int .i64 nw,.string ⟨jr.toArray⟩],.int .i64 n] w
  fun e w'=>∃ v,e=.returned (.tuple #[v,.bool (zaO (ts,ep,nw,jr) n).2])∧zbQ w w' v (zaO (ts,ep,nw,jr) n).1:=by
 obtain rfl:ts.length=len:=hin.1;obtain ⟨D,hD⟩:∃ D,w.heap.size=D:=⟨_,rfl⟩
 obtain ⟨W1,hW1⟩:∃ W,w.alloc (.cells #[.slice a ts.length cap,.int .i64 ep,.int .i64 nw,.string ⟨jr.toArray⟩] 26)=W:=⟨_,rfl⟩
 obtain ⟨W2,hW2⟩:∃ W,W1.alloc (.cells #[.slice none 0 0,.int .i64 0,.int .i64 0,.string ⟨#[]⟩] 26)=W:=⟨_,rfl⟩
 have hs1:W1.heap.size=D+1:=by rw [←hW1,←hD];simp
 have hs2:W2.heap.size=D+2:=by rw [←hW2];simp [hs1]
 have hb1:Below D w W1:=by rw [←hW1,←hD];exact (Below.refl _ _).alloc (Nat.le_refl _) _
 have hb12:Below W1.heap.size W1 W2:=by rw [←hW2];exact (Below.refl _ _).alloc (Nat.le_refl _) _
 have hb2:Below D w W2:=hb1.trans (hb12.mono (by omega));have bD:=B4.new w (.slice a ts.length cap) (.int .i64 ep) (.int .i64 nw) (.string ⟨jr.toArray⟩) 26;rw [hW1,hD] at bD;have bR:=B4.new W1 (.slice none 0 0) (.int .i64 0) (.int .i64 0) (.string ⟨#[]⟩) 26;rw [hW2,hs1] at bR
 have HD:Hid (∀ Z,Below W2.heap.size W2 Z→B4 Z D (.slice a ts.length cap) (.int .i64 ep) (.int .i64 nw) (.string ⟨jr.toArray⟩)∧B4 Z (D+1) (.slice none 0 0) (.int .i64 0) (.int .i64 0) (.string ⟨#[]⟩)∧zaF Z a ts.length cap ts∧Below D w Z):=fun Z hz =>
  ⟨(bD.below hb12).below hz,bR.below hz,(hin.below (by rw [hD];exact hb2)).below hz,hb2.trans (hz.mono (by omega))⟩
 have HK:Hid (_):=zbW a ts.length cap ts ep nw jr W2 (hin.in.below (by rw [hD];exact hb2)) hsh hlen;have HCp:Hid (∀ Z,zaF Z a ts.length cap ts→_):=fun Z hz=>zgo a ts.length cap ts ep nw jr Z hz hsh hlen
 have HV0:Hid (zac (ts,ep,nw,jr)=false→zaO (ts,ep,nw,jr) n=(dk0,false)):=fun h=>by unfold zaO;rw [h];rfl
 have HV1:Hid (zac (ts,ep,nw,jr)=true→inB n 0 (1000000-nw)=false→zaO (ts,ep,nw,jr) n=((ts,ep,nw,jr),false)):=fun h h2=>by unfold zaO;rw [h,if_pos rfl];simp only;rw [h2];rfl
 have HV2:Hid (zac (ts,ep,nw,jr)=true→inB n 0 (1000000-nw)=true→zaO (ts,ep,nw,jr) n=((ts,ep,nw+n,jr),true)):=fun h h2=>by unfold zaO;rw [h,if_pos rfl];simp only;rw [h2];rfl
 have HP:Hid (zac (ts,ep,nw,jr)=true→0≤nw∧nw≤1000000):=fun h=>(zao.1 h).t
 obtain ⟨d0,d1,d2,d3⟩:W2.cell? ⟨D,0,none⟩=some (.slice a ts.length cap)∧W2.cell? ⟨D,1,none⟩=some (.int .i64 ep)∧W2.cell? ⟨D,2,none⟩=some (.int .i64 nw)∧W2.cell? ⟨D,3,none⟩=some (.string ⟨jr.toArray⟩):=by have h:=(HD.out W2 (Below.refl _ _)).1;exact ⟨h.c0,h.c1,h.c2,h.c3⟩
 generalize zaO (ts,ep,nw,jr) n=res at HV0 HV1 HV2 ⊢;generalize zac (ts,ep,nw,jr)=b1 at HK HV0 HV1 HV2 HP;clear hin hsh bD bR hb1 hb12 hb2;rcases b1 with _ | _
 ·
  have HR:Hid (res=(dk0,false)):=HV0.out rfl;clear HV0 HV1 HV2 HP HCp
  go_enter Tryz.func20,Tryz.ntmps20
  go_wp2_with fail
  refine Calls.mono HK.out ?_;rintro e w1 ⟨rfl,hb1⟩;obtain ⟨_,br,_,hbD⟩:=HD.out w1 hb1;have r0:=br.c0;have r1:=br.c1;have r2:=br.c2;have r3:=br.c3;have f0:=br.fr 0;have f1:=br.fr 1;have f2:=br.fr 2;have f3:=br.fr 3;have HBD:Hid (Below D w w1):=hbD;clear hbD br hb1 d0 d1 d2 d3;go_wp2;obtain ⟨X,hX,y0,y1,y2,y3,hg⟩:=set4 (.slice none 0 0) (.int .i64 0) (.int .i64 0) (.string ⟨#[]⟩) r0 r1 r2 r3;rw [hX];refine bodyPost_ret (v:=.tuple #[.agg #[.slice none 0 0,.int .i64 0,.int .i64 0,.string ⟨#[]⟩],.bool false]) (by simp [results,Tryz.results20,go_sem,y0,y1,y2,y3]) rfl ?_;rw [HR.out];exact ⟨_,rfl,zbQ.zero (by rw [hD];exact HBD.out.grown hg (by have:=HBD.out.size;omega) (fun k e=>by injection e with e;omega))⟩
 ·
  have HV1b:Hid (_):=HV1.out rfl;have HV2b:Hid (_):=HV2.out rfl;obtain ⟨hp0,hp1⟩:=HP.out rfl;clear HV0 HV1 HV2 HP
  go_enter Tryz.func20,Tryz.ntmps20
  go_wp2_with fail
  refine Calls.mono HK.out ?_;rintro e w1 ⟨rfl,hb1⟩;have HB1:Hid (Below W2.heap.size W2 w1):=hb1;clear d0 d1 d2 d3 hb1 HK;obtain ⟨bd,_,hok1,_⟩:=HD.out w1 HB1.out;have d0:=bd.c0;have d1:=bd.c1;have d2:=bd.c2;have d3:=bd.c3;have HC1:Hid (_):=HCp.out w1 hok1;clear bd hok1 HCp;go_wp2_with fail
  refine Calls.mono HC1.out ?_;rintro e w2 ⟨va,vc,xs,rfl,hx,ho,hap,hb2⟩;have hB2:=HB1.out.trans (hb2.mono HB1.out.size);obtain ⟨Q,hQ⟩:∃ Q,w2.heap.size=Q:=⟨_,rfl⟩
  obtain ⟨w3,hw3⟩:∃ W,w2.alloc (.cells #[.slice va ts.length vc,.int .i64 ep,.int .i64 nw,.string ⟨jr.toArray⟩] 26)=W:=⟨_,rfl⟩
  have bQ:=B4.new w2 (.slice va ts.length vc) (.int .i64 ep) (.int .i64 nw) (.string ⟨jr.toArray⟩) 26;have hb3:Below w2.heap.size w2 w3:=by rw [←hw3];exact (Below.refl _ _).alloc (Nat.le_refl _) _
  have hs3:w3.heap.size=Q+1:=by rw [←hw3,←hQ];simp
  rw [hw3,hQ] at bQ;have hB3:Below W2.heap.size W2 w3:=hB2.trans (hb3.mono hB2.size);have HT:Hid (_):=zlC Q _ _ _ nw n w3 bQ hp0 hp1 hn0 hn1;have hw1:D+2≤w1.heap.size:=by have:=HB1.out.size;omega
  have hQl:w1.heap.size≤Q:=by rw [←hQ];exact hb2.size
  have HO3:Hid (za2 w3 w1.heap.size (.slice va ts.length vc) xs∧xs.map (·.1)=ts∧zai (xs.map tvT)):=⟨ho.below hb3,hx,hap⟩
  have hO3:∀ k,(Value.slice va ts.length vc).ownBlock=some k∨(∃ x∈xs,(tvT x).ownBlock=some k)→k<Q:=by
   intro k hk;rw [←hQ];rcases hk with e | ⟨x,hx,e⟩
   ·exact (ho.row.lt k e).2
   ·exact ((ho.trees x hx).lt k e).2
  have HO3l:Hid (_):=hO3;have HBQ:Hid (B4 w3 Q (.slice va ts.length vc) (.int .i64 ep) (.int .i64 nw) (.string ⟨jr.toArray⟩)):=bQ;have HB3:Hid (Below W2.heap.size W2 w3):=hB3;clear d0 d1 d2 d3 hb2 ho hap hx hb3 bQ hB3 hB2 hO3 HC1;rcases hbb:inB n 0 (1000000-nw) with _ | _
  ·
   have HR:Hid (res=((ts,ep,nw,jr),false)):=HV1b.out hbb;rw [hbb,if_neg (by simp)] at HT;clear HV1b HV2b hbb;go_wp2_with fail
   refine Calls.mono HT.out ?_;rintro e w4 ⟨rfl,rfl⟩;obtain ⟨_,br,_,hbD⟩:=HD.out w4 HB3.out;have q0:=HBQ.out.c0;have q1:=HBQ.out.c1;have q2:=HBQ.out.c2;have q3:=HBQ.out.c3;have r0:=br.c0;have r1:=br.c1;have r2:=br.c2;have r3:=br.c3;have f0:=br.fr 0;have f1:=br.fr 1;have f2:=br.fr 2;have f3:=br.fr 3;have HBD:Hid (Below D w w4):=hbD;clear hbD br;go_wp2;obtain ⟨X,hX,y0,y1,y2,y3,hg⟩:=set4 (.slice va ts.length vc) (.int .i64 ep) (.int .i64 nw) (.string ⟨jr.toArray⟩) r0 r1 r2 r3;rw [hX];refine bodyPost_ret (v:=.tuple #[.agg #[.slice va ts.length vc,.int .i64 ep,.int .i64 nw,.string ⟨jr.toArray⟩],.bool false]) (by simp [results,Tryz.results20,go_sem,y0,y1,y2,y3]) rfl ?_;rw [HR.out];have hk:=HO3.out.1.kept hg (za8 HO3.out.1.row (by omega)) (fun y hy=>za8 (HO3.out.1.trees y hy) (by omega));exact ⟨_,rfl,va,vc,xs,rfl,HO3.out.2.1,hk.base (by omega),HO3.out.2.2,by rw [hD];exact HBD.out.grown hg (by have:=HBD.out.size;omega) (fun k e=>by injection e with e;omega)⟩
  ·
   have HR:Hid (res=((ts,ep,nw+n,jr),true)):=HV2b.out hbb;rw [hbb,if_pos rfl] at HT;clear HV1b HV2b hbb;go_wp2_with fail
   refine Calls.mono HT.out ?_;rintro e w4 ⟨rfl,hw4⟩;have bQ4:=HBQ.out.s2 (.int .i64 (nw+n));have hg4:w3.grownBy w4 (some Q):=by rw [hw4];exact zae _ _ _ _
   rw [←hw4] at bQ4;have HB4:Hid (Below W2.heap.size W2 w4):=HB3.out.grown hg4 HB3.out.size (fun k e=>by injection e with e;have:=HB1.out.size;omega)
   have HO4:Hid (za2 w4 w1.heap.size (.slice va ts.length vc) xs):=HO3.out.1.kept hg4 (by
    rcases h:(Value.slice va ts.length vc).ownBlock with _ | k
    ·exact Or.inl rfl
    ·exact Or.inr (fun e=>by injection e with e;have:=HO3l.out k (Or.inl h);omega)) (fun x hx=>by
    rcases h:(tvT x).ownBlock with _ | k
    ·exact Or.inl rfl
    ·exact Or.inr (fun e=>by injection e with e;have:=HO3l.out k (Or.inr ⟨x,hx,h⟩);omega))
   obtain ⟨_,br,_,hbD⟩:=HD.out w4 HB4.out;have q0:=bQ4.c0;have q1:=bQ4.c1;have q2:=bQ4.c2;have q3:=bQ4.c3;have r0:=br.c0;have r1:=br.c1;have r2:=br.c2;have r3:=br.c3;have f0:=br.fr 0;have f1:=br.fr 1;have f2:=br.fr 2;have f3:=br.fr 3;have HBD:Hid (Below D w w4):=hbD;clear hbD br hw4 bQ4 hg4;go_wp2;obtain ⟨X,hX,y0,y1,y2,y3,hg⟩:=set4 (.slice va ts.length vc) (.int .i64 ep) (.int .i64 (nw+n)) (.string ⟨jr.toArray⟩) r0 r1 r2 r3;rw [hX];refine bodyPost_ret (v:=.tuple #[.agg #[.slice va ts.length vc,.int .i64 ep,.int .i64 (nw+n),.string ⟨jr.toArray⟩],.bool true]) (by simp [results,Tryz.results20,go_sem,y0,y1,y2,y3]) rfl ?_;rw [HR.out];have hk:=HO4.out.kept hg (za8 HO4.out.row (by omega)) (fun y hy=>za8 (HO4.out.trees y hy) (by omega));exact ⟨_,rfl,va,vc,xs,rfl,HO3.out.2.1,hk.base (by omega),HO3.out.2.2,by rw [hD];exact HBD.out.grown hg (by have:=HBD.out.size;omega) (fun k e=>by injection e with e;omega)⟩
theorem specHash (s:ByteArray) (w:World) (hs:s.size≤maxLen) :
 Calls Tryz.prog 102 #[.string s] w fun e w'=>e=.returned (.int .i64 (zbZ s.data.toList))∧w'=w:=by
 unfold maxLen at hs
 go_enter Tryz.func102,Tryz.ntmps102
 go_wp2
 go_loop [3,4] (fun h i=>∃ k:Nat,k≤s.size∧i=.int .i64 k∧h=.int .i64 (zbZ (s.data.toList.take k))) (fun _ i=>s.size-(intOf i).toNat)
 case atStart=>exact ⟨0,Nat.zero_le _,rfl,rfl⟩
 case round =>
  obtain ⟨k,hk,rfl,rfl⟩:=hrel;have hd:=zgc (s.data.toList.take k);by_cases hlt:k<s.size
  ·
   have HS:Hid (zbZ (s.data.toList.take (k+1))=zbL (zbZ (s.data.toList.take k)) s[k]):=zhL s k hlt;go_wp2
   go_round
   case rel=>exact ⟨k+1,by omega,by go_num,by rw [HS.out,←stepW _ _ hd]⟩
   case measure=>simp [intOf];omega
  ·go_wp2;go_ret;exact ⟨zdI (by rw [List.take_of_length_le (by simp;omega)]),rfl⟩
theorem implWith (h:Int) (b:UInt8) (w:World) (hd:0≤h∧h<2147483647) :
 Calls Tryz.prog 112 #[.int .i64 h,.int .u8 (b.toNat:Int)] w fun e w'=>e=.returned (.int .i64 (zbL h b))∧w'=w:=by
 have HS:Hid (_=zbL h b):=stepW h b hd
 go_enter Tryz.func112,Tryz.ntmps112
 go_wp2;go_ret;exact ⟨zdI (by rw [←HS.out]),rfl⟩
theorem zgI (s:ByteArray) (w:World) (hs:s.size≤maxLen) :
 Calls Tryz.prog 111 #[.int .i64 17,.string s,.func (.func 112) #[] #[]] w fun e w'=>e=.returned (.int .i64 (zbZ s.data.toList))∧w'=w:=by
 unfold maxLen at hs
 go_enter Tryz.func111,Tryz.ntmps111
 go_wp2
 go_loop [7,12] (fun h i=>∃ k:Nat,k≤s.size∧i=.int .i64 k∧h=.int .i64 (zbZ (s.data.toList.take k))) (fun _ i=>s.size-(intOf i).toNat)
 case atStart=>exact ⟨0,Nat.zero_le _,rfl,rfl⟩
 case round =>
  obtain ⟨k,hk,rfl,rfl⟩:=hrel;have hd:=zgc (s.data.toList.take k);by_cases hlt:k<s.size
  ·
   have HS:Hid (zbZ (s.data.toList.take (k+1))=zbL (zbZ (s.data.toList.take k)) s[k]):=zhL s k hlt
   go_wp2_with (go_at_call 112;refine (implWith _ _ _ hd).mono ?_;rintro e w' ⟨rfl,rfl⟩)
   go_round
   case rel=>exact ⟨k+1,by omega,by go_num,by rw [HS.out]⟩
   case measure=>simp [intOf];omega
  ·go_wp2;go_ret;exact ⟨zdI (by rw [List.take_of_length_le (by simp;omega)]),rfl⟩
theorem implHash (s:ByteArray) (w:World) (hs:s.size≤maxLen) :
 Calls Tryz.prog 88 #[.string s] w fun e w'=>e=.returned (.int .i64 (zbZ s.data.toList))∧w'=w:=by
 go_enter Tryz.func88,Tryz.ntmps88
 go_wp2_with (go_at_call 111;refine (zgI _ _ hs).mono ?_;rintro e w' ⟨rfl,rfl⟩)
 go_ret;exact ⟨rfl,rfl⟩
theorem zoY (c:UInt8) (w:World):(callFunc 202 #[.string ⟨#[48,49,50,51,52,53,54,55,56,57,97,98,99,100,101,102]⟩,.int .u8 (c.toNat:Int)]).run Tryz.prog w=.ok (.value (.int .i64 (hv c))) w:=by
 rw [run_callFunc_extern Tryz.func202 (by kernel_rfl) (by kernel_rfl) (by kernel_rfl) (e:=Extern.BytealgIndexByte.indexByte) (by kernel_rfl),Lib.run_indexByteString,hv_idx]
 rfl
theorem zoM (c:UInt8) (w:World) :
 Calls Tryz.prog 191 #[.string ⟨#[48,49,50,51,52,53,54,55,56,57,97,98,99,100,101,102]⟩,.int .u8 (c.toNat:Int)] w fun e w'=>e=.returned (.int .i64 (hv c))∧w'=w:=by
 have hx:=zoY c
 go_enter Tryz.func191,Tryz.ntmps191
 go_wp2;go_ret;exact ⟨rfl,rfl⟩
theorem zkR (h:Int) (b:UInt8) (w:World) (hd:-1≤h∧h≤4294967295) :
 Calls Tryz.prog 175 #[.int .i64 h,.int .u8 (b.toNat:Int)] w fun e w'=>e=.returned (.int .i64 (zaH h b))∧w'=w:=by
 have hb:=zhl b;by_cases h1:h=-1
 ·
  subst h1;have HS:Hid (zaH (-1) b=-1):=zf7 b
  go_enter Tryz.func175,Tryz.ntmps175
  go_wp2_with (go_at_call 191;refine (zoM _ _).mono ?_;rintro e w' ⟨rfl,rfl⟩)
  go_ret;exact ⟨zdI (by rw [HS.out]),rfl⟩
 ·
  have hne:(h==-1)=false:=beq_eq_false_iff_ne.2 h1;by_cases h2:hv b<0
  ·
   have HS:Hid (zaH h b=-1):=by unfold zaH;exact if_pos (Or.inr h2)
   clear h1
   go_enter Tryz.func175,Tryz.ntmps175
   go_wp2_with (go_at_call 191;refine (zoM _ _).mono ?_;rintro e w' ⟨rfl,rfl⟩)
   go_ret;exact ⟨zdI (by rw [HS.out]),rfl⟩
  ·
   have HS:Hid (zaH h b=16*h+hv b):=by unfold zaH;exact if_neg (by omega)
   clear h1
   go_enter Tryz.func175,Tryz.ntmps175
   go_wp2_with (go_at_call 191;refine (zoM _ _).mono ?_;rintro e w' ⟨rfl,rfl⟩)
   go_ret;exact ⟨zdI (by rw [HS.out]),rfl⟩
theorem zej (s:ByteArray) (w:World) (hs:s.size=8) :
 Calls Tryz.prog 111 #[.int .i64 0,.string s,.func (.func 175) #[] #[]] w fun e w'=>e=.returned (.int .i64 (zb6 s.data.toList))∧w'=w:=by
 have HZ:Hid (s.size=8):=hs;have hs':s.size≤8:=by omega
 clear hs
 go_enter Tryz.func111,Tryz.ntmps111
 go_wp2
 go_loop [7,12] (fun h i=>∃ k:Nat,k≤s.size∧i=.int .i64 k∧h=.int .i64 (zb6 (s.data.toList.take k))) (fun _ i=>s.size-(intOf i).toNat)
 case atStart=>exact ⟨0,Nat.zero_le _,rfl,rfl⟩
 case round =>
  obtain ⟨k,hk,rfl,rfl⟩:=hrel;have hd:=zgd (s.data.toList.take k) (by have:=List.length_take_le k s.data.toList;omega);by_cases hlt:k<s.size
  ·
   have HS:Hid (zb6 (s.data.toList.take (k+1))=zaH (zb6 (s.data.toList.take k)) s[k]):=zhN s k hlt
   go_wp2_with (go_at_call 175;refine (zkR _ _ _ hd).mono ?_;rintro e w' ⟨rfl,rfl⟩)
   go_round
   case rel=>exact ⟨k+1,by omega,by go_num,by rw [HS.out]⟩
   case measure=>simp [intOf];omega
  ·go_wp2;go_ret;exact ⟨zdI (by rw [List.take_of_length_le (by simp;omega)]),rfl⟩
theorem zl7 (s:ByteArray) (w:World) :
 Calls Tryz.prog 145 #[.string s] w fun e w'=>e=.returned (.tuple #[.int .i64 (zbg s.data.toList),.bool (zc4 s.data.toList)])∧w'=w:=by
 have hsz:s.data.toList.length=s.size:=by simp
 by_cases h8:s.size=8
 ·
  have hb8:((s.size:Int) !=8)=false:=by rw [h8];rfl
  by_cases h1:zb6 s.data.toList=-1
  ·
   have hn:=ziD s.data.toList (Or.inr h1);have HB:Hid (zc4 s.data.toList=false∧zbg s.data.toList=0):=hn;have hq:(zb6 s.data.toList==-1)=true:=beq_iff_eq.2 h1;have H8:Hid (s.size=8):=h8;clear hn hsz h8 h1
   go_enter Tryz.func145,Tryz.ntmps145
   go_wp2_with (go_at_call 111;refine (zej _ _ H8.out).mono ?_;rintro e w' ⟨rfl,rfl⟩)
   go_ret2
   exact ⟨zhx HB.out.2.symm HB.out.1.symm,rfl⟩
  ·
   have HB:Hid (zc4 s.data.toList=true∧zbg s.data.toList=zb6 s.data.toList):=ziC s.data.toList (by omega) h1;have hq:(zb6 s.data.toList==-1)=false:=beq_eq_false_iff_ne.2 h1;have H8:Hid (s.size=8):=h8;clear hsz h8 h1
   go_enter Tryz.func145,Tryz.ntmps145
   go_wp2_with (go_at_call 111;refine (zej _ _ H8.out).mono ?_;rintro e w' ⟨rfl,rfl⟩)
   go_ret2
   exact ⟨zhx HB.out.2.symm HB.out.1.symm,rfl⟩
 ·
  have hb8:((s.size:Int) !=8)=true:=by rw [bne_iff_ne];omega
  have HB:Hid (zc4 s.data.toList=false∧zbg s.data.toList=0):=ziD s.data.toList (Or.inl (by omega));clear hsz h8
  go_enter Tryz.func145,Tryz.ntmps145
  go_wp2
  go_ret2
  exact ⟨zhx HB.out.2.symm HB.out.1.symm,rfl⟩
theorem zkr (s:ByteArray) (w:World) :
 Calls Tryz.prog 154 #[.string s] w fun e w'=>e=.returned (.tuple #[.int .i64 (zbg s.data.toList),.bool (zc4 s.data.toList)])∧w'=w:=by
 have hsz:s.data.toList.length=s.size:=by simp
 by_cases h8:s.size=8
 ·
  have hb8:((s.size:Int) !=8)=false:=by rw [h8];rfl
  have H8:Hid (s.size=8):=h8;have HZ:Hid (s.data.toList.length=s.size):=hsz;clear hsz h8
  go_enter Tryz.func154,Tryz.ntmps154
  go_wp2
  go_loop [4,5] (fun n i=>∃ k:Nat,k≤8∧i=.int .i64 k∧n=.int .i64 (zb6 (s.data.toList.take k))∧0≤zb6 (s.data.toList.take k)) (fun _ i=>8-(intOf i).toNat)
  case atStart=>exact ⟨0,Nat.zero_le _,rfl,rfl,by simp [zb6]⟩
  case round =>
   obtain ⟨k,hk,rfl,rfl,hpos⟩:=hrel;have hd:=zgd (s.data.toList.take k) (by have:=List.length_take_le k s.data.toList;omega);by_cases hlt:k<8
   ·
    have hlt':k<s.size:=by have:=H8.out;omega
    have HS:Hid (zb6 (s.data.toList.take (k+1))=zaH (zb6 (s.data.toList.take k)) s[k]):=zhN s k hlt';have HL:Hid (zb6 (s.data.toList.take (k+1))≤4294967295):=(zgd (s.data.toList.take (k+1)) (by have:=List.length_take_le (k+1) s.data.toList;omega)).2;rcases (show (48≤s[k].toNat∧s[k].toNat≤57)∨(97≤s[k].toNat∧s[k].toNat≤102)∨s[k].toNat<48∨(57<s[k].toNat∧s[k].toNat<97)∨102<s[k].toNat from by omega) with ⟨c1,c2⟩ | ⟨c1,c2⟩ | hc
    ·
     have HV:Hid (zaH (zb6 (s.data.toList.take k)) s[k]=16*zb6 (s.data.toList.take k)+((s[k].toNat:Int)-48)):=zle _ _ hpos c1 c2;go_wp2
     go_round
     case rel=>exact ⟨k+1,by omega,by go_num,by rw [HS.out,HV.out],by rw [HS.out,HV.out];omega⟩
     case measure=>simp [intOf];omega
    ·
     have HV:Hid (zaH (zb6 (s.data.toList.take k)) s[k]=16*zb6 (s.data.toList.take k)+((s[k].toNat:Int)-87)):=zld _ _ hpos c1 c2;go_wp2
     go_round
     case rel=>exact ⟨k+1,by omega,by go_num,by rw [HS.out,HV.out];go_num,by rw [HS.out,HV.out];omega⟩
     case measure=>simp [intOf];omega
    ·
     have HV:Hid (zaH (zb6 (s.data.toList.take k)) s[k]=-1):=zjN _ _ hc;have HB:Hid (zc4 s.data.toList=false∧zbg s.data.toList=0):=ziD s.data.toList (Or.inr (zli s (k+1) (by rw [HS.out,HV.out])));rcases hc with hc | ⟨hc,hc'⟩ | hc
     all_goals
      go_wp2
      go_ret2
      exact ⟨zhx HB.out.2.symm HB.out.1.symm,rfl⟩
   ·
    have e:s.data.toList.take k=s.data.toList:=List.take_of_length_le (by have:=H8.out;have:=HZ.out;omega);rw [e] at hpos hd ⊢;have HB:Hid (zc4 s.data.toList=true∧zbg s.data.toList=zb6 s.data.toList):=ziC s.data.toList (by have:=H8.out;have:=HZ.out;omega) (by omega);clear e;go_wp2
    go_ret2
    exact ⟨zhx HB.out.2.symm HB.out.1.symm,rfl⟩
 ·
  have hb8:((s.size:Int) !=8)=true:=by rw [bne_iff_ne];omega
  have HB:Hid (zc4 s.data.toList=false∧zbg s.data.toList=0):=ziD s.data.toList (Or.inl (by omega));clear hsz h8
  go_enter Tryz.func154,Tryz.ntmps154
  go_wp2
  go_ret2
  exact ⟨zhx HB.out.2.symm HB.out.1.symm,rfl⟩
theorem zjK (l:List UInt8) (w:World) (hl:l.length≤1048576) :
 Calls Tryz.prog 88 #[.string ⟨l.toArray⟩] w fun e w'=>e=.returned (.int .i64 (zbZ l))∧w'=w :=
 implHash ⟨l.toArray⟩ w (by unfold maxLen;exact Nat.le_trans hl (by decide))
theorem zj9 (l:List UInt8) (w:World) (hl:l.length≤1048576) :
 Calls Tryz.prog 102 #[.string ⟨l.toArray⟩] w fun e w'=>e=.returned (.int .i64 (zbZ l))∧w'=w :=
 specHash ⟨l.toArray⟩ w (by unfold maxLen;exact Nat.le_trans hl (by decide))
theorem zhJ (n:Int) (s:List UInt8) (w:World) (h:hexS n=s) :
 Calls Tryz.prog 87 #[.int .i64 n] w fun e w'=>e=.returned (.string ⟨s.toArray⟩)∧Below w.heap.size w w':=by
 subst h;exact zoI n w
theorem zfQ (t:List UInt8) (x:Int) (b:Bool) (w:World) (hx:zbg t=x) (hb:zc4 t=b) :
 Calls Tryz.prog 145 #[.string ⟨t.toArray⟩] w fun e w'=>e=.returned (.tuple #[.int .i64 x,.bool b])∧w'=w:=by
 subst hx hb;exact zl7 ⟨t.toArray⟩ w
theorem zfI (t:List UInt8) (x:Int) (b:Bool) (w:World) (hx:zbg t=x) (hb:zc4 t=b) :
 Calls Tryz.prog 154 #[.string ⟨t.toArray⟩] w fun e w'=>e=.returned (.tuple #[.int .i64 x,.bool b])∧w'=w:=by
 subst hx hb;exact zkr ⟨t.toArray⟩ w
theorem zfH (l:List UInt8) (w:World) (hl:l.length≤1048576) :
 Calls Tryz.prog 78 #[.string ⟨l.toArray⟩] w fun e w'=>e=.returned (.string ⟨(zbH l).toArray⟩)∧Below w.heap.size w w':=by
 have hd:=zgc l
 go_enter Tryz.func78,Tryz.ntmps78
 go_wp2_with fail
 refine (zj8 _ _ (by omega) (by omega)).mono ?_;rintro e w1 ⟨rfl,hb1⟩;go_wp2_with fail
 refine (zj9 l _ hl).mono ?_;rintro e w2 ⟨rfl,rfl⟩;go_wp2_with fail
 refine (zj8 _ _ (by omega) (by omega)).mono ?_;rintro e w3 ⟨rfl,hb3⟩;have h8:∀ n,(hexL n).length=8:=fun _=>rfl
 have hcat:=zc7;go_wp2;go_ret;exact ⟨rfl,hb1.trans (hb3.mono hb1.size)⟩
theorem znQ (l:List UInt8) (w:World) (hl:l.length≤1048576) :
 Calls Tryz.prog 129 #[.string ⟨l.toArray⟩] w fun e w'=>e=.returned (.tuple #[.string ⟨(zax l).toArray⟩,.int .i64 (zcn l),.bool (zb1 l)])∧w'=w:=by
 have hext:=zd1;by_cases h16:(l.length:Int)<16
 ·
  have HF:Hid (zax l=[]∧zcn l=0∧zb1 l=false):=zco l (by omega)
  go_enter Tryz.func129,Tryz.ntmps129
  go_wp2
  go_ret3
  exact ⟨zem HF.out.1.symm HF.out.2.1.symm HF.out.2.2.symm,rfl⟩
 ·
  obtain ⟨k,hk⟩:∃ k:Nat,zbg (l.take 8)=(k:Int):=Int.eq_ofNat_of_zero_le (ze8 (l.take 8)).1
  obtain ⟨h,hh⟩:∃ h:Int,zbg ((l.drop 8).take 8)=h:=⟨_,rfl⟩
  obtain ⟨one,hone⟩:∃ b:Bool,zc4 (l.take 8)=b:=⟨_,rfl⟩
  obtain ⟨two,htwo⟩:∃ b:Bool,zc4 ((l.drop 8).take 8)=b:=⟨_,rfl⟩
  have hkb:(k:Int)≤4294967295:=by rw [←hk];exact (ze8 (l.take 8)).2
  have HK:Hid (zbg (l.take 8)=(k:Int)):=hk;have HH:Hid (zbg ((l.drop 8).take 8)=h):=hh;have H1:Hid (zc4 (l.take 8)=one):=hone;have H2:Hid (zc4 ((l.drop 8).take 8)=two):=htwo;clear hk hh hone htwo
  go_enter Tryz.func129,Tryz.ntmps129
  go_wp2_with fail
  refine (zfI (l.take 8) k one _ HK.out H1.out).mono ?_;rintro e w1 ⟨rfl,rfl⟩;go_wp2_with fail
  refine (zfI ((l.drop 8).take 8) h two _ HH.out H2.out).mono ?_;rintro e w2 ⟨rfl,rfl⟩;by_cases hall:one=true∧two=true∧(k:Int)≤20000∧16+(k:Int)≤(l.length:Int)
  ·
   obtain ⟨rfl,rfl,hk2,hk3⟩:=hall;have hkk:(16+(k:Int)).toNat-16=k:=by omega
   have hk4:(16:Int)≤16+(k:Int):=by omega
   have hk5:(0:Int)≤16+(k:Int):=by omega
   go_wp2_with fail
   refine (zj9 ((l.drop 16).take k) _ (by have:=List.length_take_le k (l.drop 16);omega)).mono ?_;rintro e w3 ⟨rfl,rfl⟩;by_cases hq:zbZ ((l.drop 16).take k)=h
   ·
    have HF:Hid (zax l=(l.drop 16).take k∧zcn l=16+(k:Int)∧zb1 l=true):=by have:=zfA l (by rw [HK.out,HH.out,H1.out,H2.out];exact ⟨by omega,rfl,rfl,hk2,hk3,by simpa using hq⟩);rw [HK.out,Int.toNat_natCast] at this;exact this
    have hqb:(zbZ ((l.drop 16).take k) !=h)=false:=by rw [hq];simp
    clear hq;go_wp2
    go_ret3
    exact ⟨zem HF.out.1.symm HF.out.2.1.symm HF.out.2.2.symm,rfl⟩
   ·
    have HF:Hid (zax l=[]∧zcn l=0∧zb1 l=false):=zco l (by
     rw [HK.out,HH.out,H1.out,H2.out];rintro ⟨_,_,_,_,_,a⟩;exact hq (by simpa using a))
    have hqb:(zbZ ((l.drop 16).take k) !=h)=true:=bne_iff_ne.2 hq;clear hq;go_wp2
    go_ret3
    exact ⟨zem HF.out.1.symm HF.out.2.1.symm HF.out.2.2.symm,rfl⟩
  ·
   have HF:Hid (zax l=[]∧zcn l=0∧zb1 l=false):=zco l (by
    rw [HK.out,HH.out,H1.out,H2.out];rintro ⟨_,a,b,c,d,_⟩;exact hall ⟨a,b,c,d⟩)
   rcases one with _ | _
   ·
    go_wp2
    go_ret3
    exact ⟨zem HF.out.1.symm HF.out.2.1.symm HF.out.2.2.symm,rfl⟩
   ·
    rcases two with _ | _
    ·
     go_wp2
     go_ret3
     exact ⟨zem HF.out.1.symm HF.out.2.1.symm HF.out.2.2.symm,rfl⟩
    ·
     by_cases hk2:20000<(k:Int)
     ·
      go_wp2
      go_ret3
      exact ⟨zem HF.out.1.symm HF.out.2.1.symm HF.out.2.2.symm,rfl⟩
     ·
      have hk3:(l.length:Int)<16+(k:Int):=by
       by_cases h1:(l.length:Int)<16+(k:Int)
       ·exact h1
       ·exact absurd ⟨rfl,rfl,by omega,by omega⟩ hall
      clear hall;go_wp2
      go_ret3
      exact ⟨zem HF.out.1.symm HF.out.2.1.symm HF.out.2.2.symm,rfl⟩
end Go.Proofs.YtponeoijfaepnaaGreatDoor
