/-
  Parts of one proof, one behind the other: NewJ, RebI2, RetT, RetJ, RebI3, RebI4.
-/
import Derived.Test.YtdbljnddkbpanaaGreatDoorP45
import Derived.Test.YtdbljnddkbpanaaGreatDoorP2
import Derived.Test.YtdbljnddkbpanaaGreatDoorP35
import Derived.Test.YtdbljnddkbpanaaGreatDoorP20
import Derived.Test.YtdbljnddkbpanaaGreatDoorP34
namespace Go.Proofs.YtdbljnddkbpanaaGreatDoor
open Go.RowKit
theorem zhk {w w':World} (h:Below w.heap.size w w') (row:Option Nat):w.grownBy w' row:=⟨h.os,h.tape,h.output,h.size,fun k hk _=>h.block k hk⟩
set_option maxHeartbeats 8000000 in
set_option maxRecDepth 100000 in
theorem zkg (B base:Nat) (v0:Value) (ep nw:Int) (jr:List UInt8) (w:World) (hb4:B4 w B v0 (.int .i64 ep) (.int .i64 nw) (.string ⟨jr.toArray⟩)) (hbase:base≤w.heap.size) (hbB:base≤B)
 (h0:0≤ep) (h1:ep≤1000000) (hj:jr.length≤60000) (ht:∀ Z,Below base w Z→zcB Z) :
 Calls Tryz.prog 23 #[.pointer (some ⟨B,0,none⟩)] w fun e w'=>e=.returned (.tuple #[])∧B4 w' B v0 (.int .i64 (ep+1)) (.int .i64 nw) (.string ⟨(jr++zaB (ep+1)).toArray⟩)∧w.grownBy w' (some B):=by
 have HTx:Hid (∀ Z,Below base w Z→_):=fun Z (hz:Below base w Z)=>zcI (ep+1) Z (ht Z hz) (by omega) (by omega)
 have HFm:Hid (∀ Z,_):=fun Z=>zi9 (zaX (ep+1)) Z (by have:=zcL (n:=ep+1) (by omega) (by omega);omega)
 have hlr:zdJ (zaX (ep+1))=zaB (ep+1):=rfl
 rw [hlr] at HFm
 have hll:=zea (n:=ep+1) (by omega) (by omega)
 generalize zaB (ep+1)=ln at HFm hll ⊢
 generalize zaX (ep+1)=dt at HTx HFm
 obtain ⟨V,hV⟩:∃ V,w.setCell ⟨B,1,none⟩ (.int .i64 (ep+1))=V:=⟨_,rfl⟩
 have bV:=hb4.s1 (.int .i64 (ep+1))
 have hgV:w.grownBy V (some B):=by rw [←hV];exact zam _ _ _ _
 rw [hV] at bV
 have HGV:Hid (w.grownBy V (some B)):=hgV
 have HBV:Hid (Below base w V):=(Below.refl base w).grown hgV hbase (fun k e=>by injection e with e;omega)
 have HBVs:Hid (base≤V.heap.size):=Nat.le_trans hbase hgV.size
 have HBQ:Hid (B4 V B v0 (.int .i64 (ep+1)) (.int .i64 nw) (.string ⟨jr.toArray⟩)):=bV
 have hwi:IntKind.i64.wrap (ep+1)=ep+1:=by rw [IntKind.wrap_i64];omega
 have b1:=hb4.c1
 have bf:=hb4.fr 1
 have p1:=bV.c1
 have p3:=bV.c3
 have pf3:=bV.fr 3
 clear hlr ht hb4 bV hgV
 go_enter Tryz.func23,Tryz.ntmps23
 go_wp2
 have HVd:Hid (Below V.heap.size V V.drew):=⟨rfl,rfl,rfl,Nat.le_refl _,fun _ _=>rfl⟩
 refine Till.region (S:=(fun Z=>Z.cell? ⟨B,3,none⟩=some (.string ⟨jr.toArray⟩)∧Z.cell? ⟨B,1,none⟩=some (.int .i64 (ep+1)))) (E:=[13]) (by kernel_rfl) ?_ (fun hHeld hSh=>?_)
 ·
  exact ⟨p3,p1⟩
 refine tkO [(0,9),(1,10),(2,11),(3,12),(4,13),(5,14),(6,15),(7,16)] ?_
 repeat (refine tlY ?_ rfl (by rfl) ?_ (fun hSh2=>?_);rotate_left;(focus (intro wq hSw;(try dsimp only at hSw);first | (go_simp;done) | (go_simp;with_reducible rfl)));clear hSh;rename zaO _ _ _=>hSh;simp only [zP])
 refine tkZ ?_
 refine Till.one (i:=8) (by kernel_rfl) rfl hSh (fun K hK=>?_)
 clear hSh
 go_simp
 (go_at_call 49;refine Calls.mono (HTx.out _ (HBV.out.trans (HVd.out.mono HBVs.out))) ?_;rintro e w8 ⟨rfl,hb8⟩;have HB8:Hid (Below V.heap.size V w8):=HVd.out.trans (hb8.mono HVd.out.size);clear hb8 p1 p3 pf3;have p1:=(HBQ.out.below HB8.out).c1;have p3:=(HBQ.out.below HB8.out).c3;have pf3:=(HBQ.out.below HB8.out).fr 3)
 refine hK.out _ _ ?_ (fun hHeld hSh=>?_)
 ·
  exact ⟨p3,p1⟩
 clear hK K
 refine Till.one (i:=9) (by kernel_rfl) rfl hSh (fun K hK=>?_)
 clear hSh
 go_simp
 (go_at_call 55;refine Calls.mono (HFm.out _) ?_;rintro e w9 ⟨rfl,hb9⟩;have HB9:Hid (Below V.heap.size V w9):=HB8.out.trans (hb9.mono HB8.out.size);clear hb9 p1 p3 pf3;have p1:=(HBQ.out.below HB9.out).c1;have p3:=(HBQ.out.below HB9.out).c3;have pf3:=(HBQ.out.below HB9.out).fr 3)
 refine hK.out _ _ ?_ (fun hHeld hSh=>?_)
 ·
  exact ⟨p3,p1⟩
 clear hK K
 have hcat:=zbU
 refine tkO [(10,19)] ?_
 repeat (refine tlY ?_ rfl (by rfl) ?_ (fun hSh2=>?_);rotate_left;(focus (intro wq hSw;(try dsimp only at hSw);first | (go_simp;done) | (go_simp;with_reducible rfl) | (go_simp;rw [if_neg (by omega)])));clear hSh;rename zaO _ _ _=>hSh;simp only [zP])
 refine tkZ ?_
 refine tkO [(11,20),(12,21)] ?_
 repeat (refine tlY ?_ rfl (by rfl) ?_ (fun hSh2=>?_);rotate_left;(focus (intro wq hSw;(try dsimp only at hSw);first | (go_simp;done) | (go_simp;with_reducible rfl)));clear hSh;rename zaO _ _ _=>hSh;simp only [zP])
 refine tkZ ?_
 refine Till.last (i:=13) (by kernel_rfl) rfl (by decide) (fun K hK=>?_)
 go_simp
 refine hK.out _ _ ?_
 clear hK K
 refine Till.done (by kernel_rfl) ?_ _
 go_wp2
 first | go_end0 | refine bodyPost_ret (results_none rfl _ _ _) rfl ?_
 exact ⟨rfl,(HBQ.out.below HB9.out).s3 _,(HGV.out.trans (zhk HB9.out _)).trans (zam _ _ _ _)⟩
set_option maxHeartbeats 2000000 in
set_option maxRecDepth 100000 in
theorem zhG (B base:Nat) (v0:Value) (ep nw:Int) (jr:List UInt8) (w:World) (hb4:B4 w B v0 (.int .i64 ep) (.int .i64 nw) (.string ⟨jr.toArray⟩)) (hbase:base≤w.heap.size) (hbB:base≤B)
 (h0:0≤ep) (h1:ep≤1000000) (hj:jr.length≤60000) (ht:∀ Z,Below base w Z→zcB Z) :
 Calls Tryz.prog 22 #[.pointer (some ⟨B,0,none⟩),.string ⟨(zaX (ep+1)).toArray⟩] w fun e w'=>e=.returned (.bool true)∧B4 w' B v0 (.int .i64 (ep+1)) (.int .i64 nw) (.string ⟨(jr++zaB (ep+1)).toArray⟩)∧w.grownBy w' (some B):=by
 have HS1:Hid (_):=zcI (ep+1) w (ht w (Below.refl _ _)) (by omega) (by omega)
 have HS2:Hid (∀ Z,Below w.heap.size w Z→_):=fun Z hz=>zkg B base v0 ep nw jr Z (hb4.below hz) (Nat.le_trans hbase hz.size) hbB h0 h1 hj (fun X hX=>ht X ((hz.mono hbase).trans hX))
 have hwi:IntKind.i64.wrap (ep+1)=ep+1:=by rw [IntKind.wrap_i64];omega
 have b1:=hb4.c1
 generalize zaX (ep+1)=t at HS1 ⊢
 have hself:(t==t)=true:=by simp
 clear ht hb4
 go_enter Tryz.func22,Tryz.ntmps22
 go_wp2_with fail
 refine Calls.mono HS1.out ?_
 rintro e w1 ⟨rfl,hb1⟩
 have HB1:Hid (Below w.heap.size w w1):=hb1
 have HC:Hid (_):=HS2.out w1 hb1
 clear hb1 b1 HS1 HS2
 go_wp2_with fail
 refine Calls.mono HC.out ?_
 rintro e w2 ⟨rfl,b4,hg⟩
 have HG:Hid (B4 w2 B v0 (.int .i64 (ep+1)) (.int .i64 nw) (.string ⟨(jr++zaB (ep+1)).toArray⟩)∧w.grownBy w2 (some B)):=⟨b4,(zhk HB1.out _).trans hg⟩
 clear b4 hg HC
 go_wp2
 go_ret
 exact ⟨rfl,HG.out.1,HG.out.2⟩

set_option maxHeartbeats 8000000 in
set_option maxRecDepth 100000 in
theorem zhE (B base:Nat) (va:Option Addr) (vc:Nat) (xs:List TV) (ts:List Ta) (ep nw:Int) (jr:List UInt8) (i:Nat) (key:Int) (w:World) (hb4:B4 w B (.slice va ts.length vc) (.int .i64 ep) (.int .i64 nw) (.string ⟨jr.toArray⟩)) (ho:za9 w base (.slice va ts.length vc) xs) (hx:xs.map (·.1)=ts) (hap:zao (xs.map tvT)) (hne:∀ k,zai (.slice va ts.length vc) xs k→k≠B) (hbase:base≤w.heap.size) (hbB:base≤B)
 (hi:i<ts.length) (hn:ts.length≤1048576) (hj:jr.length≤60000) (ht:∀ Z,Below base w Z→zcB Z) (hy0:-9223372036854775808≤key) (hy1:key≤9223372036854775807) :
 Calls Tryz.prog 54 #[.pointer (some ⟨B,0,none⟩),.int .i64 (i:Int),.int .i64 key] w fun e w'=>e=.returned (.tuple #[])∧∃ xs',xs'.map (·.1)=ts.set i (zbR (ts.getD i ta0) key)∧za9 w' base (.slice va ts.length vc) xs'∧zao (xs'.map tvT)∧B4 w' B (.slice va ts.length vc) (.int .i64 ep) (.int .i64 nw) (.string ⟨(jr++zce (i:Int) key).toArray⟩)∧zaS w w' (fun k=>(Value.slice va ts.length vc).ownBlock=some k∨k=B)∧(∀ k,zai (.slice va ts.length vc) xs' k→zai (.slice va ts.length vc) xs k):=by
 obtain ⟨g,cp,he⟩:=zaw ho.row (by rw [←hx,List.length_map] at hi;omega)
 injection he with e1 e2 e3
 subst e1 e3
 have hxl:xs.length=ts.length:=e2.symm
 have HTx:Hid (∀ Z,Below base w Z→_):=fun Z (hz:Below base w Z)=>zfU (i:Int) key Z (ht Z hz) (by omega) (by omega) hy0 hy1
 have HFm:Hid (∀ Z,_):=fun Z=>zi9 (zcA (i:Int) key) Z (by have:=zcY (k:=(i:Int)) (by omega) (by omega) hy0 hy1;omega)
 have hlr:zdJ (zcA (i:Int) key)=zce (i:Int) key:=rfl
 rw [hlr] at HFm
 have hll:=zk6 (k:=(i:Int)) (by omega) (by omega) hy0 hy1
 generalize zce (i:Int) key=ln at HFm hll ⊢
 generalize zcA (i:Int) key=dt at HTx HFm
 have HO:Hid (∀ Z,Below w.heap.size w Z→za9 Z base (.slice (some ⟨g,0,none⟩) ts.length vc) xs):=fun Z hz=>ho.below hz
 have HBx:Hid (∀ Z,Below w.heap.size w Z→B4 Z B (.slice (some ⟨g,0,none⟩) ts.length vc) (.int .i64 ep) (.int .i64 nw) (.string ⟨jr.toArray⟩)):=fun Z hz=>hb4.below hz
 have HX:Hid (xs.map (·.1)=ts∧zao (xs.map tvT)∧xs.length=ts.length):=⟨hx,hap,hxl⟩
 have HgB:Hid (g≠B∧base≤g∧base≤w.heap.size∧base≤B):=⟨hne g (Or.inl rfl),(ho.row.lt g rfl).1,hbase,hbB⟩
 have HNe:Hid (∀ k,zai (.slice (some ⟨g,0,none⟩) ts.length vc) xs k→k≠B):=hne
 have HX1:Hid (_):=zfE hx (i:=i) (by omega)
 have hix:i<xs.length:=by omega
 have hgx:xs.getD i tv0=xs[i]:=by simp [List.getD,hix]
 have HT:Hid (_):=zfl xs i hix
 rw [hgx] at HT
 obtain ⟨tv,htv⟩:∃ tv,xs[i]=tv:=⟨_,rfl⟩
 rw [htv] at HT HX1
 have HTV:Hid (∃ h:i<xs.length,xs[i]=tv):=⟨hix,htv⟩
 obtain ⟨⟨nm,ns,st,wk,un,ke⟩,na,nc⟩:=tv
 simp only [tvT] at HT
 simp only at HX1
 have HXi:Hid ((nm,ns,st,wk,un,ke)=ts.getD i ta0):=HX1.out
 have HRow:Hid (∀ Z,Below w.heap.size w Z→Z.ownsRow base 40 6 (.slice (some ⟨g,0,none⟩) ts.length vc) ts.length (tksV xs)):=fun Z hz=>by
  have h:=(HO.out Z hz).row
  rw [HX.out.2.2] at h
  exact h
 have HCe:Hid (∀ Z,Below w.heap.size w Z→Z.cell? ⟨g,i*6,none⟩=some (.string ⟨nm.toArray⟩)∧Z.cell? ⟨g,i*6+1,none⟩=some (.slice na ns.length nc)∧Z.cell? ⟨g,i*6+2,none⟩=some (.int .i64 st)∧Z.cell? ⟨g,i*6+3,none⟩=some (.int .i64 wk)∧Z.cell? ⟨g,i*6+4,none⟩=some (.int .i64 un)∧Z.cell? ⟨g,i*6+5,none⟩=some (.int .i64 ke)):=fun Z hz=>by
  obtain ⟨v0,v1,v2,v3,v4,v5⟩:=HT.out
  have hr:=HRow.out Z hz
  exact ⟨(hr.cellAt _ (by omega)).trans v0,(hr.cellAt _ (by omega)).trans v1,(hr.cellAt _ (by omega)).trans v2,(hr.cellAt _ (by omega)).trans v3,(hr.cellAt _ (by omega)).trans v4,(hr.cellAt _ (by omega)).trans v5⟩
 have HAs:Hid (∀ Z,_):=fun Z=>znD nm na ns.length nc st wk un ke key Z
 have hwi:IntKind.i64.wrap (i:Int)=(i:Int):=by rw [IntKind.wrap_i64];omega
 have HB0:Hid (Below w.heap.size w w.drew):=⟨rfl,rfl,rfl,Nat.le_refl _,fun _ _=>rfl⟩
 have b0:=(HBx.out w (Below.refl _ _)).c0
 obtain ⟨c0,c1,c2,c3,c4,c5⟩:=HCe.out w (Below.refl _ _)
 clear hb4 ho hx hap hne hbase hbB hxl e2 HX1 hgx htv hix hlr ht
 go_enter Tryz.func54,Tryz.ntmps54
 go_wp2
 refine Till.region (S:=(fun Z=>Z.cell? ⟨B,0,none⟩=some (.slice (some ⟨g,0,none⟩) ts.length vc)∧Z.cell? ⟨g,i*6,none⟩=some (.string ⟨nm.toArray⟩)∧Z.cell? ⟨g,i*6+1,none⟩=some (.slice na ns.length nc)∧Z.cell? ⟨g,i*6+2,none⟩=some (.int .i64 st)∧Z.cell? ⟨g,i*6+3,none⟩=some (.int .i64 wk)∧Z.cell? ⟨g,i*6+4,none⟩=some (.int .i64 un)∧Z.cell? ⟨g,i*6+5,none⟩=some (.int .i64 ke))) (E:=[15]) (by kernel_rfl) ?_ (fun hHeld hSh=>?_)
 ·
  exact ⟨b0,c0,c1,c2,c3,c4,c5⟩
 refine tkO [(0,6),(1,7),(2,8),(3,9),(4,10),(5,11),(6,12),(7,13),(8,14),(9,15),(10,16),(11,17),(12,18)] ?_
 repeat (refine tlY ?_ rfl (by rfl) ?_ (fun hSh2=>?_);rotate_left;(focus (intro wq hSw;(try dsimp only at hSw);first | (go_simp;done) | (go_simp;with_reducible rfl)));clear hSh;rename zaO _ _ _=>hSh;simp only [zP])
 refine tkZ ?_
 refine Till.one (i:=13) (by kernel_rfl) rfl hSh (fun K hK=>?_)
 clear hSh
 go_simp
 (go_at_call 87;refine Calls.mono (HAs.out _) ?_;rintro e w6 ⟨rfl,hb6⟩;have HB6:Hid (Below w.heap.size w w6):=HB0.out.trans (hb6.mono HB0.out.size);clear hb6 b0 c0 c1 c2 c3 c4 c5;have b0:=(HBx.out w6 HB6.out).c0;obtain ⟨c0,c1,c2,c3,c4,c5⟩:=HCe.out w6 HB6.out)
 refine hK.out _ _ ?_ (fun hHeld hSh=>?_)
 ·
  exact ⟨b0,c0,c1,c2,c3,c4,c5⟩
 clear hK K
 refine tkO [(14,20)] ?_
 repeat (refine tlY ?_ rfl (by rfl) ?_ (fun hSh2=>?_);rotate_left;(focus (intro wq hSw;(try dsimp only at hSw);first | (go_simp;done) | (go_simp;with_reducible rfl)));clear hSh;rename zaO _ _ _=>hSh;simp only [zP])
 refine tkZ ?_
 have hr0:=HRow.out w6 HB6.out
 have e0:=hr0.frozenAt (i*6)
 have hs0:=hr0.stored (i*6) (.string ⟨nm.toArray⟩)
 have e1:=hr0.frozenAt (i*6+1)
 have hs1:=hs0.1.stored (i*6+1) (.slice na ns.length nc)
 have e2:=hr0.frozenAt (i*6+2)
 have hs2:=hs1.1.stored (i*6+2) (.int .i64 2)
 have e3:=hr0.frozenAt (i*6+3)
 have hs3:=hs2.1.stored (i*6+3) (.int .i64 0)
 have e4:=hr0.frozenAt (i*6+4)
 have hs4:=hs3.1.stored (i*6+4) (.int .i64 0)
 have e5:=hr0.frozenAt (i*6+5)
 have hs5:=hs4.1.stored (i*6+5) (.int .i64 key)
 obtain ⟨V,hV⟩:∃ V,((((((w6.setCell ⟨g,i*6,none⟩ (.string ⟨nm.toArray⟩)).setCell ⟨g,i*6+1,none⟩ (.slice na ns.length nc)).setCell ⟨g,i*6+2,none⟩ (.int .i64 2)).setCell ⟨g,i*6+3,none⟩ (.int .i64 0)).setCell ⟨g,i*6+4,none⟩ (.int .i64 0)).setCell ⟨g,i*6+5,none⟩ (.int .i64 key))=V:=⟨_,rfl⟩
 have hgV:w6.grownBy V (some g):=by rw [←hV];exact ((((hs0.2.trans hs1.2).trans hs2.2).trans hs3.2).trans hs4.2).trans hs5.2
 have hrV:=hs5.1
 have hset:=zm9 xs i ((nm,ns,2,0,0,key),na,nc)
 simp only [tvT] at hset
 rw [hset,hV] at hrV
 have bQV:=(HBx.out w6 HB6.out).grown hgV (by intro e;injection e with e;exact HgB.out.1 e)
 have HBV:Hid (Below base w V):=(HB6.out.mono HgB.out.2.2.1).grown hgV (Nat.le_trans HgB.out.2.2.1 HB6.out.size) (fun k e=>by injection e with e;have:=HgB.out.2.1;omega)
 have HBVs:Hid (base≤V.heap.size):=by have h1:=HBV.out.size;have h2:=HgB.out.2.2.1;exact (by omega:base≤V.heap.size)
 have HOV:Hid (∃ h:i<xs.length,za9 V base (.slice (some ⟨g,0,none⟩) ts.length vc) (xs.set i ((nm,ns,2,0,0,key),na,nc))∧zao ((xs.set i ((nm,ns,2,0,0,key),na,nc)).map tvT)):=by
  obtain ⟨h,e⟩:=HTV.out
  exact ⟨h,(HO.out _ HB6.out).put h _ hgV (by rw [HX.out.2.2];exact hrV) (by rw [e]) (by rw [e]),ze4 h _ (by rw [e]) (by rw [e]) HX.out.2.1⟩
 have p3:=bQV.c3
 have pf3:=bQV.fr 3
 have HBQ:Hid (B4 V B (.slice (some ⟨g,0,none⟩) ts.length vc) (.int .i64 ep) (.int .i64 nw) (.string ⟨jr.toArray⟩)):=bQV
 have HGV:Hid (w6.grownBy V (some g)):=hgV
 clear hs0 hs1 hs2 hs3 hs4 hs5 hr0 hrV hset bQV hgV
 refine Till.last (i:=15) (by kernel_rfl) rfl (by decide) (fun K hK=>?_)
 go_simp
 refine hK.out _ _ ?_
 clear hK K
 (try rw [hV])
 refine Till.done (by kernel_rfl) ?_ _
 go_wp2
 have HVd:Hid (Below V.heap.size V V.drew):=⟨rfl,rfl,rfl,Nat.le_refl _,fun _ _=>rfl⟩
 refine Till.region (S:=(fun Z=>Z.cell? ⟨B,3,none⟩=some (.string ⟨jr.toArray⟩))) (E:=[11]) (by kernel_rfl) ?_ (fun hHeld hSh=>?_)
 ·
  exact p3
 refine tkO [(0,21),(1,22),(2,23),(3,24),(4,25),(5,26)] ?_
 repeat (refine tlY ?_ rfl (by rfl) ?_ (fun hSh2=>?_);rotate_left;(focus (intro wq hSw;(try dsimp only at hSw);first | (go_simp;done) | (go_simp;with_reducible rfl)));clear hSh;rename zaO _ _ _=>hSh;simp only [zP])
 refine tkZ ?_
 refine Till.one (i:=6) (by kernel_rfl) rfl hSh (fun K hK=>?_)
 clear hSh
 go_simp
 (go_at_call 85;refine Calls.mono (HTx.out _ (HBV.out.trans (HVd.out.mono HBVs.out))) ?_;rintro e w8 ⟨rfl,hb8⟩;have HB8:Hid (Below V.heap.size V w8):=HVd.out.trans (hb8.mono HVd.out.size);clear hb8 p3 pf3;have p3:=(HBQ.out.below HB8.out).c3;have pf3:=(HBQ.out.below HB8.out).fr 3)
 refine hK.out _ _ ?_ (fun hHeld hSh=>?_)
 ·
  exact p3
 clear hK K
 refine Till.one (i:=7) (by kernel_rfl) rfl hSh (fun K hK=>?_)
 clear hSh
 go_simp
 (go_at_call 55;refine Calls.mono (HFm.out _) ?_;rintro e w9 ⟨rfl,hb9⟩;have HB9:Hid (Below V.heap.size V w9):=HB8.out.trans (hb9.mono HB8.out.size);clear hb9 p3 pf3;have p3:=(HBQ.out.below HB9.out).c3;have pf3:=(HBQ.out.below HB9.out).fr 3)
 refine hK.out _ _ ?_ (fun hHeld hSh=>?_)
 ·
  exact p3
 clear hK K
 have hcat:=zbU
 refine tkO [(8,29)] ?_
 repeat (refine tlY ?_ rfl (by rfl) ?_ (fun hSh2=>?_);rotate_left;(focus (intro wq hSw;(try dsimp only at hSw);first | (go_simp;done) | (go_simp;with_reducible rfl) | (go_simp;rw [if_neg (by omega)])));clear hSh;rename zaO _ _ _=>hSh;simp only [zP])
 refine tkZ ?_
 refine tkO [(9,30),(10,31)] ?_
 repeat (refine tlY ?_ rfl (by rfl) ?_ (fun hSh2=>?_);rotate_left;(focus (intro wq hSw;(try dsimp only at hSw);first | (go_simp;done) | (go_simp;with_reducible rfl)));clear hSh;rename zaO _ _ _=>hSh;simp only [zP])
 refine tkZ ?_
 refine Till.last (i:=11) (by kernel_rfl) rfl (by decide) (fun K hK=>?_)
 go_simp
 refine hK.out _ _ ?_
 clear hK K
 refine Till.done (by kernel_rfl) ?_ _
 go_wp2
 first | go_end0 | refine bodyPost_ret (results_none rfl _ _ _) rfl ?_
 obtain ⟨hix,hoV,hapV⟩:=HOV.out
 have hoff:∀ k,zai (.slice (some ⟨g,0,none⟩) ts.length vc) (xs.set i ((nm,ns,2,0,0,key),na,nc)) k→zai (.slice (some ⟨g,0,none⟩) ts.length vc) xs k:=by
  rintro k (e | ⟨y,hy,e⟩)
  ·
   exact Or.inl e
  ·
   rcases List.mem_or_eq_of_mem_set hy with h | h
   ·
    exact Or.inr ⟨y,h,e⟩
   ·
    subst h
    obtain ⟨h1,h2⟩:=HTV.out
    exact Or.inr ⟨xs[i],List.getElem_mem h1,by rw [h2];exact e⟩
 have hgF:=zam w9 B 3 (.string ⟨(jr++ln).toArray⟩)
 have hoW:=(hoV.below HB9.out).kept hgF (by
  rcases h:(Value.slice (some ⟨g,0,none⟩) ts.length vc).ownBlock with _ | k
  ·
   exact Or.inl rfl
  ·
   exact Or.inr (fun e=>by injection e with e;exact HNe.out k (Or.inl h) e)) (fun x hx=>by
  rcases h:(tvT x).ownBlock with _ | k
  ·
   exact Or.inl rfl
  ·
   exact Or.inr (fun e=>by injection e with e;exact HNe.out k (hoff k (Or.inr ⟨x,hx,h⟩)) e))
 have hW6:zaS w w6 (fun k=>(Value.slice (some ⟨g,0,none⟩) ts.length vc).ownBlock=some k∨k=B):=zaS.of_below HB6.out
 have hWV:=hW6.trans (zaS.of_grown HGV.out (fun k e=>Or.inl e))
 have hW9:=hWV.trans (zaS.of_below HB9.out)
 have hWF:=hW9.trans (zaS.of_grown hgF (fun k e=>Or.inr (by injection e with e;exact e.symm)))
 refine ⟨rfl,_,?_,hoW,hapV,(HBQ.out.below HB9.out).s3 _,hWF,hoff⟩
 rw [List.map_set,HX.out.1]
 show ts.set i _=ts.set i _
 congr 1
 unfold zbR
 rw [←HXi.out]
theorem dnV_done {ts:List Ta} {f:List UInt8} {k key:Int} (hl:ts.length≤8) (h:zd5 ts f k key):dnV f=(k,key,true):=by
 obtain ⟨e1,e2⟩:=zeJ hl h
 obtain ⟨h1,h2,h3,_⟩:=h
 have hk:0≤key∧key≤2147483646:=by unfold zbA inB at h3;exact of_decide_eq_true h3
 obtain ⟨w,u,hs,_⟩:=(zeg (f:=f) (k:=k) (key:=key) (by omega) (by omega) (by omega) (by omega)).2 (by rw [h1,zbZ])
 have hf:f≠[]:=by rw [h1,zbZ];simp [zde]
 have hw:zbh f=za3 32 f:=by unfold zbh;rw [if_neg hf]
 unfold zdY at e1 e2
 unfold dnV
 rw [hw,e1,e2,if_pos (by rw [hs];rfl),decide_eq_true h1]
set_option maxHeartbeats 4000000 in
set_option maxRecDepth 100000 in
theorem zj7 (B base:Nat) (va:Option Addr) (vc:Nat) (xs:List TV) (ts:List Ta) (ep nw:Int) (jr f:List UInt8) (i:Nat) (key:Int) (w:World) (hb4:B4 w B (.slice va ts.length vc) (.int .i64 ep) (.int .i64 nw) (.string ⟨jr.toArray⟩)) (ho:za9 w base (.slice va ts.length vc) xs) (hx:xs.map (·.1)=ts) (hap:zao (xs.map tvT)) (hne:∀ k,zai (.slice va ts.length vc) xs k→k≠B) (hbase:base≤w.heap.size) (hbB:base≤B)
 (h8:ts.length≤8) (hsh:zav ts) (hnd:∀ p,p<ts.length→∀ q,q<(ts.getD p ta0).2.1.length→0≤(ts.getD p ta0).2.1.getD q 0∧(ts.getD p ta0).2.1.getD q 0<ts.length) (h0:0≤ep) (h1:ep≤1000000) (hj:jr.length≤60000) (hf:f.length≤1048576) (ht:∀ Z,Below base w Z→zcB Z) (hd:zd5 ts f (i:Int) key) :
 Calls Tryz.prog 22 #[.pointer (some ⟨B,0,none⟩),.string ⟨f.toArray⟩] w fun e w'=>e=.returned (.bool true)∧∃ xs',xs'.map (·.1)=ts.set i (zbR (ts.getD i ta0) key)∧za9 w' base (.slice va ts.length vc) xs'∧zao (xs'.map tvT)∧B4 w' B (.slice va ts.length vc) (.int .i64 ep) (.int .i64 nw) (.string ⟨(jr++zce (i:Int) key).toArray⟩)∧zaS w w' (fun k=>(Value.slice va ts.length vc).ownBlock=some k∨k=B)∧(∀ k,zai (.slice va ts.length vc) xs' k→zai (.slice va ts.length vc) xs k):=by
 have hdn:=dnV_done h8 hd
 obtain ⟨hfd,⟨_,hi⟩,hk18,hst,hfr⟩:=hd
 have hi2:i<ts.length:=by omega
 have hky:0≤key∧key≤2147483646:=by unfold zbA inB at hk18;exact of_decide_eq_true hk18
 have HS1:Hid (_):=zcI (ep+1) w (ht w (Below.refl _ _)) (by omega) (by omega)
 have hfs:(f==zaX (ep+1))=false:=by rw [beq_eq_false_iff_ne,hfd];exact fun e=>zez e.symm
 have HDn:Hid (∀ Z,Below w.heap.size w Z→_):=fun Z (hz:Below w.heap.size w Z)=>zia f Z (fun X hX=>ht X ((hz.mono hbase).trans (hX.mono (Nat.le_trans hbase hz.size)))) hf
 rw [hdn] at HDn
 have hnum:decide (0≤(i:Int)∧(i:Int)<(ts.length:Int))=true:=decide_eq_true ⟨by omega,hi⟩
 have HNum:Hid (∀ Z,_):=fun Z=>zkh va ts.length vc (i:Int) Z
 rw [hnum] at HNum
 have HKey:Hid (∀ Z,_):=fun Z=>zgZ key Z
 rw [show inB key 0 2147483646=true from hk18] at HKey
 have hcode:zjg ts (ts.getD i ta0)=0:=by
  rw [Int.toNat_natCast] at hst hfr
  unfold zjg;rw [if_neg hst,hfr];simp
 have HIn:Hid (∀ Z,Below w.heap.size w Z→zaK Z va ts.length ts):=fun Z hz=>by
  obtain ⟨a7,c7,e7,hok7⟩:=(ho.below hz).ok
  have hxl:xs.length=ts.length:=by rw [←hx,List.length_map]
  rw [hx,hxl] at hok7
  rw [hxl] at e7
  injection e7 with e7 _ _
  subst e7
  exact hok7.in
 have HCo:Hid (∀ Z,Below w.heap.size w Z→_):=fun Z hz=>zfV va ts.length vc ts i Z (HIn.out Z hz) hsh (by omega) hi2 (hnd i hi2)
 rw [hcode] at HCo
 have HWr:Hid (∀ Z,Below w.heap.size w Z→_):=fun Z (hz:Below w.heap.size w Z)=>zhE B base va vc xs ts ep nw jr i key Z (hb4.below hz) (ho.below hz) hx hap hne (Nat.le_trans hbase hz.size) hbB hi2 (by omega) hj (fun X hX=>ht X ((hz.mono hbase).trans hX)) (by omega) (by omega)
 have HBx:Hid (∀ Z,Below w.heap.size w Z→B4 Z B (.slice va ts.length vc) (.int .i64 ep) (.int .i64 nw) (.string ⟨jr.toArray⟩)):=fun Z hz=>hb4.below hz
 have HBs:Hid (base≤w.heap.size):=hbase
 have hwi:IntKind.i64.wrap (ep+1)=ep+1:=by rw [IntKind.wrap_i64];omega
 have b1:=hb4.c1
 generalize zaX (ep+1)=t at HS1 hfs
 clear ht hb4 ho hx hap hne hsh hnd hdn hfd hk18 hst hfr hnum hcode hbase hi hky
 go_enter Tryz.func22,Tryz.ntmps22
 go_wp2_with fail
 refine Calls.mono HS1.out ?_
 rintro e w1 ⟨rfl,hb1⟩
 have HB1:Hid (Below w.heap.size w w1):=hb1
 clear hb1 b1 HS1
 go_wp2_with fail
 refine Calls.mono (HDn.out w1 HB1.out) ?_
 rintro e w2 ⟨rfl,hb2⟩
 have HB2:Hid (Below w.heap.size w w2):=HB1.out.trans (hb2.mono HB1.out.size)
 have b0:=(HBx.out w2 HB2.out).c0
 clear hb2 HDn
 go_wp2_with (first
  | (go_at_call 51;refine Calls.mono (HNum.out _) ?_;rintro e wn ⟨rfl,hwn⟩;obtain rfl:=hwn.symm;clear hwn)
  | (go_at_call 52;refine Calls.mono (HKey.out _) ?_;rintro e wn ⟨rfl,hwn⟩;obtain rfl:=hwn.symm;clear hwn))
 refine Calls.mono (HCo.out _ HB2.out) ?_
 rintro e w3 ⟨rfl,hb3⟩
 have HB3:Hid (Below w.heap.size w w3):=HB2.out.trans (hb3.mono HB2.out.size)
 clear hb3 b0
 go_wp2_with fail
 refine Calls.mono (HWr.out _ HB3.out) ?_
 rintro e w4 ⟨rfl,xs4,hx4,ho4,hap4,hb44,hb4,hk4⟩
 have HE:Hid (∃ xs',xs'.map (·.1)=ts.set i (zbR (ts.getD i ta0) key)∧za9 w4 base (.slice va ts.length vc) xs'∧zao (xs'.map tvT)∧B4 w4 B (.slice va ts.length vc) (.int .i64 ep) (.int .i64 nw) (.string ⟨(jr++zce (i:Int) key).toArray⟩)∧zaS w w4 (fun k=>(Value.slice va ts.length vc).ownBlock=some k∨k=B)∧(∀ k,zai (.slice va ts.length vc) xs' k→zai (.slice va ts.length vc) xs k)):=⟨xs4,hx4,ho4,hap4,hb44,(zaS.of_below HB3.out).trans hb4,hk4⟩
 clear hx4 ho4 hap4 hb44 hb4 hk4 HWr
 go_wp2
 go_ret
 exact ⟨rfl,HE.out⟩
theorem dnV_yes {f:List UInt8} {k key:Int} (h:dnV f=(k,key,true)):f=zcA k key:=by
 unfold dnV at h
 split at h
 ·
  injection h with h1 h2
  injection h2 with h2 h3
  rw [h1,h2] at h3
  exact of_decide_eq_true h3
 ·
  simp at h
set_option maxHeartbeats 4000000 in
set_option maxRecDepth 100000 in
theorem zlL (B base:Nat) (va:Option Addr) (vc:Nat) (xs:List TV) (ts:List Ta) (ep nw:Int) (jr f:List UInt8) (w:World) (hb4:B4 w B (.slice va ts.length vc) (.int .i64 ep) (.int .i64 nw) (.string ⟨jr.toArray⟩)) (ho:za9 w base (.slice va ts.length vc) xs) (hx:xs.map (·.1)=ts) (hbase:base≤w.heap.size)
 (h8:ts.length≤8) (hsh:zav ts) (hnd:∀ p,p<ts.length→∀ q,q<(ts.getD p ta0).2.1.length→0≤(ts.getD p ta0).2.1.getD q 0∧(ts.getD p ta0).2.1.getD q 0<ts.length) (h0:0≤ep) (h1:ep≤1000000) (hf:f.length≤1048576) (ht:∀ Z,Below base w Z→zcB Z) (hs:f≠zaX (ep+1)) (hd:∀ k key,¬zd5 ts f k key) :
 Calls Tryz.prog 22 #[.pointer (some ⟨B,0,none⟩),.string ⟨f.toArray⟩] w fun e w'=>e=.returned (.bool false)∧Below w.heap.size w w':=by
 have HS1:Hid (_):=zcI (ep+1) w (ht w (Below.refl _ _)) (by omega) (by omega)
 have hfs:(f==zaX (ep+1))=false:=by rw [beq_eq_false_iff_ne];exact hs
 have HDn:Hid (∀ Z,Below w.heap.size w Z→_):=fun Z (hz:Below w.heap.size w Z)=>zia f Z (fun X hX=>ht X ((hz.mono hbase).trans (hX.mono (Nat.le_trans hbase hz.size)))) hf
 have HBx:Hid (∀ Z,Below w.heap.size w Z→B4 Z B (.slice va ts.length vc) (.int .i64 ep) (.int .i64 nw) (.string ⟨jr.toArray⟩)):=fun Z hz=>hb4.below hz
 have HIn:Hid (∀ Z,Below w.heap.size w Z→zaK Z va ts.length ts):=fun Z hz=>by
  obtain ⟨a7,c7,e7,hok7⟩:=(ho.below hz).ok
  have hxl:xs.length=ts.length:=by rw [←hx,List.length_map]
  rw [hx,hxl] at hok7
  rw [hxl] at e7
  injection e7 with e7 _ _
  subst e7
  exact hok7.in
 have hwi:IntKind.i64.wrap (ep+1)=ep+1:=by rw [IntKind.wrap_i64];omega
 have b1:=hb4.c1
 obtain ⟨⟨k,key,okb⟩,hdv⟩:∃ z,dnV f=z:=⟨_,rfl⟩
 rw [hdv] at HDn
 have HNum:Hid (∀ Z,_):=fun Z=>zkh va ts.length vc k Z
 have HKey:Hid (∀ Z,_):=fun Z=>zgZ key Z
 generalize zaX (ep+1)=t at HS1 hfs hs
 clear ht hb4 ho hx hbase
 rcases okb with _ | _
 ·
  clear hd hsh hnd HIn HNum HKey HBx
  go_enter Tryz.func22,Tryz.ntmps22
  go_wp2_with fail
  refine Calls.mono HS1.out ?_
  rintro e w1 ⟨rfl,hb1⟩
  have HB1:Hid (Below w.heap.size w w1):=hb1
  clear hb1 b1 HS1
  go_wp2_with fail
  refine Calls.mono (HDn.out w1 HB1.out) ?_
  rintro e w2 ⟨rfl,hb2⟩
  have HB2:Hid (Below w.heap.size w w2):=HB1.out.trans (hb2.mono HB1.out.size)
  clear hb2 HDn
  go_wp2
  go_ret
  exact ⟨rfl,HB2.out⟩
 have HFd:Hid (f=zcA k key):=dnV_yes hdv
 by_cases hi:0≤k∧k<(ts.length:Int)
 rotate_left
 ·
  rw [decide_eq_false hi] at HNum
  clear hd hsh hnd HIn HKey hi
  go_enter Tryz.func22,Tryz.ntmps22
  go_wp2_with fail
  refine Calls.mono HS1.out ?_
  rintro e w1 ⟨rfl,hb1⟩
  have HB1:Hid (Below w.heap.size w w1):=hb1
  clear hb1 b1 HS1
  go_wp2_with fail
  refine Calls.mono (HDn.out w1 HB1.out) ?_
  rintro e w2 ⟨rfl,hb2⟩
  have HB2:Hid (Below w.heap.size w w2):=HB1.out.trans (hb2.mono HB1.out.size)
  have b0:=(HBx.out w2 HB2.out).c0
  clear hb2 HDn
  go_wp2_with (go_at_call 51;refine Calls.mono (HNum.out _) ?_;rintro e wn ⟨rfl,hwn⟩;obtain rfl:=hwn.symm;clear hwn)
  go_ret
  exact ⟨rfl,HB2.out⟩
 rw [decide_eq_true hi] at HNum
 obtain ⟨i,rfl⟩:∃ i:Nat,k=(i:Int):=⟨k.toNat,by omega⟩
 rcases hk:inB key 0 2147483646 with _ | _
 ·
  rw [hk] at HKey
  clear hd hsh hnd HIn hi
  go_enter Tryz.func22,Tryz.ntmps22
  go_wp2_with fail
  refine Calls.mono HS1.out ?_
  rintro e w1 ⟨rfl,hb1⟩
  have HB1:Hid (Below w.heap.size w w1):=hb1
  clear hb1 b1 HS1
  go_wp2_with fail
  refine Calls.mono (HDn.out w1 HB1.out) ?_
  rintro e w2 ⟨rfl,hb2⟩
  have HB2:Hid (Below w.heap.size w w2):=HB1.out.trans (hb2.mono HB1.out.size)
  have b0:=(HBx.out w2 HB2.out).c0
  clear hb2 HDn
  go_wp2_with (first
   | (go_at_call 51;refine Calls.mono (HNum.out _) ?_;rintro e wn ⟨rfl,hwn⟩;obtain rfl:=hwn.symm;clear hwn)
   | (go_at_call 52;refine Calls.mono (HKey.out _) ?_;rintro e wn ⟨rfl,hwn⟩;obtain rfl:=hwn.symm;clear hwn))
  go_ret
  exact ⟨rfl,HB2.out⟩
 rw [hk] at HKey
 have hi2:i<ts.length:=by omega
 have hcode:zjg ts (ts.getD i ta0)≠0:=by
  intro e
  refine hd (i:Int) key ⟨HFd.out,hi,hk,?_,?_⟩
  ·
   rw [Int.toNat_natCast]
   intro h
   unfold zjg at e
   rw [if_pos h] at e
   cases e
  ·
   rw [Int.toNat_natCast]
   unfold zjg at e
   rcases hfr:zbj ts (ts.getD i ta0) with _ | _
   ·
    rw [hfr] at e
    split at e
    ·
     cases e
    ·
     simp at e
   ·
    rfl
 have HCo:Hid (∀ Z,Below w.heap.size w Z→_):=fun Z hz=>zfV va ts.length vc ts i Z (HIn.out Z hz) hsh (by omega) hi2 (hnd i hi2)
 generalize zjg ts (ts.getD i ta0)=cd at HCo hcode
 have hcb:(cd !=0)=true:=by simp [hcode]
 clear hd hsh hnd HIn hi hk
 go_enter Tryz.func22,Tryz.ntmps22
 go_wp2_with fail
 refine Calls.mono HS1.out ?_
 rintro e w1 ⟨rfl,hb1⟩
 have HB1:Hid (Below w.heap.size w w1):=hb1
 clear hb1 b1 HS1
 go_wp2_with fail
 refine Calls.mono (HDn.out w1 HB1.out) ?_
 rintro e w2 ⟨rfl,hb2⟩
 have HB2:Hid (Below w.heap.size w w2):=HB1.out.trans (hb2.mono HB1.out.size)
 have b0:=(HBx.out w2 HB2.out).c0
 clear hb2 HDn
 go_wp2_with (first
  | (go_at_call 51;refine Calls.mono (HNum.out _) ?_;rintro e wn ⟨rfl,hwn⟩;obtain rfl:=hwn.symm;clear hwn)
  | (go_at_call 52;refine Calls.mono (HKey.out _) ?_;rintro e wn ⟨rfl,hwn⟩;obtain rfl:=hwn.symm;clear hwn))
 refine Calls.mono (HCo.out _ HB2.out) ?_
 rintro e w3 ⟨rfl,hb3⟩
 have HB3:Hid (Below w.heap.size w w3):=HB2.out.trans (hb3.mono HB2.out.size)
 clear hb3 b0
 go_wp2
 go_ret
 exact ⟨rfl,HB3.out⟩
end Go.Proofs.YtdbljnddkbpanaaGreatDoor
