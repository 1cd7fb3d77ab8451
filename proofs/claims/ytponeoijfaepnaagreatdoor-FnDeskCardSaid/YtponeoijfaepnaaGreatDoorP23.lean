/-
  Parts of one proof, one behind the other: Any18.
-/
import Derived.Test.YtponeoijfaepnaaGreatDoorP22
namespace Go.Proofs.YtponeoijfaepnaaGreatDoor
open Go.RowKit
set_option maxHeartbeats 16000000
set_option maxRecDepth 100000
theorem tksV_s0 (xs:List TV) (j:Nat) (hj:j<xs.length) (a:List UInt8):(tksV xs).set (j*6) (.string ⟨a.toArray⟩)=tksV (xs.set j ((a,xs[j].1.2.1,xs[j].1.2.2.1,xs[j].1.2.2.2.1,xs[j].1.2.2.2.2.1,xs[j].1.2.2.2.2.2),xs[j].2)):=by
 induction xs generalizing j with
 | nil=>simp at hj
 | cons x r ih =>
  cases j with
  | zero=>simp [tksV,tvT]
  | succ j =>
   have:=ih j (by simpa using hj);rw [show (j+1)*6=j*6+1+1+1+1+1+1 by omega];simp only [tksV,zC,List.getElem_cons_succ];rw [this]
theorem tksV_s2 (xs:List TV) (j:Nat) (hj:j<xs.length) (a:Int):(tksV xs).set (j*6+2) (.int .i64 a)=tksV (xs.set j ((xs[j].1.1,xs[j].1.2.1,a,xs[j].1.2.2.2.1,xs[j].1.2.2.2.2.1,xs[j].1.2.2.2.2.2),xs[j].2)):=by
 induction xs generalizing j with
 | nil=>simp at hj
 | cons x r ih =>
  cases j with
  | zero=>simp [tksV,tvT]
  | succ j =>
   have:=ih j (by simpa using hj);rw [show (j+1)*6=j*6+1+1+1+1+1+1 by omega];simp only [tksV,Nat.add_right_comm _ 1 2,zC,List.getElem_cons_succ];rw [this]
theorem tksV_s4 (xs:List TV) (j:Nat) (hj:j<xs.length) (a:Int):(tksV xs).set (j*6+4) (.int .i64 a)=tksV (xs.set j ((xs[j].1.1,xs[j].1.2.1,xs[j].1.2.2.1,xs[j].1.2.2.2.1,a,xs[j].1.2.2.2.2.2),xs[j].2)):=by
 induction xs generalizing j with
 | nil=>simp at hj
 | cons x r ih =>
  cases j with
  | zero=>simp [tksV,tvT]
  | succ j =>
   have:=ih j (by simpa using hj);rw [show (j+1)*6=j*6+1+1+1+1+1+1 by omega];simp only [tksV,Nat.add_right_comm _ 1 4,zC,List.getElem_cons_succ];rw [this]
theorem tksV_s1 (xs:List TV) (j:Nat) (hj:j<xs.length) (y:TV) (h0:y.1.1=xs[j].1.1) (h2:y.1.2.2=xs[j].1.2.2):(tksV xs).set (j*6+1) (tvT y)=tksV (xs.set j y):=by
 induction xs generalizing j with
 | nil=>simp at hj
 | cons x r ih =>
  cases j with
  | zero =>
   simp only [List.getElem_cons_zero] at h0 h2;simp [tksV,h0,h2]
  | succ j =>
   have:=ih j (by simpa using hj) (by simpa using h0) (by simpa using h2);rw [show (j+1)*6=j*6+1+1+1+1+1+1 by omega];simp only [tksV,Nat.add_right_comm _ 1 1,zC];rw [this]
theorem zeI {ts:List Ta} (h:za1 ts) (i:Nat) (t:Ta) (h1:t.1.length≤1048576) (h2:t.2.1.length≤1048576):za1 (ts.set i t):=by
 intro j;by_cases hi:i<ts.length
 ·
  rw [zbM _ _ _ _ hi]
  split
  ·exact ⟨h1,h2⟩
  ·exact h j
 ·rw [List.set_eq_of_length_le (by omega)];exact h j
structure Fd18 (X:World) (L Q:Nat) (va:Option Addr) (vc n:Nat) (xs:List TV) (ts:List Ta) (ep nw:Int) (jr:List UInt8):Prop where
 b4:B4 X Q (.slice va n vc) (.int .i64 ep) (.int .i64 nw) (.string ⟨jr.toArray⟩)
 own:za2 X L (.slice va n vc) xs
 eq:xs.map (·.1)=ts
 hn:ts.length=n
 n8:n≤9
 sh:za1 ts
 j:jr.length≤1508
theorem Dk18.fin {X:World} {L Q:Nat} {va:Option Addr} {vc n:Nat} {xs:List TV} {ts:List Ta} {ep nw:Int} {jr:List UInt8} (h:Dk18 X L Q va vc n xs ts ep nw jr) (h8:n≤9) (hs:za1 ts) (hj:jr.length≤1508):Fd18 X L Q va vc n xs ts ep nw jr:=⟨h.b4,h.own,h.eq,h.hn,h8,hs,hj⟩
theorem Dk18.cell {X Y:World} {L Q g:Nat} {vc n:Nat} {xs:List TV} {ts:List Ta} {ep nw:Int} {jr:List UInt8} (h:Dk18 X L Q (some ⟨g,0,none⟩) vc n xs ts ep nw jr) {i:Nat} (hi:i<xs.length) (o:Nat) (v:Value) (y:TV) (hY:X.setCell ⟨g,i*6+o,none⟩ v=Y) (hr:(tksV xs).set (i*6+o) v=tksV (xs.set i y)) (ha:y.2=xs[i].2) (hn:y.1.2.1=xs[i].1.2.1)
 (h8:n≤9) (hs:za1 (ts.set i y.1)) (hj:jr.length≤1508):Fd18 Y L Q (some ⟨g,0,none⟩) vc n (xs.set i y) (ts.set i y.1) ep nw jr∧X.grownBy Y (some g):=by
 have hg:X.grownBy Y (some g):=by rw [←hY];exact zae _ _ _ _
 have hxl:xs.length=n:=by rw [←h.hn,←h.eq,List.length_map]
 have h0:=h.own.row;rw [hxl] at h0;have h1:=(h0.stored (i*6+o) v).1;rw [hr,hY,←hxl] at h1;have hput:=h.own.put hi y hg (by rw [hxl] at h1 ⊢;exact h1) ha hn;exact ⟨⟨h.b4.grown hg (fun e=>by injection e with e;exact h.ne g (Or.inl rfl) e),hput,by rw [List.map_set,h.eq],by rw [List.length_set];exact h.hn,h8,hs,hj⟩,hg⟩
theorem Dk18.need {X Y Z:World} {L Q g:Nat} {vc n:Nat} {xs:List TV} {ts:List Ta} {ep nw:Int} {jr:List UInt8} (h:Dk18 X L Q (some ⟨g,0,none⟩) vc n xs ts ep nw jr) {i:Nat} (hi:i<xs.length) {nm:List UInt8} {ns:List Int} {st wk un ke:Int} {na:Option Addr} {nc:Nat} (hxi:xs[i]=((nm,ns,st,wk,un,ke),na,nc)) {y8:Int} {va9:Option Addr} {vc9:Nat}
 (ho:Y.ownsRow L 2 1 (.slice va9 (ns.length+1) vc9) (ns.length+1) (zaY (ns++[y8]))) (hg:X.grownBy Y (Value.slice na ns.length nc).ownBlock) (hZ:Y.setCell ⟨g,i*6+1,none⟩ (.slice va9 (ns.length+1) vc9)=Z) (h8:n≤9) (hs:za1 (ts.set i (nm,ns++[y8],st,wk,un,ke))) (hj:jr.length≤1508) :
 Fd18 Z L Q (some ⟨g,0,none⟩) vc n (xs.set i ((nm,ns++[y8],st,wk,un,ke),va9,vc9)) (ts.set i (nm,ns++[y8],st,wk,un,ke)) ep nw jr∧Below L X Z:=by
 have hxl:xs.length=n:=by rw [←h.hn,←h.eq,List.length_map]
 have hmem:xs[i]∈xs:=List.getElem_mem hi;have htv:=h.own.trees _ hmem;rw [hxi] at htv;have htv':X.ownsRow L 2 1 (.slice na ns.length nc) ns.length (zaY ns):=htv;have hgZ:Y.grownBy Z (some g):=by rw [←hZ];exact zae _ _ _ _
 have hrY:=h.own.row.kept hg (zba h.own.row htv' (by decide));have hr0:=hrY;rw [hxl] at hr0;have hr1:=(hr0.stored (i*6+1) (.slice va9 (ns.length+1) vc9)).1;have hlen:(ns++[y8]).length=ns.length+1:=by simp
 have hset:=tksV_s1 xs i hi ((nm,ns++[y8],st,wk,un,ke),va9,vc9) (by rw [hxi]) (by rw [hxi]);simp only [tvT,hlen] at hset;rw [hset,hZ,←hxl] at hr1;have hQb:∀ k,(Value.slice na ns.length nc).ownBlock=some k→k≠Q:=fun k hk=>h.ne k (Or.inr ⟨_,hmem,by rw [hxi];exact hk⟩)
 refine ⟨⟨(h.b4.grown hg (fun e=>hQb Q e rfl)).grown hgZ (fun e=>by injection e with e;exact h.ne g (Or.inl rfl) e),⟨by rw [List.length_set];rw [hxl] at hr1 ⊢;exact hr1,fun z hz=>?_⟩,by rw [List.map_set,h.eq],by rw [List.length_set];exact h.hn,h8,hs,hj⟩,?_⟩
 ·
  obtain ⟨j,hj2,rfl⟩:=List.mem_iff_getElem.1 hz;rw [List.length_set] at hj2;rw [List.getElem_set];by_cases hij:i=j
  ·subst hij;rw [if_pos rfl];have:=ho.kept hgZ (zba ho hrY (by decide));simp only [tvT,hlen];exact this
  ·rw [if_neg hij];have hm:=List.getElem_mem hj2;have hap:=zai.ne h.ap (i:=j) (j:=i) (by simpa using hj2) (by simpa using hi) (fun e=>hij e.symm);rw [List.getElem_map,List.getElem_map,hxi] at hap;have h1:=(h.own.trees _ hm).kept hg hap;exact h1.kept hgZ (zba h1 hrY (by decide))
 ·refine ((Below.refl L X).grown hg h.ls (fun k hk=>(htv'.lt k hk).1)).grown hgZ (Nat.le_trans h.ls hg.size) (fun k e=>by injection e with e;subst e;exact (h.own.row.lt _ rfl).1)
theorem zif {V Y:World} {B k:Nat} {x0 x1 x2:Int} (hg:(V.alloc (.cells #[.int .i64 x0,.int .i64 x1,.int .i64 x2] 2)).grownBy Y (some B)) (hk:k<3) (hB:B<V.heap.size):∃ y,Y.cell? ⟨V.heap.size,k,none⟩=some (.int .i64 y):=by
 have hA:=heap_alloc_new V (.cells #[.int .i64 x0,.int .i64 x1,.int .i64 x2] 2);have key:∀ v,(V.alloc (.cells #[.int .i64 x0,.int .i64 x1,.int .i64 x2] 2)).cell? ⟨V.heap.size,k,none⟩=some v→Y.cell? ⟨V.heap.size,k,none⟩=some v:=fun v h=>hg.cell h (by intro e;injection e with e;simp only at e;omega)
 match k,hk with
 | 0,_=>exact ⟨x0,key _ (by rw [cell_of_row _ _ _ _ _ _ hA];rfl)⟩
 | 1,_=>exact ⟨x1,key _ (by rw [cell_of_row _ _ _ _ _ _ hA];rfl)⟩
 | 2,_=>exact ⟨x2,key _ (by rw [cell_of_row _ _ _ _ _ _ hA];rfl)⟩
theorem row3_nm {V Y:World} {B k:Nat} (hg:(V.alloc (.cells #[.string ⟨#[]⟩,.string ⟨#[109,97,105,110]⟩,.string ⟨#[122,122]⟩] 9)).grownBy Y (some B)) (hk:k<3) (hB:B<V.heap.size):∃ y:List UInt8,y.length≤4∧Y.cell? ⟨V.heap.size,k,none⟩=some (.string ⟨y.toArray⟩):=by
 have hA:=heap_alloc_new V (.cells #[.string ⟨#[]⟩,.string ⟨#[109,97,105,110]⟩,.string ⟨#[122,122]⟩] 9);have key:∀ v,(V.alloc (.cells #[.string ⟨#[]⟩,.string ⟨#[109,97,105,110]⟩,.string ⟨#[122,122]⟩] 9)).cell? ⟨V.heap.size,k,none⟩=some v→Y.cell? ⟨V.heap.size,k,none⟩=some v:=fun v h=>hg.cell h (by intro e;injection e with e;simp only at e;omega)
 match k,hk with
 | 0,_=>exact ⟨[],by simp,key _ (by rw [cell_of_row _ _ _ _ _ _ hA];rfl)⟩
 | 1,_=>exact ⟨[109,97,105,110],by simp,key _ (by rw [cell_of_row _ _ _ _ _ _ hA];rfl)⟩
 | 2,_=>exact ⟨[122,122],by simp,key _ (by rw [cell_of_row _ _ _ _ _ _ hA];rfl)⟩
def Any18 (w w':World) (B:Nat) (a:Option Addr) (len cap:Nat) (v:Value):Prop :=
 ∃ lv va vc xs ts ep nw jr,v=.tuple #[lv,.agg #[.slice va (ts:List Ta).length vc,.int .i64 ep,.int .i64 nw,.string ⟨(jr:List UInt8).toArray⟩]]∧(∃ la n lc ps,lv=.slice la n lc∧n≤4∧∀ Y,zff w' Y w.heap.size→zab Y la n lc ps)∧za2 w' w.heap.size (.slice va ts.length vc) xs∧xs.map (·.1)=ts∧ts.length≤9∧za1 ts∧jr.length≤1508∧Cur w' B a len cap∧w.grownBy w' (some B)
theorem zdT {w W1 w1 w3 X Xe:World} {B L Q D gl yn lc:Nat} {a:Option Addr} {len cap:Nat} {ps:List Pk} {va:Option Addr} {vc n:Nat} {xs:List TV} {ts:List Ta} {ep nw:Int} {jr:List UInt8}
 (hf:Fd18 X L Q va vc n xs ts ep nw jr) (hc:Cur X B a len cap) (hk:Kp18 B L w3 X) (hg:X.grownBy Xe (some D)) (hgr:∀ Z,Kp18 B L w3 Z→w.grownBy Z (some B)) (hag:∀ Z,Kp18 B L w3 Z→zff w1 Z W1.heap.size) (hp:∀ Y,zff w1 Y W1.heap.size→zab Y (some ⟨gl,0,none⟩) yn lc ps) (hy:yn≤4) (hBD:B<D) (hL:D+1≤L∧w1.heap.size=L∧W1.heap.size=D+1) (hD:w.heap.size=D) :
 ∃ v,Value.tuple #[.slice (some ⟨gl,0,none⟩) yn lc,.agg #[.slice va n vc,.int .i64 ep,.int .i64 nw,.string ⟨jr.toArray⟩]]=v∧Any18 w Xe.drew B a len cap v:=by
 have hg':X.grownBy Xe.drew (some D):=hg.trans ⟨rfl,rfl,rfl,Nat.le_refl _,fun _ _ _=>rfl⟩;have hw:=hgr X hk;have hA:=hag X hk;refine ⟨_,rfl,_,va,vc,xs,ts,ep,nw,jr,by rw [hf.hn],⟨_,yn,lc,ps,rfl,hy,fun Y hY=>hp Y ⟨Nat.le_trans hA.1 (Nat.le_trans hg'.size hY.1),fun k h1 h2=>?_⟩⟩,?_,hf.eq,by rw [hf.hn];exact hf.n8,hf.sh,hf.j,hc.kept hg' (fun k e=>by injection e with e;omega),?_⟩
 ·have hkX:k<X.heap.size:=Nat.lt_of_lt_of_le h2 hA.1;exact ((hY.2 k (by omega) (Nat.lt_of_lt_of_le hkX hg'.size)).trans (hg'.block k hkX (by intro e;injection e with e;omega))).trans (hA.2 k h1 h2)
 ·
  rw [hf.hn,hD];refine (hf.own.kept hg' ?_ (fun x hx=>?_)).base (by omega)
  ·
   rcases h:(Value.slice va n vc).ownBlock with _ | k
   ·exact Or.inl rfl
   ·exact Or.inr (fun e=>by injection e with e;have:=(hf.own.row.lt k h).1;omega)
  ·
   rcases h:(tvT x).ownBlock with _ | k
   ·exact Or.inl rfl
   ·exact Or.inr (fun e=>by injection e with e;have:=((hf.own.trees x hx).lt k h).1;omega)
 ·exact ⟨hg'.os.trans hw.os,hg'.tape.trans hw.tape,hg'.output.trans hw.output,Nat.le_trans hw.size hg'.size,fun k h1 h2=>(hg'.block k (Nat.lt_of_lt_of_le h1 hw.size) (by intro e;injection e with e;omega)).trans (hw.block k h1 h2)⟩
theorem zgW (w:World) (B:Nat) (a:Option Addr) (len cap:Nat) (hc:Cur w B a len cap) :
 Calls Tryz.prog 23 #[.pointer (some ⟨B,0,none⟩)] w fun e w'=>∃ v,e=.returned v∧Any18 w w' B a len cap v:=by
 obtain ⟨D,hD⟩:∃ D,w.heap.size=D:=⟨_,rfl⟩
 obtain ⟨W1,hW1⟩:∃ W,w.alloc (.cells #[.slice none 0 0,.int .i64 0,.int .i64 0,.string ⟨#[]⟩] 26)=W:=⟨_,rfl⟩
 have hs1:W1.heap.size=D+1:=by rw [←hW1,←hD];simp
 have hb1:Below w.heap.size w W1:=by rw [←hW1];exact (Below.refl _ _).alloc (Nat.le_refl _) _
 have bR:=B4.new w (.slice none 0 0) (.int .i64 0) (.int .i64 0) (.string ⟨#[]⟩) 26;rw [hW1,hD] at bR;have hBD:B<D:=by rw [←hD];exact hc.lt
 have HBD:Hid (B<D):=hBD;have hc1:Cur W1 B a len cap:=hc.below hb1;have HR1:Hid (B4 W1 D (.slice none 0 0) (.int .i64 0) (.int .i64 0) (.string ⟨#[]⟩)):=bR;have HW:Hid (Below w.heap.size w W1):=hb1;clear hc bR hb1 hBD
 go_enter Tryz.func23,Tryz.ntmps23
 go_wp2_with fail
 refine (drawPs W1 B a len cap hc1).mono ?_;rintro e w1 ⟨L8,la,lc,ys,vc8,cs,rfl,hd8,hy1,hy4⟩;obtain ⟨gl,cl,hla⟩:=zaw hd8.row (by omega);injection hla with e1 _ e3;subst e1;subst e3;obtain ⟨hq8,_⟩:=hd8.q8 ⟨hy1,hy4⟩;have HPk:Hid (∀ Y,zff w1 Y W1.heap.size→zab Y (some ⟨gl,0,none⟩) ys.length lc (ys.map pvP)):=fun Y hY=>hq8.okA hY
 have hok1:=hq8.okA (zff.refl w1 _);have HSp:Hid (zby (ys.map pvP)):=hok1.short;have HNw:Hid (_):=zel (some ⟨gl,0,none⟩) ys.length lc (ys.map pvP) w1 hok1.in (by omega) hok1.short;have HG1:Hid (W1.grownBy w1 (some B)):=hd8.g;have HC1:Hid (Cur w1 B a len cap):=hd8.cur;have HR2:Hid (B4 w1 D (.slice none 0 0) (.int .i64 0) (.int .i64 0) (.string ⟨#[]⟩)):=HR1.out.grown hd8.g (by intro e;injection e with e;have:=HBD.out;omega);obtain ⟨L,hL⟩:∃ L,w1.heap.size=L:=⟨_,rfl⟩
 have HL:Hid (D+1≤L∧w1.heap.size=L∧W1.heap.size=D+1):=by have h1:=HG1.out.size;exact (⟨by omega,hL,hs1⟩:D+1≤L∧w1.heap.size=L∧W1.heap.size=D+1)
 have HNs:Hid (_):=zdw (ys.map pvP);have HN8:Hid (_):=zhE (ys.map pvP);have HNd:Hid (_):=zde (ys.map pvP);have HNy:Hid (_):=fun h=>zdM (ps:=ys.map pvP) h
 have HNj:Hid ((newV (ys.map pvP)).1.2.2.2.length≤116):=by
  rcases hb:(newV (ys.map pvP)).2 with _ | _
  ·rw [ze2 hb];exact Nat.zero_le _
  ·rw [zdM hb];exact zhs (n:=1) (by omega) (by omega)
 generalize newV (ys.map pvP)=nv at HNw HNs HN8 HNd HNy HNj;generalize zaV 1=sl1 at HNd HNy;obtain ⟨⟨ts,ep,nw,jr⟩,ok⟩:=nv;simp only at HNw HNs HN8 HNd HNy HNj;obtain ⟨n,hn⟩:∃ n,ts.length=n:=⟨_,rfl⟩
 rw [hn] at HN8;generalize hps:ys.map pvP=ps at HPk HSp;generalize hyn:ys.length=yn at HPk HNw hy1 hy4 ⊢;clear hd8 hq8 hok1 hc1 HR1 hL hs1;go_wp2_with fail
 refine Calls.mono HNw.out ?_;rintro e w2 ⟨_,rfl,va,vc,xs,rfl,hx,ho2,hap,hb2⟩;simp only at hx ho2;rw [hn,HL.out.2.1] at ho2;rw [hn];rw [HL.out.2.1] at hb2;obtain ⟨Q,hQ⟩:∃ Q,w2.heap.size=Q:=⟨_,rfl⟩
 obtain ⟨Z0,hZ0⟩:∃ Z0,w2.alloc (.cells #[.slice none 0 0,.int .i64 0,.int .i64 0,.string ⟨#[]⟩] 26)=Z0:=⟨_,rfl⟩
 have bz:=B4.new w2 (.slice none 0 0) (.int .i64 0) (.int .i64 0) (.string ⟨#[]⟩) 26;have hbZ:Below w2.heap.size w2 Z0:=by rw [←hZ0];exact (Below.refl _ _).alloc (Nat.le_refl _) _
 rw [hZ0] at bz;rw [hQ] at bz hbZ;have z0:=bz.c0;have z1:=bz.c1;have z2:=bz.c2;have z3:=bz.c3;have zf:=bz.fr;have b4:=(((bz.s0 (.slice va n vc)).s1 (.int .i64 ep)).s2 (.int .i64 nw)).s3 (.string ⟨jr.toArray⟩);have hbX:Below Q w2 ((((Z0.setCell ⟨Q,0,none⟩ (.slice va n vc)).setCell ⟨Q,1,none⟩ (.int .i64 ep)).setCell ⟨Q,2,none⟩ (.int .i64 nw)).setCell ⟨Q,3,none⟩ (.string ⟨jr.toArray⟩)):=(((hbZ.setCell (Nat.le_refl _) _).setCell (Nat.le_refl _) _).setCell (Nat.le_refl _) _).setCell (Nat.le_refl _) _;obtain ⟨w3,hw3⟩:∃ W,(((Z0.setCell ⟨Q,0,none⟩ (.slice va n vc)).setCell ⟨Q,1,none⟩ (.int .i64 ep)).setCell ⟨Q,2,none⟩ (.int .i64 nw)).setCell ⟨Q,3,none⟩ (.string ⟨jr.toArray⟩)=W:=⟨_,rfl⟩
 rw [hw3] at b4 hbX;have hLQ:L≤Q:=by rw [←hQ,←HL.out.2.1];exact hb2.size
 have hQ3:Q≤w3.heap.size:=by rw [←hQ];exact hbX.size
 have HD3:Hid (Dk18 w3 L Q va vc n xs ts ep nw jr):=⟨b4,ho2.below (by rw [hQ];exact hbX),hx,hap,fun k hk e=>by
  subst e;rw [←hQ] at hk;rcases hk with e | ⟨x,hx,e⟩
  ·have:=(ho2.row.lt _ e).2;omega
  ·have:=((ho2.trees x hx).lt _ e).2;omega,hn,hLQ,by omega⟩
 have hB13:Below L w1 w3:=hb2.trans (hbX.mono hLQ);have HB13:Hid (Below L w1 w3):=hB13;have HC3:Hid (Cur w3 B a len cap):=HC1.out.belowL hB13 (by have:=HL.out.1;have:=HBD.out;omega);have HBL:Hid (B<L):=by exact (by have:=HL.out.1;have:=HBD.out;omega:B<L)
 have HR3:Hid (∀ Z,Kp18 B L w3 Z→B4 Z D (.slice none 0 0) (.int .i64 0) (.int .i64 0) (.string ⟨#[]⟩)):=fun Z hZ=>(HR2.out.keep (hB13.block D (by have:=HL.out.1;omega))).keep (hZ.block D (by have h1:=HL.out;have h2:=hB13.size;omega) (fun e=>by have h1:=HL.out;have h2:=HBD.out;omega))
 have HAg:Hid (∀ Z,Kp18 B L w3 Z→zff w1 Z W1.heap.size):=fun Z hZ=>⟨Nat.le_trans hB13.size hZ.size,fun k h1 h2=>(hZ.block k (Nat.lt_of_lt_of_le h2 hB13.size) (fun e=>by have h3:=HL.out;have h4:=HBD.out;omega)).trans (hB13.block k (by have:=HL.out;omega))⟩
 have HGr:Hid (∀ Z,Kp18 B L w3 Z→w.grownBy Z (some B)):=fun Z hZ=>by
  have h1:w.grownBy w1 (some B):=⟨HG1.out.os.trans HW.out.os,HG1.out.tape.trans HW.out.tape,HG1.out.output.trans HW.out.output,Nat.le_trans HW.out.size HG1.out.size,fun k hk hne=>(HG1.out.block k (Nat.lt_of_lt_of_le hk HW.out.size) hne).trans (HW.out.block k hk)⟩;have h2:Below w.heap.size w1 w3:=hB13.mono (by have:=HL.out.1;omega);refine ⟨hZ.os.trans (h2.os.trans h1.os),hZ.tape.trans (h2.tape.trans h1.tape),hZ.output.trans (h2.output.trans h1.output),Nat.le_trans h1.size (Nat.le_trans h2.size hZ.size),fun k hk hne=>?_⟩;have e1:=h1.block k hk hne;have e2:=h2.block k hk;have hk3:k<w3.heap.size:=Nat.lt_of_lt_of_le (Nat.lt_of_lt_of_le hk h1.size) h2.size
  have e3:=hZ.block k hk3 (fun e=>by
   rcases e with e | e
   ·exact hne (by rw [e])
   ·have h3:=HL.out;omega)
  exact e3.trans (e2.trans e1)
 have HK3:Hid (Kp18 B L w3 w3):=Kp18.refl _ _ _;clear ho2 hx hap hb2 bz hbZ hbX b4 hB13 HNw HC1 HR2 hLQ hQ3 hn HW HG1;have hfd:∀ (Y:World) (va:Option Addr) (vc n:Nat) (xs:List TV) (ts:List Ta) (ep nw:Int) (jr:List UInt8),Fd18 Y L Q va vc n xs ts ep nw jr→True:=fun _ _ _ _ _ _ _ _ _ _=>trivial
 clear hfd;rcases ok with _ | _
 ·
  have HF:Hid (Fd18 w3 L Q va vc n xs ts ep nw jr):=HD3.out.fin (by have:=HN8.out;omega) HNs.out (by have:=HNj.out;omega);clear HNd HNy HNs HN8 HNj HD3;have qz:=HF.out.b4.c0;have HCf:Hid (Cur w3 B a len cap):=HC3.out;have HKf:Hid (Kp18 B L w3 w3):=HK3.out;clear qz HC3;have hrx:=HR3.out w3 HKf.out;have r0:=hrx.c0;have r1:=hrx.c1;have r2:=hrx.c2;have r3:=hrx.c3;have f0:=hrx.fr 0;have f1:=hrx.fr 1;have f2:=hrx.fr 2;have f3:=hrx.fr 3;have q0:=HF.out.b4.c0;have q1:=HF.out.b4.c1;have q2:=HF.out.b4.c2;have q3:=HF.out.b4.c3;obtain ⟨Xe,hXe,y0,y1,y2,y3,hge⟩:=set4 (.slice va n vc) (.int .i64 ep) (.int .i64 nw) (.string ⟨jr.toArray⟩) r0 r1 r2 r3;clear hrx;go_wp2;refine Till.region (S:=(fun Z=>Z.cell? ⟨Q,0,none⟩=some (.slice va n vc)∧Z.cell? ⟨Q,1,none⟩=some (.int .i64 ep)∧Z.cell? ⟨Q,2,none⟩=some (.int .i64 nw)∧Z.cell? ⟨Q,3,none⟩=some (.string ⟨jr.toArray⟩))) (E:=[3]) (by kernel_rfl) ?_ (fun hHeld hSh=>?_)
  ·exact ⟨q0,q1,q2,q3⟩
  refine tkO [(0,90),(1,91),(2,2)] ?_
  repeat (refine tlY ?_ rfl (by rfl) ?_ (fun hSh2=>?_);rotate_left;(focus (intro wq hSw;(try dsimp only at hSw);first | (go_simp;done) | (go_simp;with_reducible rfl)));clear hSh;rename zaI _ _ _=>hSh;simp only [zP])
  refine tkZ ?_;refine Till.last (i:=3) (by kernel_rfl) rfl (by decide) (fun K hK=>?_);go_simp;refine hK.out _ _ ?_;clear hK K
  (try rw [hXe])
  refine Till.done (by kernel_rfl) ?_ _;go_wp2;refine bodyPost_ret (v:=.tuple #[.slice (some ⟨gl,0,none⟩) yn lc,.agg #[.slice va n vc,.int .i64 ep,.int .i64 nw,.string ⟨jr.toArray⟩]]) (by simp [results,Tryz.results23,go_sem,y0,y1,y2,y3]) rfl ?_;obtain ⟨_,rfl,h⟩:=zdT HF.out HCf.out HKf.out hge HGr.out HAg.out HPk.out (by omega) HBD.out HL.out hD;exact ⟨_,rfl,h⟩
 have HN1:Hid (_):=HNy.out rfl;have hdk:zac (ts,ep,nw,jr)=true:=by rw [HN1.out];exact HNd.out
 have HPl:Hid (_):=drawPlay w3 B L Q a len cap (some ⟨gl,0,none⟩) yn lc ps va vc n xs ts ep nw jr HC3.out HBL.out HD3.out hdk HNj.out (fun Y hY=>(HPk.out Y (HAg.out Y hY)).in) (by omega) HSp.out;clear HNd HNy HNs HN8 HNj HD3 HC3 HN1 hdk;go_wp2_with fail
 refine Calls.mono HPl.out ?_;rintro e w4 ⟨rfl,va4,vc4,n4,xs4,ts4,ep4,nw4,jr4,hd4,hok4,hc4,hk4,hj8⟩;have HD4:Hid (Dk18 w4 L Q va4 vc4 n4 xs4 ts4 ep4 nw4 jr4∧zac (ts4,ep4,nw4,jr4)=true):=⟨hd4,hok4⟩;have HC4:Hid (Cur w4 B a len cap):=hc4;have HK4:Hid (Kp18 B L w3 w4):=hk4;clear hd4 hok4 hc4 hk4 HPl hZ0 hw3 z0 z1 z2 z3 zf;go_wp2_with fail
 refine (zbO _ B a len cap 8 (by omega) (by omega) HC4.out).mono ?_;rintro e w5 ⟨once,rfl,hc5,hg5⟩;have HD5:Hid (Dk18 w5 L Q va4 vc4 n4 xs4 ts4 ep4 nw4 jr4∧zac (ts4,ep4,nw4,jr4)=true):=⟨HD4.out.1.keep hg5 (fun k e=>by injection e with e;have:=HBL.out;omega),HD4.out.2⟩;have HC5:Hid (Cur w5 B a len cap):=hc5;have HK5:Hid (Kp18 B L w3 w5):=HK4.out.next hg5;clear hc5 hg5 HD4 HC4 HK4;have HP:=zao.1 HD5.out.2;have hn8:=HP.n;simp only at hn8;rw [HD5.out.1.hn] at hn8;have HSh:Hid (_):=zed HD5.out.2;simp only at HSh;clear HP;rcases once with _ | _
 ·
  have HF:Hid (Fd18 w5 L Q va4 vc4 n4 xs4 ts4 ep4 nw4 jr4):=HD5.out.1.fin (by omega) HSh.out hj8;have HCf:Hid (Cur w5 B a len cap):=HC5.out;have HKf:Hid (Kp18 B L w3 w5):=HK5.out;clear HD5 HC5 HK5 HSh;have hrx:=HR3.out w5 HKf.out;have r0:=hrx.c0;have r1:=hrx.c1;have r2:=hrx.c2;have r3:=hrx.c3;have f0:=hrx.fr 0;have f1:=hrx.fr 1;have f2:=hrx.fr 2;have f3:=hrx.fr 3;have q0:=HF.out.b4.c0;have q1:=HF.out.b4.c1;have q2:=HF.out.b4.c2;have q3:=HF.out.b4.c3;obtain ⟨Xe,hXe,y0,y1,y2,y3,hge⟩:=set4 (.slice va4 n4 vc4) (.int .i64 ep4) (.int .i64 nw4) (.string ⟨jr4.toArray⟩) r0 r1 r2 r3;clear hrx;go_wp2;refine Till.region (S:=(fun Z=>Z.cell? ⟨Q,0,none⟩=some (.slice va4 n4 vc4)∧Z.cell? ⟨Q,1,none⟩=some (.int .i64 ep4)∧Z.cell? ⟨Q,2,none⟩=some (.int .i64 nw4)∧Z.cell? ⟨Q,3,none⟩=some (.string ⟨jr4.toArray⟩))) (E:=[3]) (by kernel_rfl) ?_ (fun hHeld hSh=>?_)
  ·exact ⟨q0,q1,q2,q3⟩
  refine tkO [(0,90),(1,91),(2,2)] ?_
  repeat (refine tlY ?_ rfl (by rfl) ?_ (fun hSh2=>?_);rotate_left;(focus (intro wq hSw;(try dsimp only at hSw);first | (go_simp;done) | (go_simp;with_reducible rfl)));clear hSh;rename zaI _ _ _=>hSh;simp only [zP])
  refine tkZ ?_;refine Till.last (i:=3) (by kernel_rfl) rfl (by decide) (fun K hK=>?_);go_simp;refine hK.out _ _ ?_;clear hK K
  (try rw [hXe])
  refine Till.done (by kernel_rfl) ?_ _;go_wp2;refine bodyPost_ret (v:=.tuple #[.slice (some ⟨gl,0,none⟩) yn lc,.agg #[.slice va4 n4 vc4,.int .i64 ep4,.int .i64 nw4,.string ⟨jr4.toArray⟩]]) (by simp [results,Tryz.results23,go_sem,y0,y1,y2,y3]) rfl ?_;obtain ⟨_,rfl,h⟩:=zdT HF.out HCf.out HKf.out hge HGr.out HAg.out HPk.out (by omega) HBD.out HL.out hD;exact ⟨_,rfl,h⟩
 obtain ⟨g,cp,he⟩:=zaw HD5.out.1.own.row (by rw [←List.length_map (f:=(·.1)),HD5.out.1.eq,HD5.out.1.hn];omega);injection he with e1 e2 e3;subst e1 e3;clear e2;have hxl:xs4.length=n4:=by rw [←HD5.out.1.hn,←HD5.out.1.eq,List.length_map]
 have HXL:Hid (xs4.length=n4):=hxl;clear hxl;have q0:=HD5.out.1.b4.c0;go_wp2;refine wp_region_held_drew (S:=(fun Z=>Z.cell? ⟨Q,0,none⟩=some (.slice (some ⟨g,0,none⟩) n4 vc4))) (by kernel_rfl) ?_ (fun hHeld=>?_)
 ·exact q0
 refine tkO [(0,24),(1,25),(2,26),(3,27),(4,28),(5,29)] ?_
 repeat (refine tkY ?_ rfl (by rfl) ?_ ?_;rotate_left;(focus (intro wq hSw;(try dsimp only at hSw);first | (go_simp;done) | (go_simp;with_reducible rfl)));simp only [zP])
 refine tkZ ?_;refine zR 6 rfl (fun K hK=>?_);go_simp
 (go_at_call 30;refine (zad _ B a len cap _ (by first | omega | (simp;omega)) (by first | omega | (simp;omega)) HC5.out.drew).mono ?_;rintro e w6 ⟨xk,rfl,hk0,hk1,hc6,hg6⟩;obtain ⟨i,rfl⟩:∃ i:Nat,xk=(i:Int):=Int.eq_ofNat_of_zero_le hk0;have HD6:Hid (Dk18 w6 L Q (some ⟨g,0,none⟩) vc4 n4 xs4 ts4 ep4 nw4 jr4∧zac (ts4,ep4,nw4,jr4)=true):=⟨(HD5.out.1.keep (zap w5 none) (by simp)).keep hg6 (fun k e=>by injection e with e;have:=HBL.out;omega),HD5.out.2⟩;have HC6:Hid (Cur w6 B a len cap):=hc6;have HK6:Hid (Kp18 B L w3 w6):=Kp18.next (HK5.out.trans (zb2.of_grown (zap w5 none) (by simp))) hg6;clear hc6 hg6 q0;have q0:=HD6.out.1.b4.c0)
 refine hK.out _ _ ?_ (fun hHeld=>?_)
 ·exact q0
 clear hK K;refine tkO [(7,31),(8,7)] ?_
 repeat (refine tkY ?_ rfl (by rfl) ?_ ?_;rotate_left;(focus (intro wq hSw;(try dsimp only at hSw);first | (go_simp;done) | (go_simp;with_reducible rfl)));simp only [zP])
 refine tkZ ?_;refine wpAnyH_done (by kernel_rfl) ?_ _;clear q0 HD5 HC5 HK5;have hi2:i<n4:=by omega
 have hix:i<xs4.length:=by have:=HXL.out;omega
 have hgx:xs4.getD i tv0=xs4[i]:=by simp [List.getD,hix]
 have HT:Hid (_):=zdp xs4 i hix;rw [hgx] at HT;obtain ⟨tv,htv⟩:∃ tv,xs4[i]=tv:=⟨_,rfl⟩
 rw [htv] at HT;have HTV:Hid (∃ h:i<xs4.length,xs4[i]=tv):=⟨hix,htv⟩
 have HTs:Hid (tv.1.1.length≤1048576∧tv.1.2.1.length≤8):=by
  have h1:tv.1=ts4.getD i ta0:=by rw [←htv];exact zes HD6.out.1.eq hix
  have h2:=HSh.out i;have hP:=zao.1 HD6.out.2;have h3:=(hP.one i (by show i<ts4.length;rw [HD6.out.1.hn];exact hi2)).2.1;unfold zc1 at h3;rw [Bool.and_eq_true] at h3;unfold zcL at h3;have h4:=zhF (by omega) (of_decide_eq_true h3.1);simp only at h4;rw [h1];exact ⟨h2.1,by omega⟩
 obtain ⟨⟨nm,ns,st,wk,un,ke⟩,na,nc⟩:=tv;simp only [tvT] at HT;simp only at HTs;clear hgx htv hix;go_wp2_with fail
 refine (zad _ B a len cap 6 (by omega) (by omega) HC6.out).mono ?_;rintro e w7 ⟨x7,rfl,hx0,hx1,hc7,hg7⟩;have HD7:Hid (Dk18 w7 L Q (some ⟨g,0,none⟩) vc4 n4 xs4 ts4 ep4 nw4 jr4):=HD6.out.1.keep hg7 (fun k e=>by injection e with e;have:=HBL.out;omega);have HC7:Hid (Cur w7 B a len cap):=hc7;have HK7:Hid (Kp18 B L w3 w7):=HK6.out.next hg7;clear hc7 hg7 HD6 HC6 HK6;have hcase:x7=0∨x7=1∨x7=2∨x7=3∨x7=4∨x7=5:=by omega
 clear hx0 hx1;rcases hcase with rfl | rfl | rfl | rfl | rfl | rfl
 ·
  skip
  go_wp2_with fail
  refine (zdS _ B a len cap (-1) 6 (by omega) (by omega) (by omega) HC7.out).mono ?_;rintro e w8 ⟨y8,rfl,hx0,hx1,hc8,hg8⟩;have HD8:Hid (Dk18 w8 L Q (some ⟨g,0,none⟩) vc4 n4 xs4 ts4 ep4 nw4 jr4):=HD7.out.keep hg8 (fun k e=>by injection e with e;have:=HBL.out;omega);have HC8:Hid (Cur w8 B a len cap):=hc8;have HK8:Hid (Kp18 B L w3 w8):=HK7.out.next hg8;clear hc8 hg8 HD7 HC7 HK7 hx0 hx1;have hr0:=HD8.out.own.row;rw [HXL.out] at hr0;have e0:=hr0.frozenAt (i*6+2);have c0:=(hr0.cellAt (i*6+2) (by have:=HXL.out;omega)).trans HT.out.2.2.1;clear hr0;obtain ⟨Y,hY⟩:∃ Y,w8.setCell ⟨g,i*6+2,none⟩ (.int .i64 y8)=Y:=⟨_,rfl⟩
  obtain ⟨HF,hgY⟩:Hid (Fd18 Y L Q (some ⟨g,0,none⟩) vc4 n4 (xs4.set i ((nm,ns,y8,wk,un,ke),na,nc)) (ts4.set i (nm,ns,y8,wk,un,ke)) ep4 nw4 jr4)∧w8.grownBy Y (some g):=by obtain ⟨hix,hxi⟩:=HTV.out;exact HD8.out.cell hix 2 _ ((nm,ns,y8,wk,un,ke),na,nc) hY (by rw [tksV_s2 xs4 i hix,hxi]) (by rw [hxi]) (by rw [hxi]) (by omega) (zeI HSh.out i _ HTs.out.1 (by have:=HTs.out.2;simp only;omega)) hj8
  have hbY:Below L w8 Y:=(Below.refl L w8).grown hgY HD8.out.ls (fun k e=>by injection e with e;subst e;exact (HD8.out.own.row.lt _ rfl).1);have HCf:Hid (Cur Y B a len cap):=HC8.out.belowL hbY HBL.out;have HKf:Hid (Kp18 B L w3 Y):=HK8.out.up hbY;clear hgY hbY HD8 HC8 HK8;have hrx:=HR3.out Y HKf.out;have r0:=hrx.c0;have r1:=hrx.c1;have r2:=hrx.c2;have r3:=hrx.c3;have f0:=hrx.fr 0;have f1:=hrx.fr 1;have f2:=hrx.fr 2;have f3:=hrx.fr 3;have q0:=HF.out.b4.c0;have q1:=HF.out.b4.c1;have q2:=HF.out.b4.c2;have q3:=HF.out.b4.c3;obtain ⟨Xe,hXe,y0,y1,y2,y3,hge⟩:=set4 (.slice (some ⟨g,0,none⟩) n4 vc4) (.int .i64 ep4) (.int .i64 nw4) (.string ⟨jr4.toArray⟩) r0 r1 r2 r3;clear hrx;go_wp2;refine Till.region (S:=(fun Z=>Z.cell? ⟨Q,0,none⟩=some (.slice (some ⟨g,0,none⟩) n4 vc4)∧Z.cell? ⟨Q,1,none⟩=some (.int .i64 ep4)∧Z.cell? ⟨Q,2,none⟩=some (.int .i64 nw4)∧Z.cell? ⟨Q,3,none⟩=some (.string ⟨jr4.toArray⟩))) (E:=[3]) (by kernel_rfl) ?_ (fun hHeld hSh=>?_)
  ·exact ⟨q0,q1,q2,q3⟩
  refine tkO [(0,90),(1,91),(2,2)] ?_
  repeat (refine tlY ?_ rfl (by rfl) ?_ (fun hSh2=>?_);rotate_left;(focus (intro wq hSw;(try dsimp only at hSw);first | (go_simp;done) | (go_simp;with_reducible rfl)));clear hSh;rename zaI _ _ _=>hSh;simp only [zP])
  refine tkZ ?_;refine Till.last (i:=3) (by kernel_rfl) rfl (by decide) (fun K hK=>?_);go_simp;refine hK.out _ _ ?_;clear hK K
  (try rw [hXe])
  refine Till.done (by kernel_rfl) ?_ _;go_wp2;refine bodyPost_ret (v:=.tuple #[.slice (some ⟨gl,0,none⟩) yn lc,.agg #[.slice (some ⟨g,0,none⟩) n4 vc4,.int .i64 ep4,.int .i64 nw4,.string ⟨jr4.toArray⟩]]) (by simp [results,Tryz.results23,go_sem,y0,y1,y2,y3]) rfl ?_;obtain ⟨_,rfl,h⟩:=zdT HF.out HCf.out HKf.out hge HGr.out HAg.out HPk.out (by omega) HBD.out HL.out hD;exact ⟨_,rfl,h⟩
 ·
  skip
  have hr0:=HD7.out.own.row;rw [HXL.out] at hr0;have c1:=(hr0.cellAt (i*6+1) (by have:=HXL.out;omega)).trans HT.out.2.1;clear hr0;go_wp2;refine Till.region (S:=(fun Z=>Z.cell? ⟨g,i*6+1,none⟩=some (.slice na ns.length nc))) (E:=[11]) (by kernel_rfl) ?_ (fun hHeld hSh=>?_)
  ·exact c1
  refine tkO [(0,43),(1,44),(2,45),(3,46),(4,47),(5,48)] ?_
  repeat (refine tlY ?_ rfl (by rfl) ?_ (fun hSh2=>?_);rotate_left;(focus (intro wq hSw;(try dsimp only at hSw);first | (go_simp;done) | (go_simp;with_reducible rfl)));clear hSh;rename zaI _ _ _=>hSh;simp only [zP])
  refine tkZ ?_;refine Till.one (i:=6) (by kernel_rfl) rfl hSh (fun K hK=>?_);clear hSh;go_simp
  (go_at_call 30;refine (zad _ B a len cap 5 (by omega) (by omega) HC7.out.drew).mono ?_;rintro e w8 ⟨y8,rfl,hx0,hx1,hc8,hg8⟩;have HD8:Hid (Dk18 w8 L Q (some ⟨g,0,none⟩) vc4 n4 xs4 ts4 ep4 nw4 jr4):=(HD7.out.keep (zap w7 none) (by simp)).keep hg8 (fun k e=>by injection e with e;have:=HBL.out;omega);have HC8:Hid (Cur w8 B a len cap):=hc8;have HK8:Hid (Kp18 B L w3 w8):=Kp18.next (HK7.out.trans (zb2.of_grown (zap w7 none) (by simp))) hg8;clear hc8 hg8 c1;have htr:w8.ownsRow L 2 1 (.slice na ns.length nc) ns.length (zaY ns):=(by obtain ⟨hix,hxi⟩:=HTV.out;have h:=HD8.out.own.trees _ (List.getElem_mem hix);rw [hxi] at h;exact h);obtain ⟨v9,Y9,hr9,ho9,hg9⟩:=ze1 y8 htr HD8.out.ls (by have:=HTs.out.2;omega);obtain ⟨va9,vc9,rfl⟩:=zb4 ho9;have hr0:=HD8.out.own.row;rw [HXL.out] at hr0;have c1:=(hr0.cellAt (i*6+1) (by have:=HXL.out;omega)).trans HT.out.2.1;have d1:(w8.alloc (.cells #[.int .i64 y8] 2)).cell? ⟨g,i*6+1,none⟩=some (.slice na ns.length nc):=zka _ c1;have hrY:=hr0.kept hg9 (zba hr0 htr (by decide));have y1:=(hrY.cellAt (i*6+1) (by have:=HXL.out;omega)).trans HT.out.2.1;have yf:=hrY.frozenAt (i*6+1);have HO9:Hid (Y9.ownsRow L 2 1 (.slice va9 (ns.length+1) vc9) (ns.length+1) (zaY (ns++[y8]))∧w8.grownBy Y9 (Value.slice na ns.length nc).ownBlock):=⟨ho9,hg9⟩;clear hr0 hrY htr ho9 hg9;dsimp only)
  refine hK.out _ _ ?_ (fun hHeld hSh=>?_)
  ·exact c1
  clear hK K;refine Till.one (i:=7) (by kernel_rfl) rfl hSh (fun K hK=>?_);clear hSh;go_simp
  skip
  refine hK.out _ _ ?_ (fun hHeld hSh=>?_)
  ·exact d1
  clear hK K;refine Till.one (i:=8) (by kernel_rfl) rfl hSh (fun K hK=>?_);clear hSh;refine zcI (by rfl) (.tmp 47) (.tmp 50) 40 (by rfl) _ _ _ (by rfl) (by rfl) hr9 ?_;refine hK.out _ _ ?_ (fun hHeld hSh=>?_)
  ·exact y1
  clear hK K;refine Till.take (i:=9) (o:=⟨some 52,_,_,_,_,_⟩) (v:=?vel9) (d:=30) rfl (by kernel_rfl) (by kernel_rfl) (by kernel_rfl) (by kernel_rfl) (fun _ _ _ h=>h) (Or.inl ⟨by rfl,?hyel9⟩) (by assumption) hSh (fun hSh2=>?restel9)
  case hyel9=>(intro wq hSw;(try dsimp only at hSw);first | (go_simp;done) | (go_simp;with_reducible rfl))
  clear hSh;rename zaI _ _ _=>hSh
  simp only [Act.put,zA];refine Till.take (i:=10) (o:=⟨some 53,_,_,_,_,_⟩) (v:=?vel10) (d:=30) rfl (by kernel_rfl) (by kernel_rfl) (by kernel_rfl) (by kernel_rfl) (fun _ _ _ h=>h) (Or.inl ⟨by rfl,?hyel10⟩) (by assumption) hSh (fun hSh2=>?restel10)
  case hyel10=>(intro wq hSw;(try dsimp only at hSw);first | (go_simp;done) | (go_simp;with_reducible rfl))
  clear hSh;rename zaI _ _ _=>hSh
  simp only [Act.put];obtain ⟨Y,hY⟩:∃ Y,Y9.setCell ⟨g,i*6+1,none⟩ (.slice va9 (ns.length+1) vc9)=Y:=⟨_,rfl⟩
  refine Till.last (i:=11) (by kernel_rfl) rfl (by decide) (fun K hK=>?_);go_simp;refine hK.out _ _ ?_;clear hK K
  (try rw [hY])
  refine Till.done (by kernel_rfl) ?_ _;clear HD7 HC7 HK7;go_wp2
  obtain ⟨HF,hbY⟩:Hid (Fd18 Y L Q (some ⟨g,0,none⟩) vc4 n4 (xs4.set i ((nm,ns++[y8],st,wk,un,ke),va9,vc9)) (ts4.set i (nm,ns++[y8],st,wk,un,ke)) ep4 nw4 jr4)∧Below L w8 Y:=by obtain ⟨hix,hxi⟩:=HTV.out;exact HD8.out.need hix hxi HO9.out.1 HO9.out.2 hY (by omega) (zeI HSh.out i _ HTs.out.1 (by have:=HTs.out.2;simp only [List.length_append,List.length_cons,List.length_nil];omega)) hj8
  have HCf:Hid (Cur Y B a len cap):=HC8.out.belowL hbY HBL.out;have HKf:Hid (Kp18 B L w3 Y):=HK8.out.up hbY;clear hbY HD8 HC8 HK8;have hrx:=HR3.out Y HKf.out;have r0:=hrx.c0;have r1:=hrx.c1;have r2:=hrx.c2;have r3:=hrx.c3;have f0:=hrx.fr 0;have f1:=hrx.fr 1;have f2:=hrx.fr 2;have f3:=hrx.fr 3;have q0:=HF.out.b4.c0;have q1:=HF.out.b4.c1;have q2:=HF.out.b4.c2;have q3:=HF.out.b4.c3;obtain ⟨Xe,hXe,y0,y1,y2,y3,hge⟩:=set4 (.slice (some ⟨g,0,none⟩) n4 vc4) (.int .i64 ep4) (.int .i64 nw4) (.string ⟨jr4.toArray⟩) r0 r1 r2 r3;clear hrx;go_wp2;refine Till.region (S:=(fun Z=>Z.cell? ⟨Q,0,none⟩=some (.slice (some ⟨g,0,none⟩) n4 vc4)∧Z.cell? ⟨Q,1,none⟩=some (.int .i64 ep4)∧Z.cell? ⟨Q,2,none⟩=some (.int .i64 nw4)∧Z.cell? ⟨Q,3,none⟩=some (.string ⟨jr4.toArray⟩))) (E:=[3]) (by kernel_rfl) ?_ (fun hHeld hSh=>?_)
  ·exact ⟨q0,q1,q2,q3⟩
  refine tkO [(0,90),(1,91),(2,2)] ?_
  repeat (refine tlY ?_ rfl (by rfl) ?_ (fun hSh2=>?_);rotate_left;(focus (intro wq hSw;(try dsimp only at hSw);first | (go_simp;done) | (go_simp;with_reducible rfl)));clear hSh;rename zaI _ _ _=>hSh;simp only [zP])
  refine tkZ ?_;refine Till.last (i:=3) (by kernel_rfl) rfl (by decide) (fun K hK=>?_);go_simp;refine hK.out _ _ ?_;clear hK K
  (try rw [hXe])
  refine Till.done (by kernel_rfl) ?_ _;go_wp2;refine bodyPost_ret (v:=.tuple #[.slice (some ⟨gl,0,none⟩) yn lc,.agg #[.slice (some ⟨g,0,none⟩) n4 vc4,.int .i64 ep4,.int .i64 nw4,.string ⟨jr4.toArray⟩]]) (by simp [results,Tryz.results23,go_sem,y0,y1,y2,y3]) rfl ?_;obtain ⟨_,rfl,h⟩:=zdT HF.out HCf.out HKf.out hge HGr.out HAg.out HPk.out (by omega) HBD.out HL.out hD;exact ⟨_,rfl,h⟩
 ·
  skip
  have hba:Below w7.heap.size w7 (w7.alloc (.cells #[.int .i64 (-1),.int .i64 1000000,.int .i64 1000001] 2)):=(Below.refl _ _).alloc (Nat.le_refl _) _;have HD7b:Hid (Dk18 (w7.alloc (.cells #[.int .i64 (-1),.int .i64 1000000,.int .i64 1000001] 2)) L Q (some ⟨g,0,none⟩) vc4 n4 xs4 ts4 ep4 nw4 jr4):=HD7.out.below hba;have HC7b:Hid (Cur (w7.alloc (.cells #[.int .i64 (-1),.int .i64 1000000,.int .i64 1000001] 2)) B a len cap):=HC7.out.below hba;have HK7b:Hid (Kp18 B L w3 (w7.alloc (.cells #[.int .i64 (-1),.int .i64 1000000,.int .i64 1000001] 2))):=HK7.out.up (hba.mono HD7.out.ls);clear hba;go_wp2_with fail
  refine (zad _ B a len cap 3 (by omega) (by omega) HC7b.out).mono ?_;rintro e w8 ⟨x8,rfl,hx0,hx1,hc8,hg8⟩;obtain ⟨k8,rfl⟩:∃ k:Nat,x8=(k:Int):=Int.eq_ofNat_of_zero_le hx0
  have hk3:k8<3:=by omega
  obtain ⟨y8,hy8⟩:=zif (V:=w7) hg8 hk3 (by have:=HBL.out;have:=HD7.out.ls;omega);have HD8:Hid (Dk18 w8 L Q (some ⟨g,0,none⟩) vc4 n4 xs4 ts4 ep4 nw4 jr4):=HD7b.out.keep hg8 (fun k e=>by injection e with e;have:=HBL.out;omega);have HC8:Hid (Cur w8 B a len cap):=hc8;have HK8:Hid (Kp18 B L w3 w8):=HK7b.out.next hg8;clear hc8 hg8 HD7 HC7 HK7 HD7b HC7b HK7b hx0 hx1;have hr0:=HD8.out.own.row;rw [HXL.out] at hr0;have e0:=hr0.frozenAt (i*6+4);have c0:=(hr0.cellAt (i*6+4) (by have:=HXL.out;omega)).trans HT.out.2.2.2.2.1;clear hr0;obtain ⟨Y,hY⟩:∃ Y,w8.setCell ⟨g,i*6+4,none⟩ (.int .i64 y8)=Y:=⟨_,rfl⟩
  obtain ⟨HF,hgY⟩:Hid (Fd18 Y L Q (some ⟨g,0,none⟩) vc4 n4 (xs4.set i ((nm,ns,st,wk,y8,ke),na,nc)) (ts4.set i (nm,ns,st,wk,y8,ke)) ep4 nw4 jr4)∧w8.grownBy Y (some g):=by obtain ⟨hix,hxi⟩:=HTV.out;exact HD8.out.cell hix 4 _ ((nm,ns,st,wk,y8,ke),na,nc) hY (by rw [tksV_s4 xs4 i hix,hxi]) (by rw [hxi]) (by rw [hxi]) (by omega) (zeI HSh.out i _ HTs.out.1 (by have:=HTs.out.2;simp only;omega)) hj8
  have hbY:Below L w8 Y:=(Below.refl L w8).grown hgY HD8.out.ls (fun k e=>by injection e with e;subst e;exact (HD8.out.own.row.lt _ rfl).1);have HCf:Hid (Cur Y B a len cap):=HC8.out.belowL hbY HBL.out;have HKf:Hid (Kp18 B L w3 Y):=HK8.out.up hbY;clear hgY hbY HD8 HC8 HK8;have hrx:=HR3.out Y HKf.out;have r0:=hrx.c0;have r1:=hrx.c1;have r2:=hrx.c2;have r3:=hrx.c3;have f0:=hrx.fr 0;have f1:=hrx.fr 1;have f2:=hrx.fr 2;have f3:=hrx.fr 3;have q0:=HF.out.b4.c0;have q1:=HF.out.b4.c1;have q2:=HF.out.b4.c2;have q3:=HF.out.b4.c3;obtain ⟨Xe,hXe,y0,y1,y2,y3,hge⟩:=set4 (.slice (some ⟨g,0,none⟩) n4 vc4) (.int .i64 ep4) (.int .i64 nw4) (.string ⟨jr4.toArray⟩) r0 r1 r2 r3;clear hrx;go_wp2;refine Till.region (S:=(fun Z=>Z.cell? ⟨Q,0,none⟩=some (.slice (some ⟨g,0,none⟩) n4 vc4)∧Z.cell? ⟨Q,1,none⟩=some (.int .i64 ep4)∧Z.cell? ⟨Q,2,none⟩=some (.int .i64 nw4)∧Z.cell? ⟨Q,3,none⟩=some (.string ⟨jr4.toArray⟩))) (E:=[3]) (by kernel_rfl) ?_ (fun hHeld hSh=>?_)
  ·exact ⟨q0,q1,q2,q3⟩
  refine tkO [(0,90),(1,91),(2,2)] ?_
  repeat (refine tlY ?_ rfl (by rfl) ?_ (fun hSh2=>?_);rotate_left;(focus (intro wq hSw;(try dsimp only at hSw);first | (go_simp;done) | (go_simp;with_reducible rfl)));clear hSh;rename zaI _ _ _=>hSh;simp only [zP])
  refine tkZ ?_;refine Till.last (i:=3) (by kernel_rfl) rfl (by decide) (fun K hK=>?_);go_simp;refine hK.out _ _ ?_;clear hK K
  (try rw [hXe])
  refine Till.done (by kernel_rfl) ?_ _;go_wp2;refine bodyPost_ret (v:=.tuple #[.slice (some ⟨gl,0,none⟩) yn lc,.agg #[.slice (some ⟨g,0,none⟩) n4 vc4,.int .i64 ep4,.int .i64 nw4,.string ⟨jr4.toArray⟩]]) (by simp [results,Tryz.results23,go_sem,y0,y1,y2,y3]) rfl ?_;obtain ⟨_,rfl,h⟩:=zdT HF.out HCf.out HKf.out hge HGr.out HAg.out HPk.out (by omega) HBD.out HL.out hD;exact ⟨_,rfl,h⟩
 ·
  skip
  have hba:Below w7.heap.size w7 (w7.alloc (.cells #[.int .i64 0,.int .i64 1000,.int .i64 1001] 2)):=(Below.refl _ _).alloc (Nat.le_refl _) _;have HD7b:Hid (Dk18 (w7.alloc (.cells #[.int .i64 0,.int .i64 1000,.int .i64 1001] 2)) L Q (some ⟨g,0,none⟩) vc4 n4 xs4 ts4 ep4 nw4 jr4):=HD7.out.below hba;have HC7b:Hid (Cur (w7.alloc (.cells #[.int .i64 0,.int .i64 1000,.int .i64 1001] 2)) B a len cap):=HC7.out.below hba;have HK7b:Hid (Kp18 B L w3 (w7.alloc (.cells #[.int .i64 0,.int .i64 1000,.int .i64 1001] 2))):=HK7.out.up (hba.mono HD7.out.ls);clear hba;go_wp2_with fail
  refine (zad _ B a len cap 3 (by omega) (by omega) HC7b.out).mono ?_;rintro e w8 ⟨x8,rfl,hx0,hx1,hc8,hg8⟩;obtain ⟨k8,rfl⟩:∃ k:Nat,x8=(k:Int):=Int.eq_ofNat_of_zero_le hx0
  have hk3:k8<3:=by omega
  obtain ⟨y8,hy8⟩:=zif (V:=w7) hg8 hk3 (by have:=HBL.out;have:=HD7.out.ls;omega);have HD8:Hid (Dk18 w8 L Q (some ⟨g,0,none⟩) vc4 n4 xs4 ts4 ep4 nw4 jr4):=HD7b.out.keep hg8 (fun k e=>by injection e with e;have:=HBL.out;omega);have HC8:Hid (Cur w8 B a len cap):=hc8;have HK8:Hid (Kp18 B L w3 w8):=HK7b.out.next hg8;clear hc8 hg8 HD7 HC7 HK7 HD7b HC7b HK7b hx0 hx1;have q1:=HD8.out.b4.c1;have qf:=HD8.out.b4.fr 1;obtain ⟨Y,hY⟩:∃ Y,w8.setCell ⟨Q,1,none⟩ (.int .i64 y8)=Y:=⟨_,rfl⟩
  have hgY:w8.grownBy Y (some Q):=by rw [←hY];exact zae _ _ _ _
  have hoff:∀ v:Value,(∀ k,v.ownBlock=some k→k≠Q)→v.ownBlock=none∨v.ownBlock≠some Q:=fun v hv=>by
   rcases hk:v.ownBlock with _ | k
   ·exact Or.inl rfl
   ·exact Or.inr (fun e=>by injection e with e;exact hv k hk e)
  have HF:Hid (Fd18 Y L Q (some ⟨g,0,none⟩) vc4 n4 xs4 ts4 y8 nw4 jr4):=⟨by rw [←hY];exact HD8.out.b4.s1 _,HD8.out.own.kept hgY (hoff _ (fun k hk=>HD8.out.ne k (Or.inl hk))) (fun x hx=>hoff _ (fun k hk=>HD8.out.ne k (Or.inr ⟨x,hx,hk⟩))),HD8.out.eq,HD8.out.hn,by omega,HSh.out,hj8⟩;have hbY:Below L w8 Y:=(Below.refl L w8).grown hgY HD8.out.ls (fun k e=>by injection e with e;have:=HD8.out.q;omega);have HCf:Hid (Cur Y B a len cap):=HC8.out.belowL hbY HBL.out;have HKf:Hid (Kp18 B L w3 Y):=HK8.out.up hbY;clear hgY hbY hoff HD8 HC8 HK8;have hrx:=HR3.out Y HKf.out;have r0:=hrx.c0;have r1:=hrx.c1;have r2:=hrx.c2;have r3:=hrx.c3;have f0:=hrx.fr 0;have f1:=hrx.fr 1;have f2:=hrx.fr 2;have f3:=hrx.fr 3;have q0:=HF.out.b4.c0;have q1:=HF.out.b4.c1;have q2:=HF.out.b4.c2;have q3:=HF.out.b4.c3;obtain ⟨Xe,hXe,y0,y1,y2,y3,hge⟩:=set4 (.slice (some ⟨g,0,none⟩) n4 vc4) (.int .i64 y8) (.int .i64 nw4) (.string ⟨jr4.toArray⟩) r0 r1 r2 r3;clear hrx;go_wp2;refine Till.region (S:=(fun Z=>Z.cell? ⟨Q,0,none⟩=some (.slice (some ⟨g,0,none⟩) n4 vc4)∧Z.cell? ⟨Q,1,none⟩=some (.int .i64 y8)∧Z.cell? ⟨Q,2,none⟩=some (.int .i64 nw4)∧Z.cell? ⟨Q,3,none⟩=some (.string ⟨jr4.toArray⟩))) (E:=[3]) (by kernel_rfl) ?_ (fun hHeld hSh=>?_)
  ·exact ⟨q0,q1,q2,q3⟩
  refine tkO [(0,90),(1,91),(2,2)] ?_
  repeat (refine tlY ?_ rfl (by rfl) ?_ (fun hSh2=>?_);rotate_left;(focus (intro wq hSw;(try dsimp only at hSw);first | (go_simp;done) | (go_simp;with_reducible rfl)));clear hSh;rename zaI _ _ _=>hSh;simp only [zP])
  refine tkZ ?_;refine Till.last (i:=3) (by kernel_rfl) rfl (by decide) (fun K hK=>?_);go_simp;refine hK.out _ _ ?_;clear hK K
  (try rw [hXe])
  refine Till.done (by kernel_rfl) ?_ _;go_wp2;refine bodyPost_ret (v:=.tuple #[.slice (some ⟨gl,0,none⟩) yn lc,.agg #[.slice (some ⟨g,0,none⟩) n4 vc4,.int .i64 y8,.int .i64 nw4,.string ⟨jr4.toArray⟩]]) (by simp [results,Tryz.results23,go_sem,y0,y1,y2,y3]) rfl ?_;obtain ⟨_,rfl,h⟩:=zdT HF.out HCf.out HKf.out hge HGr.out HAg.out HPk.out (by omega) HBD.out HL.out hD;exact ⟨_,rfl,h⟩
 ·
  skip
  have hba:Below w7.heap.size w7 (w7.alloc (.cells #[.int .i64 (-1),.int .i64 1000000,.int .i64 1000001] 2)):=(Below.refl _ _).alloc (Nat.le_refl _) _;have HD7b:Hid (Dk18 (w7.alloc (.cells #[.int .i64 (-1),.int .i64 1000000,.int .i64 1000001] 2)) L Q (some ⟨g,0,none⟩) vc4 n4 xs4 ts4 ep4 nw4 jr4):=HD7.out.below hba;have HC7b:Hid (Cur (w7.alloc (.cells #[.int .i64 (-1),.int .i64 1000000,.int .i64 1000001] 2)) B a len cap):=HC7.out.below hba;have HK7b:Hid (Kp18 B L w3 (w7.alloc (.cells #[.int .i64 (-1),.int .i64 1000000,.int .i64 1000001] 2))):=HK7.out.up (hba.mono HD7.out.ls);clear hba;go_wp2_with fail
  refine (zad _ B a len cap 3 (by omega) (by omega) HC7b.out).mono ?_;rintro e w8 ⟨x8,rfl,hx0,hx1,hc8,hg8⟩;obtain ⟨k8,rfl⟩:∃ k:Nat,x8=(k:Int):=Int.eq_ofNat_of_zero_le hx0
  have hk3:k8<3:=by omega
  obtain ⟨y8,hy8⟩:=zif (V:=w7) hg8 hk3 (by have:=HBL.out;have:=HD7.out.ls;omega);have HD8:Hid (Dk18 w8 L Q (some ⟨g,0,none⟩) vc4 n4 xs4 ts4 ep4 nw4 jr4):=HD7b.out.keep hg8 (fun k e=>by injection e with e;have:=HBL.out;omega);have HC8:Hid (Cur w8 B a len cap):=hc8;have HK8:Hid (Kp18 B L w3 w8):=HK7b.out.next hg8;clear hc8 hg8 HD7 HC7 HK7 HD7b HC7b HK7b hx0 hx1;have q1:=HD8.out.b4.c2;have qf:=HD8.out.b4.fr 2;obtain ⟨Y,hY⟩:∃ Y,w8.setCell ⟨Q,2,none⟩ (.int .i64 y8)=Y:=⟨_,rfl⟩
  have hgY:w8.grownBy Y (some Q):=by rw [←hY];exact zae _ _ _ _
  have hoff:∀ v:Value,(∀ k,v.ownBlock=some k→k≠Q)→v.ownBlock=none∨v.ownBlock≠some Q:=fun v hv=>by
   rcases hk:v.ownBlock with _ | k
   ·exact Or.inl rfl
   ·exact Or.inr (fun e=>by injection e with e;exact hv k hk e)
  have HF:Hid (Fd18 Y L Q (some ⟨g,0,none⟩) vc4 n4 xs4 ts4 ep4 y8 jr4):=⟨by rw [←hY];exact HD8.out.b4.s2 _,HD8.out.own.kept hgY (hoff _ (fun k hk=>HD8.out.ne k (Or.inl hk))) (fun x hx=>hoff _ (fun k hk=>HD8.out.ne k (Or.inr ⟨x,hx,hk⟩))),HD8.out.eq,HD8.out.hn,by omega,HSh.out,hj8⟩;have hbY:Below L w8 Y:=(Below.refl L w8).grown hgY HD8.out.ls (fun k e=>by injection e with e;have:=HD8.out.q;omega);have HCf:Hid (Cur Y B a len cap):=HC8.out.belowL hbY HBL.out;have HKf:Hid (Kp18 B L w3 Y):=HK8.out.up hbY;clear hgY hbY hoff HD8 HC8 HK8;have hrx:=HR3.out Y HKf.out;have r0:=hrx.c0;have r1:=hrx.c1;have r2:=hrx.c2;have r3:=hrx.c3;have f0:=hrx.fr 0;have f1:=hrx.fr 1;have f2:=hrx.fr 2;have f3:=hrx.fr 3;have q0:=HF.out.b4.c0;have q1:=HF.out.b4.c1;have q2:=HF.out.b4.c2;have q3:=HF.out.b4.c3;obtain ⟨Xe,hXe,y0,y1,y2,y3,hge⟩:=set4 (.slice (some ⟨g,0,none⟩) n4 vc4) (.int .i64 ep4) (.int .i64 y8) (.string ⟨jr4.toArray⟩) r0 r1 r2 r3;clear hrx;go_wp2;refine Till.region (S:=(fun Z=>Z.cell? ⟨Q,0,none⟩=some (.slice (some ⟨g,0,none⟩) n4 vc4)∧Z.cell? ⟨Q,1,none⟩=some (.int .i64 ep4)∧Z.cell? ⟨Q,2,none⟩=some (.int .i64 y8)∧Z.cell? ⟨Q,3,none⟩=some (.string ⟨jr4.toArray⟩))) (E:=[3]) (by kernel_rfl) ?_ (fun hHeld hSh=>?_)
  ·exact ⟨q0,q1,q2,q3⟩
  refine tkO [(0,90),(1,91),(2,2)] ?_
  repeat (refine tlY ?_ rfl (by rfl) ?_ (fun hSh2=>?_);rotate_left;(focus (intro wq hSw;(try dsimp only at hSw);first | (go_simp;done) | (go_simp;with_reducible rfl)));clear hSh;rename zaI _ _ _=>hSh;simp only [zP])
  refine tkZ ?_;refine Till.last (i:=3) (by kernel_rfl) rfl (by decide) (fun K hK=>?_);go_simp;refine hK.out _ _ ?_;clear hK K
  (try rw [hXe])
  refine Till.done (by kernel_rfl) ?_ _;go_wp2;refine bodyPost_ret (v:=.tuple #[.slice (some ⟨gl,0,none⟩) yn lc,.agg #[.slice (some ⟨g,0,none⟩) n4 vc4,.int .i64 ep4,.int .i64 y8,.string ⟨jr4.toArray⟩]]) (by simp [results,Tryz.results23,go_sem,y0,y1,y2,y3]) rfl ?_;obtain ⟨_,rfl,h⟩:=zdT HF.out HCf.out HKf.out hge HGr.out HAg.out HPk.out (by omega) HBD.out HL.out hD;exact ⟨_,rfl,h⟩
 ·
  skip
  have hba:Below w7.heap.size w7 (w7.alloc (.cells #[.string ⟨#[]⟩,.string ⟨#[109,97,105,110]⟩,.string ⟨#[122,122]⟩] 9)):=(Below.refl _ _).alloc (Nat.le_refl _) _;have HD7b:Hid (Dk18 (w7.alloc (.cells #[.string ⟨#[]⟩,.string ⟨#[109,97,105,110]⟩,.string ⟨#[122,122]⟩] 9)) L Q (some ⟨g,0,none⟩) vc4 n4 xs4 ts4 ep4 nw4 jr4):=HD7.out.below hba;have HC7b:Hid (Cur (w7.alloc (.cells #[.string ⟨#[]⟩,.string ⟨#[109,97,105,110]⟩,.string ⟨#[122,122]⟩] 9)) B a len cap):=HC7.out.below hba;have HK7b:Hid (Kp18 B L w3 (w7.alloc (.cells #[.string ⟨#[]⟩,.string ⟨#[109,97,105,110]⟩,.string ⟨#[122,122]⟩] 9))):=HK7.out.up (hba.mono HD7.out.ls);clear hba;go_wp2_with fail
  refine (zad _ B a len cap 3 (by omega) (by omega) HC7b.out).mono ?_;rintro e w8 ⟨x8,rfl,hx0,hx1,hc8,hg8⟩;obtain ⟨k8,rfl⟩:∃ k:Nat,x8=(k:Int):=Int.eq_ofNat_of_zero_le hx0
  have hk3:k8<3:=by omega
  obtain ⟨y8,hyl,hy8⟩:=row3_nm (V:=w7) hg8 hk3 (by have:=HBL.out;have:=HD7.out.ls;omega);have HD8:Hid (Dk18 w8 L Q (some ⟨g,0,none⟩) vc4 n4 xs4 ts4 ep4 nw4 jr4):=HD7b.out.keep hg8 (fun k e=>by injection e with e;have:=HBL.out;omega);have HC8:Hid (Cur w8 B a len cap):=hc8;have HK8:Hid (Kp18 B L w3 w8):=HK7b.out.next hg8;clear hc8 hg8 HD7 HC7 HK7 HD7b HC7b HK7b hx0 hx1;have hr0:=HD8.out.own.row;rw [HXL.out] at hr0;have e0:=hr0.frozenAt (i*6);have c0:=(hr0.cellAt (i*6) (by have:=HXL.out;omega)).trans HT.out.1;clear hr0;obtain ⟨Y,hY⟩:∃ Y,w8.setCell ⟨g,i*6,none⟩ (.string ⟨y8.toArray⟩)=Y:=⟨_,rfl⟩
  obtain ⟨HF,hgY⟩:Hid (Fd18 Y L Q (some ⟨g,0,none⟩) vc4 n4 (xs4.set i ((y8,ns,st,wk,un,ke),na,nc)) (ts4.set i (y8,ns,st,wk,un,ke)) ep4 nw4 jr4)∧w8.grownBy Y (some g):=by obtain ⟨hix,hxi⟩:=HTV.out;exact HD8.out.cell hix 0 _ ((y8,ns,st,wk,un,ke),na,nc) (by simpa using hY) (by rw [show i*6+0=i*6 from rfl,tksV_s0 xs4 i hix,hxi]) (by rw [hxi]) (by rw [hxi]) (by omega) (zeI HSh.out i _ (by simp only;omega) (by have:=HTs.out.2;simp only;omega)) hj8
  have hbY:Below L w8 Y:=(Below.refl L w8).grown hgY HD8.out.ls (fun k e=>by injection e with e;subst e;exact (HD8.out.own.row.lt _ rfl).1);have HCf:Hid (Cur Y B a len cap):=HC8.out.belowL hbY HBL.out;have HKf:Hid (Kp18 B L w3 Y):=HK8.out.up hbY;clear hgY hbY HD8 HC8 HK8;have hrx:=HR3.out Y HKf.out;have r0:=hrx.c0;have r1:=hrx.c1;have r2:=hrx.c2;have r3:=hrx.c3;have f0:=hrx.fr 0;have f1:=hrx.fr 1;have f2:=hrx.fr 2;have f3:=hrx.fr 3;have q0:=HF.out.b4.c0;have q1:=HF.out.b4.c1;have q2:=HF.out.b4.c2;have q3:=HF.out.b4.c3;obtain ⟨Xe,hXe,y0,y1,y2,y3,hge⟩:=set4 (.slice (some ⟨g,0,none⟩) n4 vc4) (.int .i64 ep4) (.int .i64 nw4) (.string ⟨jr4.toArray⟩) r0 r1 r2 r3;clear hrx;go_wp2;refine Till.region (S:=(fun Z=>Z.cell? ⟨Q,0,none⟩=some (.slice (some ⟨g,0,none⟩) n4 vc4)∧Z.cell? ⟨Q,1,none⟩=some (.int .i64 ep4)∧Z.cell? ⟨Q,2,none⟩=some (.int .i64 nw4)∧Z.cell? ⟨Q,3,none⟩=some (.string ⟨jr4.toArray⟩))) (E:=[3]) (by kernel_rfl) ?_ (fun hHeld hSh=>?_)
  ·exact ⟨q0,q1,q2,q3⟩
  refine tkO [(0,90),(1,91),(2,2)] ?_
  repeat (refine tlY ?_ rfl (by rfl) ?_ (fun hSh2=>?_);rotate_left;(focus (intro wq hSw;(try dsimp only at hSw);first | (go_simp;done) | (go_simp;with_reducible rfl)));clear hSh;rename zaI _ _ _=>hSh;simp only [zP])
  refine tkZ ?_;refine Till.last (i:=3) (by kernel_rfl) rfl (by decide) (fun K hK=>?_);go_simp;refine hK.out _ _ ?_;clear hK K
  (try rw [hXe])
  refine Till.done (by kernel_rfl) ?_ _;go_wp2;refine bodyPost_ret (v:=.tuple #[.slice (some ⟨gl,0,none⟩) yn lc,.agg #[.slice (some ⟨g,0,none⟩) n4 vc4,.int .i64 ep4,.int .i64 nw4,.string ⟨jr4.toArray⟩]]) (by simp [results,Tryz.results23,go_sem,y0,y1,y2,y3]) rfl ?_;obtain ⟨_,rfl,h⟩:=zdT HF.out HCf.out HKf.out hge HGr.out HAg.out HPk.out (by omega) HBD.out HL.out hD;exact ⟨_,rfl,h⟩
end Go.Proofs.YtponeoijfaepnaaGreatDoor
