/-
  Parts of one proof, one behind the other: FltN, ReaI, ProjI, PrtI.
-/
import Derived.Test.YtponeoijfaepnaaGreatDoorP37
namespace Go.Proofs.YtponeoijfaepnaaGreatDoor
open Go.RowKit
set_option maxHeartbeats 8000000
set_option maxRecDepth 100000
def zml (F:Flt):Prop:=F.2.1.length≤1048576∧F.2.2.length≤1048576
theorem zgP {ps:List Pk} {p:Pk} (hp:p.1.length≤1048576):∀ (fs:List Fn) (k:Nat),(∀ f∈fs,f.1.length≤1048576)→∀ F,zcV ps p fs k=some F→zml F
 | [],_,_,F,h=>by simp [zcV] at h
 | f :: r,k,hf,F,h=>by
  rw [zcV] at h
  split at h
  ·injection h with h;subst h;exact ⟨hp,hf f List.mem_cons_self⟩
  ·exact zgP hp r (k+1) (fun q hq=>hf q (List.mem_cons_of_mem _ hq)) F h
theorem zo9 {ps:List Pk} (hs:zby ps) {dn i j:Nat} {F:Flt} (h:pk9 ps dn i (ps.getD j pk0)=some F):zml F:=by
 have hj:=hs j;unfold pk9 at h
 split at h
 ·injection h with h;subst h;exact ⟨hj.1,by simp⟩
 ·
  split at h
  ·injection h with h;subst h;exact ⟨hj.1,by simp⟩
  ·
   have hfs:=hj.2.2.2.2;refine zgP hj.1 _ 0 (fun f hf=>?_) F h;generalize (ps.getD j pk0).2.2=fs at hf hfs;obtain ⟨q,hq,e⟩:=List.mem_iff_getElem.1 hf;have h1:=(hfs q).1;have e1:fs.getD q fn0=fs[q]:=by simp [List.getD,hq]
   rw [e1,e] at h1;exact h1
theorem zgQ {ps:List Pk} (hs:zby ps) {dn:Nat}:∀ (l:List (List UInt8)) (i:Nat) (F:Flt),zc5 ps dn l i=some F→zml F
 | [],_,F,h=>by simp [zc5] at h
 | x :: r,i,F,h=>by
  rw [zc5] at h;cases hp:pk9 ps dn i (pkOf ps x) with
  | none=>rw [hp] at h;exact zgQ hs r (i+1) F h
  | some G =>
   rw [hp] at h;injection h with h;subst h;exact zo9 (j:=(at8 ps x).toNat) hs hp
theorem zlo {ps:List Pk} (hs:zby ps):zml (zaS ps):=by
 unfold zaS
 split
 ·
  unfold zaT
  split
  ·rename_i f hf;exact zgQ hs _ _ f hf
  ·
   unfold zcm
   split
   ·exact ⟨by simp,by simp⟩
   ·exact ⟨by simp [za6],by simp [za6]⟩
 ·exact ⟨by simp,by simp⟩
structure Bx (Z:World) (k:Nat) (a b c:Value):Prop where
 box:Box3 Z k a b c
 fr:∀ j,Z.frozen? ⟨k,j,none⟩=false
theorem Bx.new (w:World) (a b c:Value) (t:TypeId):Bx (w.alloc (.cells #[a,b,c] t)) w.heap.size a b c∧Below w.heap.size w (w.alloc (.cells #[a,b,c] t)):=by
 obtain ⟨h1,h2⟩:=Box3.new w a b c t;exact ⟨⟨h1,fun j=>World.frozen?_alloc_at _ _ _ _ rfl⟩,h2⟩
theorem Bx.below {Z Y:World} {k:Nat} {a b c:Value} (h:Bx Z k a b c) (hb:Below Z.heap.size Z Y):Bx Y k a b c:=⟨h.box.below hb,fun j=>(hb.frozen (p:=⟨k,j,none⟩) h.box.lt).trans (h.fr j)⟩
theorem Bx.keep {Z Y:World} {k:Nat} {a b c:Value} (h:Bx Z k a b c) (e:Y.heap[k]?=Z.heap[k]?):Bx Y k a b c:=⟨h.box.keep e,fun j=>by have:=h.fr j;simp only [World.frozen?] at this ⊢;rw [e];exact this⟩
theorem Bx.row {Z:World} {k T:Nat} {a b c:Value} (h:Bx Z k a b c) (hk:k≠T) (cs:Array Value):Bx (Z.setRow T cs) k a b c:=h.keep (setRow_other Z T k cs hk)
theorem Bx.far {Z:World} {k g o:Nat} {a b c:Value} (h:Bx Z k a b c) (hk:g≠k) (v:Value):Bx (Z.setCell ⟨g,o,none⟩ v) k a b c :=
 ⟨⟨(World.cell?_setCell_far Z ⟨g,o,none⟩ ⟨k,0,none⟩ v hk).trans h.box.c0,(World.cell?_setCell_far Z ⟨g,o,none⟩ ⟨k,1,none⟩ v hk).trans h.box.c1,(World.cell?_setCell_far Z ⟨g,o,none⟩ ⟨k,2,none⟩ v hk).trans h.box.c2⟩,fun j=>by simpa using h.fr j⟩
theorem Bx.s1 {Z:World} {k:Nat} {a b c:Value} (h:Bx Z k a b c) (v:Value):Bx (Z.setCell ⟨k,1,none⟩ v) k a v c :=
 ⟨⟨(World.cell?_setCell_other _ _ _ _ (by simp)).trans h.box.c0,World.cell?_setCell_same _ _ _ h.box.c1,(World.cell?_setCell_other _ _ _ _ (by simp)).trans h.box.c2⟩,fun j=>by simpa using h.fr j⟩
theorem Bx.s2 {Z:World} {k:Nat} {a b c:Value} (h:Bx Z k a b c) (v:Value):Bx (Z.setCell ⟨k,2,none⟩ v) k a b v :=
 ⟨⟨(World.cell?_setCell_other _ _ _ _ (by simp)).trans h.box.c0,(World.cell?_setCell_other _ _ _ _ (by simp)).trans h.box.c1,World.cell?_setCell_same _ _ _ h.box.c2⟩,fun j=>by simpa using h.fr j⟩
theorem Bx.f {Z:World} {k:Nat} (h:Bx Z k (.int .i64 0) (.string ⟨#[]⟩) (.string ⟨#[]⟩)):FBox Z k:=⟨h.box,h.fr⟩
theorem zla (a:Option Addr) (len cap:Nat) (ps:List Pk) (er:Nat→Addr) (w:World) (hE:Err8 w er) (h:zab w a len cap ps) :
 Calls Tryz.prog 114 #[.slice a len cap] w fun e w'=>e=.returned (zb8 (zaS ps))∧Below w.heap.size w w':=by
 obtain ⟨hs1,hs2⟩:=zlo h.short;obtain ⟨bD,hb0⟩:=Bx.new w (.int .i64 0) (.string ⟨#[]⟩) (.string ⟨#[]⟩) 95;obtain ⟨W0,hW0⟩:∃ W0,w.alloc (.cells #[.int .i64 0,.string ⟨#[]⟩,.string ⟨#[]⟩] 95)=W0:=⟨_,rfl⟩
 obtain ⟨D,hD⟩:∃ D,w.heap.size=D:=⟨_,rfl⟩
 rw [hW0] at bD hb0;rw [hD] at bD hb0;have hDw:w.heap.size≤D:=Nat.le_of_eq hD;have HPr:Hid (_):=zg6 a len cap ps er W0 (hE.below (by rw [hD];exact hb0)) (h.below (by rw [hD];exact hb0));have HEr:Hid (Err8 W0 er):=hE.below (by rw [hD];exact hb0);have hsz:D<W0.heap.size:=bD.box.lt;have HB0:Hid (Below D w W0):=hb0;have HD:Hid (Bx W0 D (.int .i64 0) (.string ⟨#[]⟩) (.string ⟨#[]⟩)):=bD;obtain ⟨F,hF⟩:∃ F,zaS ps=F:=⟨_,rfl⟩
 rw [hF] at HPr hs1 hs2 ⊢;clear bD hb0 hE h hF
 go_enter Tryz.func114,Tryz.ntmps114
 go_wp2_with fail
 refine Calls.mono HPr.out ?_;rintro e w1 ⟨v,rfl,hv,hb1⟩;have bD:=HD.out.below hb1;have HE1:Hid (Err8 w1 er):=HEr.out.below hb1;have hB1:Below D w w1:=HB0.out.trans (hb1.mono (Nat.le_of_lt hsz));have hs1w:D<w1.heap.size:=bD.box.lt;clear HPr HEr HB0 HD hb1;rcases hv with ⟨rfl,rfl⟩ | ⟨rfl,rfl⟩ | ⟨c,p,g,k,rfl,hk,rfl⟩
 ·obtain ⟨Y,hY,y0,y1,y2,hbY⟩:=bD.f.put (w:=w) (by rw [hD];exact hB1) hDw (0,[],[]);simp only at hY y0 y1 y2;have f0:=bD.fr 0;have f1:=bD.fr 1;have f2:=bD.fr 2;have d0:=bD.box.c0;have d1:=bD.box.c1;have d2:=bD.box.c2;clear bD hB1;go_wp2;refine bodyPost_ret (v:=zb8 (0,[],[])) (by unfold zb8;simp [results,Tryz.results114,go_sem,y0,y1,y2]) rfl ?_;exact ⟨rfl,hbY⟩
 ·
  go_wp2_with fail
  refine Calls.mono (zk5 er _ HE1.out) ?_;rintro e w2 ⟨rfl,hb2⟩;have bD2:=bD.below hb2;have hB2:Below D w w2:=hB1.trans (hb2.mono (Nat.le_of_lt hs1w));obtain ⟨E,hEe⟩:∃ E,w2.heap.size=E:=⟨_,rfl⟩
  have hDE:D<E:=by rw [←hEe];exact bD2.box.lt
  obtain ⟨bE,hbE⟩:=Bx.new w2 (.int .i64 6) (.string ⟨#[]⟩) (.string ⟨#[]⟩) 95;obtain ⟨bT,hbT⟩:=Bx.new (w2.alloc (.cells #[.int .i64 6,.string ⟨#[]⟩,.string ⟨#[]⟩] 95)) (.string ⟨#[]⟩) (.string ⟨#[]⟩) .nilIface 160;have hT:=heap_alloc_new (w2.alloc (.cells #[.int .i64 6,.string ⟨#[]⟩,.string ⟨#[]⟩] 95)) (.cells #[.string ⟨#[]⟩,.string ⟨#[]⟩,.nilIface] 160);have hsz1:(w2.alloc (.cells #[.int .i64 6,.string ⟨#[]⟩,.string ⟨#[]⟩] 95)).heap.size=E+1:=by rw [←hEe];simp
  rw [hEe] at bE;rw [hsz1] at bT hT;have bE2:=bE.below hbT;have bD4:=(bD2.below hbE).below hbT;have HE4:Hid (Err8 ((w2.alloc (.cells #[.int .i64 6,.string ⟨#[]⟩,.string ⟨#[]⟩] 95)).alloc (.cells #[.string ⟨#[]⟩,.string ⟨#[]⟩,.nilIface] 160)) er):=((HE1.out.below hb2).below hbE).below hbT;have hB4:Below D w ((w2.alloc (.cells #[.int .i64 6,.string ⟨#[]⟩,.string ⟨#[]⟩] 95)).alloc (.cells #[.string ⟨#[]⟩,.string ⟨#[]⟩,.nilIface] 160)):=(hB2.trans (hbE.mono (by omega))).trans (hbT.mono (by rw [hsz1];omega));have hsz4:D<((w2.alloc (.cells #[.int .i64 6,.string ⟨#[]⟩,.string ⟨#[]⟩] 95)).alloc (.cells #[.string ⟨#[]⟩,.string ⟨#[]⟩,.nilIface] 160)).heap.size:=bD4.box.lt;have gE:=HE4.out.ety;have HAs:Hid (_):=as_miss (er 0) ⟨E+1,0,none⟩ _ gE;clear bD bD2 bE bT hT hbE hbT hB1 hB2 hb2 HE1;go_wp2_with fail
  refine Calls.mono HAs.out ?_;rintro e w3 ⟨rfl,hb3⟩;have bE3:=bE2.below hb3;have bD3:=bD4.below hb3;have hB3:Below D w w3:=hB4.trans (hb3.mono (Nat.le_of_lt hsz4));obtain ⟨Y,hY,y0,y1,y2,hbY⟩:=bD3.f.put (w:=w) (by rw [hD];exact hB3) hDw (6,[],[]);simp only at hY y0 y1 y2;have f0:=bD3.fr 0;have f1:=bD3.fr 1;have f2:=bD3.fr 2;have d0:=bD3.box.c0;have d1:=bD3.box.c1;have d2:=bD3.box.c2;have e0:=bE3.box.c0;have e1:=bE3.box.c1;have e2:=bE3.box.c2;clear bE2 bE3 bD4 bD3 hB3 hB4 hb3 gE HE4 HAs;go_wp2;refine bodyPost_ret (v:=zb8 (6,[],[])) (by unfold zb8;simp [results,Tryz.results114,go_sem,y0,y1,y2]) rfl ?_;exact ⟨rfl,hbY⟩
 ·
  have HC:Hid (_):=zgM c k hk p g er w1 HE1.out;clear hk;go_wp2_with fail
  refine Calls.mono HC.out ?_;rintro e w2 ⟨rfl,hb2⟩;have bD2:=bD.below hb2;have hB2:Below D w w2:=hB1.trans (hb2.mono (Nat.le_of_lt hs1w));obtain ⟨E,hEe⟩:∃ E,w2.heap.size=E:=⟨_,rfl⟩
  have hDE:D<E:=by rw [←hEe];exact bD2.box.lt
  obtain ⟨bE,hbE⟩:=Bx.new w2 (.int .i64 c) (.string ⟨#[]⟩) (.string ⟨#[]⟩) 95;obtain ⟨bT,hbT⟩:=Bx.new (w2.alloc (.cells #[.int .i64 c,.string ⟨#[]⟩,.string ⟨#[]⟩] 95)) (.string ⟨#[]⟩) (.string ⟨#[]⟩) .nilIface 160;have hT:=heap_alloc_new (w2.alloc (.cells #[.int .i64 c,.string ⟨#[]⟩,.string ⟨#[]⟩] 95)) (.cells #[.string ⟨#[]⟩,.string ⟨#[]⟩,.nilIface] 160);have hsz1:(w2.alloc (.cells #[.int .i64 c,.string ⟨#[]⟩,.string ⟨#[]⟩] 95)).heap.size=E+1:=by rw [←hEe];simp
  rw [hEe] at bE;rw [hsz1] at bT hT;have bE2:=bE.below hbT;have bD4:=(bD2.below hbE).below hbT;have HE4:Hid (Err8 ((w2.alloc (.cells #[.int .i64 c,.string ⟨#[]⟩,.string ⟨#[]⟩] 95)).alloc (.cells #[.string ⟨#[]⟩,.string ⟨#[]⟩,.nilIface] 160)) er):=((HE1.out.below hb2).below hbE).below hbT;have hB4:Below D w ((w2.alloc (.cells #[.int .i64 c,.string ⟨#[]⟩,.string ⟨#[]⟩] 95)).alloc (.cells #[.string ⟨#[]⟩,.string ⟨#[]⟩,.nilIface] 160)):=(hB2.trans (hbE.mono (by omega))).trans (hbT.mono (by rw [hsz1];omega));have hsz4:D<((w2.alloc (.cells #[.int .i64 c,.string ⟨#[]⟩,.string ⟨#[]⟩] 95)).alloc (.cells #[.string ⟨#[]⟩,.string ⟨#[]⟩,.nilIface] 160)).heap.size:=bD4.box.lt;have gE:=HE4.out.ety;have HAs:Hid (_):=as_hit p g (er k) (E+1) 160 _ _ hT rfl gE;clear bD bD2 bE bT hT hbE hbT hB1 hB2 hb2 HE1 HC;go_wp2_with fail
  refine Calls.mono HAs.out ?_;rintro e w3 ⟨rfl,w0,hb3,ho0,hw3⟩;have bE3:=(bE2.below hb3).row (T:=E+1) (by omega) #[.string ⟨p.toArray⟩,.string ⟨g.toArray⟩,.iface 258 (.pointer (some (er k)))];have bD3:=(bD4.below hb3).row (T:=E+1) (by omega) #[.string ⟨p.toArray⟩,.string ⟨g.toArray⟩,.iface 258 (.pointer (some (er k)))];have hT3:=setRow_heap w0 (E+1) _ #[.string ⟨p.toArray⟩,.string ⟨g.toArray⟩,.iface 258 (.pointer (some (er k)))] _ _ ho0;have hB3:Below D w (w0.setRow (E+1) #[.string ⟨p.toArray⟩,.string ⟨g.toArray⟩,.iface 258 (.pointer (some (er k)))]):=below_setRow (hB4.trans (hb3.mono (Nat.le_of_lt hsz4))) (by omega) _;rw [←hw3] at bE3 bD3 hT3 hB3;have t0:w3.cell? ⟨E+1,0,none⟩=some (.string ⟨p.toArray⟩):=by simp [World.cell?,hT3]
  have t1:w3.cell? ⟨E+1,1,none⟩=some (.string ⟨g.toArray⟩):=by simp [World.cell?,hT3]
  have hs3:D<w3.heap.size:=bD3.box.lt;have hTl:E+1<w3.heap.size:=World.block_lt_of_cell? w3 ⟨E+1,0,none⟩ t0;clear hw3 ho0 hT3 bE2 bD4 hB4 gE HE4 HAs hb3 hsz4;clear w0;go_wp2_with fail
  refine Calls.mono (zbc p _ hs1) ?_;rintro e w4 ⟨rfl,hb4⟩;have bE4:=bE3.below hb4;have bD5:=(bD3.below hb4).far (g:=E) (o:=1) (by omega) (.string ⟨p.toArray⟩);have t14:=(World.cell?_setCell_far w4 ⟨E,1,none⟩ ⟨E+1,1,none⟩ (.string ⟨p.toArray⟩) (by simp)).trans ((hb4.cell (p:=⟨E+1,1,none⟩) hTl).trans t1);have hB4:Below D w w4:=hB3.trans (hb4.mono (Nat.le_of_lt hs3));have bE5:=bE4.s1 (.string ⟨p.toArray⟩);have hB5:Below D w (w4.setCell ⟨E,1,none⟩ (.string ⟨p.toArray⟩)):=hB4.grown (zae w4 E 1 _) (by rw [←hD];exact hB4.size) (fun q e=>by injection e with e;have e2:E=q:=e;omega);have fE1:=bE4.fr 1;have e14:=bE4.box.c1;obtain ⟨Y1,hY1⟩:∃ Y1,w4.setCell ⟨E,1,none⟩ (.string ⟨p.toArray⟩)=Y1:=⟨_,rfl⟩
  rw [hY1] at bD5 t14 bE5 hB5;have hs5:D<Y1.heap.size:=bD5.box.lt;clear bE4 bE3 bD3 hB3 hB4 t0 t1 hb4;go_wp2_with fail
  refine Calls.mono (zbc g _ hs2) ?_;rintro e w5 ⟨rfl,hb5⟩;have bE6:=bE5.below hb5;have bD7:=(bD5.below hb5).far (g:=E) (o:=2) (by omega) (.string ⟨g.toArray⟩);have hB6:Below D w w5:=hB5.trans (hb5.mono (Nat.le_of_lt hs5));have bE7:=bE6.s2 (.string ⟨g.toArray⟩);have hB7:Below D w (w5.setCell ⟨E,2,none⟩ (.string ⟨g.toArray⟩)):=hB6.grown (zae w5 E 2 _) (by rw [←hD];exact hB6.size) (fun q e=>by injection e with e;have e2:E=q:=e;omega);have fE2:=bE6.fr 2;have e26:=bE6.box.c2;obtain ⟨Y2,hY2⟩:∃ Y2,w5.setCell ⟨E,2,none⟩ (.string ⟨g.toArray⟩)=Y2:=⟨_,rfl⟩
  rw [hY2] at bD7 bE7 hB7;obtain ⟨Y,hY,y0,y1,y2,hbY⟩:=bD7.f.put (w:=w) (by rw [hD];exact hB7) hDw (c,p,g);simp only at hY y0 y1 y2;have f0:=bD7.fr 0;have f1:=bD7.fr 1;have f2:=bD7.fr 2;have d0:=bD7.box.c0;have d1:=bD7.box.c1;have d2:=bD7.box.c2;have e0:=bE7.box.c0;have e1:=bE7.box.c1;have e2:=bE7.box.c2;clear bE5 bE6 bE7 bD5 bD7 hB5 hB6 hB7 hb5 t14 fE1 e14;go_wp2;refine bodyPost_ret (v:=zb8 (c,p,g)) (by unfold zb8;simp [results,Tryz.results114,go_sem,y0,y1,y2]) rfl ?_;exact ⟨rfl,hbY⟩
section
open Go.RowKit Go.Sort
structure Ro3 (X:World) (B:Nat) (v u t:Value) (l lu lt:List Nat):Prop where
 rv:X.ownsRow B 3 1 v l.length (natV l)
 ru:X.ownsRow B 3 1 u lu.length (natV lu)
 rt:X.ownsRow B 3 1 t lt.length (natV lt)
 au:∀ k,v.ownBlock=some k→u.ownBlock≠some k
 at_:∀ k,v.ownBlock=some k→t.ownBlock≠some k
theorem Ro3.below {X Y:World} {B:Nat} {v u t:Value} {l lu lt:List Nat} (h:Ro3 X B v u t l lu lt) (hb:Below X.heap.size X Y):Ro3 Y B v u t l lu lt:=⟨za5 h.rv hb,za5 h.ru hb,za5 h.rt hb,h.au,h.at_⟩
theorem Ro3.app {X:World} {B:Nat} {v u t:Value} {l lu lt:List Nat} (h:Ro3 X B v u t l lu lt) (hB:B≤X.heap.size) (hl:l.length≤1000) (x:Nat) :
 ∃ g' c' Y,(Builtin.append_ #[163,163] 163 #[v,.slice (some ⟨X.heap.size,0,none⟩) 1 1]).run Tryz.prog (X.alloc (.cells #[.int .i64 (x:Int)] 3))=.ok (.slice (some ⟨g',0,none⟩) (l.length+1) c') Y ∧
  Ro3 Y B (.slice (some ⟨g',0,none⟩) (l.length+1) c') u t (l++[x]) lu lt∧Below B X Y:=by
 obtain ⟨v',Y,hr,ho,hg,hat⟩:=zeL 163 Tryz.underlying163 x h.rv hB (by omega);obtain ⟨g',c',rfl⟩:=zaw ho (by omega);have hw:zaZ X Y (fun k=>v.ownBlock=some k):=zaZ.of_grown hg (fun k e=>e);refine ⟨g',c',Y,hr,⟨by rw [List.length_append,List.length_singleton];exact ho,zbR h.ru hw (fun k e e2=>h.au k e2 e),zbR h.rt hw (fun k e e2=>h.at_ k e2 e),fun k e e2=>?_,fun k e e2=>?_⟩,hw.below hB (fun k e=>(h.rv.lt k e).1)⟩
 ·
  rcases hat with h1 | h1
  ·exact h.au k (by rw [←h1];exact e) e2
  ·
   rw [h1] at e;injection e with e
   have:=(h.ru.lt k e2).2;omega
 ·
  rcases hat with h1 | h1
  ·exact h.at_ k (by rw [←h1];exact e) e2
  ·
   rw [h1] at e;injection e with e
   have:=(h.rt.lt k e2).2;omega
theorem rp_take {P re:List Nat} {k:Nat} (h:∀ z∈P.take k,z∈re) (hk:k<P.length) (hz:P.getD k 0∈re):∀ z∈P.take (k+1),z∈re:=fun z hz2=>by
 rw [List.take_succ_eq_append_getElem hk,List.mem_append,List.mem_singleton] at hz2;rcases hz2 with e | e
 ·exact h z e
 ·
  rw [e];have:P.getD k 0=P[k]:=by simp [List.getD,hk]
  rw [←this];exact hz
theorem zfv (a:Option Addr) (len cap:Nat) (ps:List Pk) (f:Nat) (w:World) (h:zab w a len cap ps) (hpj:zaK ps=true) (hf:f<len) :
 Calls Tryz.prog 140 #[.slice a len cap,.int .i64 (f:Int)] w fun e w'=>∃ v,e=.returned v∧∃ re,w'.ownsRow w.heap.size 3 1 v re.length (natV re)∧Rp8 ps f re∧RpTo ps re re.length∧Below w.heap.size w w':=by
 obtain rfl:ps.length=len:=h.hlen;have hn8:ps.length≤8:=(zaf hpj).2.1.2;have HI:Hid (zab w a ps.length cap ps):=h;have HPJ:Hid (zaK ps=true):=hpj;have HS0:Hid (Ro3 (w.alloc (.cells #[.int .i64 (f:Int)] 3)) w.heap.size (.slice (some ⟨w.heap.size,0,none⟩) 1 1) (.slice none 0 0) (.slice none 0 0) [f] [] []):=⟨World.ownsRow_lit (base:=w.heap.size) (e:=3) (size:=1) w #[.int .i64 (f:Int)] 1 (Nat.le_refl _) (by decide) rfl,World.ownsRow_nil _ _ _ _,World.ownsRow_nil _ _ _ _,(fun k _ e=>by cases e),(fun k _ e=>by cases e)⟩;have HB0:Hid (Below w.heap.size w (w.alloc (.cells #[.int .i64 (f:Int)] 3))):=(Below.refl _ _).alloc (Nat.le_refl _) _;have HR0:Hid (Rp8 ps f [f]):=Rp8.one hpj hf;clear h hpj
 go_enter Tryz.func140,Tryz.ntmps140
 go_wp2
 go_loopw [5,6] (fun rv iv wr=>∃ (i m:Nat) (ra:Option Addr) (rc:Nat) (re:List Nat),rv=.slice ra m rc∧iv=.int .i64 (i:Int)∧i≤m∧m≤8∧Hid (re.length=m)∧Hid (Ro3 wr w.heap.size (.slice ra m rc) (.slice none 0 0) (.slice none 0 0) re [] [])∧Hid (Rp8 ps f re)∧Hid (RpTo ps re i)∧Hid (Below w.heap.size w wr)) (fun _ iv _=>100-(intOf iv).toNat)
 case atStart=>exact ⟨0,1,_,1,[f],rfl,rfl,by omega,by omega,rfl,HS0,HR0,(fun j hj=>by omega),HB0⟩
 case round =>
  obtain ⟨i,m,ra,rc,re,rfl,rfl,him,hm8,HL,HS,HR,HT,HB⟩:=hrel;clear HS0 HB0 HR0;obtain ⟨Z,hZ⟩:∃ Z,Z=wr:=⟨_,rfl⟩
  subst hZ;by_cases hlt:(i:Int)<(m:Int)
  ·
   have hi2:i<m:=by omega
   have hrv:=HS.out.rv;rw [HL.out] at hrv;obtain ⟨g,cc,hge⟩:=zaw hrv (by omega);injection hge with e1 _ e3;subst e1;subst e3;have c0:=zbS hrv HL.out i hi2;have hym:=zcc (l:=re) (k:=i) (by rw [HL.out];exact hi2);have hyl:=HR.out.lt _ hym;obtain ⟨y,hy⟩:∃ y,re.getD i 0=y:=⟨_,rfl⟩
   rw [hy] at c0 hym hyl;have HPo:Hid (_):=zdP a ps.length cap ps y Z (HI.out.below HB.out) hyl;obtain ⟨P,hP⟩:∃ P,plc ps (zbe ps y)=P:=⟨_,rfl⟩
   rw [hP] at HPo;have HP:Hid (plc ps (zbe ps y)=P):=hP;have HY0:Hid (re.getD i 0=y):=hy;have hPl:P.length≤6:=by rw [←hP];exact Nat.le_trans (zo4 _ _) (zeZ HPJ.out hyl).2
   clear hrv hP hy;go_wp2_with fail
   refine Calls.mono HPo.out ?_;rintro e w1 ⟨v1,rfl,ho1,hb1⟩;obtain ⟨pa,pc,rfl,_⟩:=zbA ho1 rfl;have s1:=HS.out.below hb1;have HB1:Hid (Below w.heap.size w w1):=HB.out.trans (hb1.mono HB.out.size)
   have HS1:Hid (Ro3 w1 w.heap.size (.slice (some ⟨g,0,none⟩) m rc) (.slice pa P.length pc) (.slice none 0 0) re P []):=⟨s1.rv,zaD ho1 HB.out.size,s1.rt,(fun k e e2=>by
    have l1:=(HS.out.rv.lt k e).2;have l2:=(ho1.lt k e2).1;omega),s1.at_⟩
   clear HPo ho1 hb1 s1 HS HB c0;go_wp2
   go_loopw [5,24] (fun rv kv wx=>∃ (k m:Nat) (ra:Option Addr) (rc:Nat) (re:List Nat),rv=.slice ra m rc∧kv=.int .i64 (k:Int)∧k≤P.length∧i<m∧m≤8∧Hid (re.length=m)∧Hid (Ro3 wx w.heap.size (.slice ra m rc) (.slice pa P.length pc) (.slice none 0 0) re P [])∧Hid (Rp8 ps f re)∧Hid (RpTo ps re i)∧Hid (re.getD i 0=y)∧Hid (∀ z∈P.take k,z∈re)∧Hid (Below w.heap.size w wx)) (fun _ kv _=>P.length-(intOf kv).toNat)
   case atStart=>exact ⟨0,m,_,rc,re,rfl,rfl,by omega,hi2,hm8,HL,HS1,HR,HT,HY0,(fun z hz=>by simp at hz),HB1⟩
   case round =>
    obtain ⟨k,m,ra,rc,re,rfl,rfl,hk,him2,hm8',HL,HS,HR,HT,HY,HA,HB⟩:=hrel;clear HS1 HB1 HY0;by_cases hkl:(k:Int)<(P.length:Int)
    ·
     have hk2:k<P.length:=by omega
     obtain ⟨pa',pc',he,hpin⟩:=zbA HS.out.ru rfl;injection he with e1 _ e3;subst e1;subst e3;have hrv:=HS.out.rv;rw [HL.out] at hrv;obtain ⟨ra',rc',he,hrin⟩:=zbA hrv HL.out;injection he with e1 _ e3;subst e1;subst e3;obtain ⟨b,off,rfl,_,d0⟩:=hpin.2 k hk2;have hzm:=zcc hk2;have HStep:Hid (∀ re':List Nat,(∀ z∈P.take k,z∈re')→P.getD k 0∈re'→∀ z∈P.take (k+1),z∈re'):=fun re' h1 h2=>rp_take h1 hk2 h2
     obtain ⟨z,hz⟩:∃ z,P.getD k 0=z:=⟨_,rfl⟩
     rw [hz] at d0 hzm HStep;have HZp:Hid (z∈plc ps (zbe ps y)):=by exact (by rw [HP.out];exact hzm:z∈plc ps (zbe ps y))
     have HC:Hid (_):=zez ra m rc re z wr hrin (by omega);clear hpin hrv hrin hz hzm;by_cases hin:z∈re
     ·
      rw [decide_eq_true hin] at HC;have HA2:Hid (∀ z∈P.take (k+1),z∈re):=HStep.out re HA.out hin;clear hin
      go_wp2_with (go_at_call 142;refine Calls.mono HC.out ?_;rintro e w2 ⟨rfl,hw2⟩;obtain rfl:=hw2.symm)
      go_roundw
      case rel=>exact ⟨k+1,m,ra,rc,re,rfl,by go_num,by omega,him2,hm8',HL,HS,HR,HT,HY,HA2,HB⟩
      case measure=>simp [intOf];omega
     ·
      rw [decide_eq_false hin] at HC;have hre:re.getD i 0∈re:=zcc (by rw [HL.out];exact him2);rw [HY.out] at hre;have HR2:Hid (Rp8 ps f (re++[z])):=HR.out.add hre HZp.out hin;have HT2:Hid (RpTo ps (re++[z]) i):=HT.out.add (by rw [HL.out];omega);have HY2:Hid ((re++[z]).getD i 0=y):=by exact (by rw [←HY.out];simp [List.getD,List.getElem?_append_left (show i<re.length by rw [HL.out];exact him2)]:(re++[z]).getD i 0=y)
      have HA2:Hid (∀ z'∈P.take (k+1),z'∈re++[z]):=HStep.out (re++[z]) (fun q hq=>List.mem_append_left _ (HA.out q hq)) (by simp);have HL2:Hid ((re++[z]).length=m+1):=by exact (by rw [List.length_append,List.length_singleton,HL.out]:(re++[z]).length=m+1)
      have hm9:m+1≤8:=by have:=HR2.out.len;rw [HL2.out] at this;omega
      obtain ⟨g',c',Y,hr,s2,hB2⟩:=HS.out.app HB.out.size (by rw [HL.out];omega) z;rw [HL.out] at hr s2;have HSY:Hid (Ro3 Y w.heap.size (.slice (some ⟨g',0,none⟩) (m+1) c') (.slice (some ⟨b,off,none⟩) P.length pc) (.slice none 0 0) (re++[z]) P []):=s2;have HBY:Hid (Below w.heap.size w Y):=HB.out.trans hB2;clear hin hre s2 hB2
      go_wp2_with (first | (go_at_call 142;refine Calls.mono HC.out ?_;rintro e w2 ⟨rfl,hw2⟩;obtain rfl:=hw2.symm) | (at_builtin;refine za0 rfl (.tmp 32) (.tmp 34) 163 rfl _ _ _ rfl rfl hr ?_;clear hr))
      go_roundw
      case rel=>exact ⟨k+1,m+1,_,c',re++[z],rfl,by go_num,by omega,by omega,hm9,HL2,HSY,HR2,HT2,HY2,HA2,HBY⟩
      case measure=>simp [intOf];omega
    ·
     have HT2:Hid (RpTo ps re (i+1)):=HT.out.next (fun z hz=>HA.out z (by rw [List.take_of_length_le (by omega),←HP.out];rw [HY.out] at hz;exact hz));have HS2:Hid (Ro3 wr w.heap.size (.slice ra m rc) (.slice none 0 0) (.slice none 0 0) re [] []):=⟨HS.out.rv,World.ownsRow_nil _ _ _ _,HS.out.rt,(fun k _ e=>by cases e),HS.out.at_⟩;go_wp2;go_roundw
     case rel=>exact ⟨i+1,m,ra,rc,re,rfl,by go_num,by omega,by omega,HL,HS2,HR,HT2,HB⟩
     case measure=>simp [intOf];omega
  ·
   obtain rfl:i=m:=by omega
   go_wp2;go_ret;exact ⟨_,rfl,re,HS.out.rv,HR.out,by rw [HL.out];exact HT.out,HB.out⟩
end
theorem lit_none (w:World):(w.alloc (.cells #[] 9)).ownsRow w.heap.size 9 1 (.slice (some ⟨w.heap.size,0,none⟩) 0 0) 0 (strV [])∧Below w.heap.size w (w.alloc (.cells #[] 9)) :=
 ⟨World.ownsRow_lit (base:=w.heap.size) (e:=9) (size:=1) w #[] 0 (Nat.le_refl _) (by decide) rfl,(Below.refl _ _).alloc (Nat.le_refl _) _⟩
theorem zna (ps:List Pk) (s:List UInt8):((if zaK ps=true then at8 ps s else -1)=-1∧znb ps s=false)∨∃ f,f<ps.length∧(if zaK ps=true then at8 ps s else -1)=(f:Int)∧zaK ps=true∧s=nmAt ps f∧znb ps s=true:=by
 unfold znb;rcases hp:zaK ps with _ | _
 ·exact Or.inl ⟨by simp,rfl⟩
 ·
  rw [if_pos rfl];rcases zdm ps s with ⟨e,_⟩ | ⟨f,hf,e,hn,_⟩
  ·exact Or.inl ⟨e,by rw [e];rfl⟩
  ·exact Or.inr ⟨f,hf,e,rfl,hn.symm,by rw [e];simp⟩
theorem zoX (out re:List Nat) (f k:Nat) (hk:k<out.length):(out.take (k+1)).filter (fun i=>decide (i≠f∧i∈re))=(out.take k).filter (fun i=>decide (i≠f∧i∈re))++if out.getD k 0≠f∧out.getD k 0∈re then [out.getD k 0] else []:=by
 have e:out.getD k 0=out[k]:=by simp [List.getD,hk]
 rw [List.take_succ_eq_append_getElem hk,List.filter_append,e];by_cases h:out[k]≠f∧out[k]∈re
 ·rw [if_pos h];simp [h]
 ·rw [if_neg h];simp [h]
theorem zoH (a:Option Addr) (len cap:Nat) (ps:List Pk) (s:List UInt8) (w:World) (h:zab w a len cap ps) (_hs:s.length≤1048576) :
 Calls Tryz.prog 115 #[.slice a len cap,.string ⟨s.toArray⟩] w fun e w'=>∃ v,e=.returned v∧w'.ownsRow w.heap.size 9 1 v (zgD ps s).length (strV (zgD ps s))∧Below w.heap.size w w':=by
 have HP:Hid (_):=zkX a len cap ps s w h;have HI:Hid (zab w a len cap ps):=h;rcases zna ps s with ⟨hp,hv⟩ | ⟨f,hf,hp,hpj,hns,hv⟩
 ·
  have HE:Hid (zgD ps s=[]):=by exact (by unfold zgD;rw [if_neg (by rw [hv];simp)]:zgD ps s=[])
  rw [hp] at HP;clear h hv hp
  go_enter Tryz.func115,Tryz.ntmps115
  go_wp2_with (go_at_call 139;refine Calls.mono HP.out ?_;rintro e w1 ⟨rfl,hb1⟩;have HB1:Hid (Below w.heap.size w w1):=hb1;clear hb1)
  go_ret;obtain ⟨h1,h2⟩:=lit_none w1;exact ⟨_,rfl,by rw [HE.out];exact zaD h1 HB1.out.size,HB1.out.trans (h2.mono HB1.out.size)⟩
 ·
  have HE:Hid (zgD ps s=zd4 ps (nmAt ps f)):=by exact (by unfold zgD;rw [if_pos hv,hns]:zgD ps s=zd4 ps (nmAt ps f))
  rw [hp] at HP;have hfl:f<len:=by rw [←h.hlen];exact hf
  have hl8:ps.length≤8:=(zaf hpj).2.1.2;have hfz:¬(f:Int)=-1:=by omega
  have hfb:((f:Int)==-1)=false:=beq_eq_false_iff_ne.2 hfz;clear h hv hp hns
  go_enter Tryz.func115,Tryz.ntmps115
  go_wp2_with fail
  refine Calls.mono HP.out ?_;rintro e w1 ⟨rfl,hb1⟩;have HB1:Hid (Below w.heap.size w w1):=hb1;have HI1:Hid (zab w1 a len cap ps):=HI.out.below hb1;clear hb1 HP;go_wp2_with fail
  refine (zfv a len cap ps f w1 HI1.out hpj hfl).mono ?_;rintro e w2 ⟨v,rfl,re,ho,hrp,hrt,hb2⟩;have hrl:=hrp.len;obtain ⟨ra,rc,rfl,_⟩:=zbA ho rfl;have HB2:Hid (Below w.heap.size w w2):=HB1.out.trans (hb2.mono HB1.out.size);have HRp:Hid (Rp8 ps f re∧RpTo ps re re.length):=⟨hrp,hrt⟩;have HO2:Hid (w2.ownsRow w.heap.size 3 1 (.slice ra re.length rc) re.length (natV re)):=zaD ho HB1.out.size;have hbA:Below w2.heap.size w2 (w2.alloc (.cells #[] 3)):=(Below.refl _ _).alloc (Nat.le_refl _) _;have hN0:(w2.alloc (.cells #[] 3)).ownsRow w.heap.size 3 1 (.slice (some ⟨w2.heap.size,0,none⟩) 0 0) 0 (natV []):=World.ownsRow_lit (base:=w.heap.size) (e:=3) (size:=1) w2 #[] 0 HB2.out.size (by decide) rfl;have HBA:Hid (Below w.heap.size w (w2.alloc (.cells #[] 3))):=HB2.out.trans (hbA.mono HB2.out.size);have HOA:Hid ((w2.alloc (.cells #[] 3)).ownsRow w.heap.size 3 1 (.slice ra re.length rc) re.length (natV re)):=za5 HO2.out hbA;have HNA:Hid ((w2.alloc (.cells #[] 3)).ownsRow w.heap.size 3 1 (.slice (some ⟨w2.heap.size,0,none⟩) 0 0) 0 (natV [])):=hN0;have HRl:Hid (∀ k,(Value.slice ra re.length rc).ownBlock=some k→k<w2.heap.size):=fun k e=>(HO2.out.lt k e).2
  have HIO:Hid (_):=zdh a len cap ps (w2.alloc (.cells #[] 3)) (HI.out.below HBA.out) hpj;clear ho hrp hrt hb2 hbA hN0 hpj;go_wp2_with fail
  refine Calls.mono HIO.out ?_;rintro e w3 ⟨v3,rfl,out,ho3,hoo,hlt,hol,hb3⟩;obtain ⟨oa,oc,rfl,_⟩:=zbA ho3 rfl;have HB3:Hid (Below w.heap.size w w3):=HBA.out.trans (hb3.mono HBA.out.size);have HNd:Hid (zaJ ps (out.filter (fun i=>decide (i≠f∧i∈re)))=zd4 ps (nmAt ps f)):=zkH HRp.out.1 HRp.out.2 hoo (fun x hx=>by rw [HI.out.hlen];exact hlt x hx);have HLt:Hid (∀ x∈out,x<len):=hlt;have hsA:(w2.alloc (.cells #[] 3)).heap.size=w2.heap.size+1:=by simp
  have HS0:Hid (Ro3 w3 w.heap.size (.slice (some ⟨w2.heap.size,0,none⟩) 0 0) (.slice ra re.length rc) (.slice oa out.length oc) ((out.take 0).filter (fun i=>decide (i≠f∧i∈re))) re out):=⟨za5 HNA.out hb3,za5 HOA.out hb3,zaD ho3 HBA.out.size,(fun k e e2=>by
   injection e with e;have e':w2.heap.size=k:=e;have:=HRl.out k e2;omega),(fun k e e2=>by
   injection e with e;have e':w2.heap.size=k:=e;have:=(ho3.lt k e2).1;omega)⟩
  clear HIO HNA HOA HBA HO2 ho3 hoo hlt hb3 hsA HRl;go_wp2
  go_loopw [7,23] (fun nv iv wr=>∃ (k m:Nat) (na:Option Addr) (nc:Nat) (ne:List Nat),nv=.slice na m nc∧iv=.int .i64 (k:Int)∧k≤out.length∧m≤k∧Hid (ne.length=m)∧Hid ((out.take k).filter (fun i=>decide (i≠f∧i∈re))=ne)∧Hid (Ro3 wr w.heap.size (.slice na m nc) (.slice ra re.length rc) (.slice oa out.length oc) ne re out)∧Hid (Below w.heap.size w wr)) (fun _ iv _=>out.length-(intOf iv).toNat)
  case atStart=>exact ⟨0,0,_,0,[],rfl,rfl,by omega,by omega,rfl,rfl,HS0,HB3⟩
  case round =>
   obtain ⟨k,m,na,nc,ne,rfl,rfl,hk,hmk,HL,HF,HS,HB⟩:=hrel;clear HS0 HB3;by_cases hlt:(k:Int)<(out.length:Int)
   ·
    have hk2:k<out.length:=by omega
    obtain ⟨oa',oc',he,hoin⟩:=zbA HS.out.rt rfl;injection he with e1 _ e3;subst e1;subst e3;obtain ⟨ra',rc',he,hrin⟩:=zbA HS.out.ru rfl;injection he with e1 _ e3;subst e1;subst e3;obtain ⟨b,off,rfl,_,d0⟩:=hoin.2 k hk2;have hft:=zoX out re f k hk2;rw [HF.out] at hft;obtain ⟨z,hz⟩:∃ z,out.getD k 0=z:=⟨_,rfl⟩
    rw [hz] at d0 hft;have HC:Hid (_):=zez ra re.length rc re z wr hrin (by omega);clear hoin hrin hz;by_cases hzf:z=f
    ·
     subst hzf;rw [if_neg (fun h=>h.1 rfl),List.append_nil] at hft;have HF2:Hid ((out.take (k+1)).filter (fun i=>decide (i≠z∧i∈re))=ne):=hft;clear hft;go_wp2;go_roundw
     case rel=>exact ⟨k+1,m,na,nc,ne,rfl,by go_num,by omega,by omega,HL,HF2,HS,HB⟩
     case measure=>simp [intOf];omega
    ·
     have hzz:¬(z:Int)=(f:Int):=by omega
     have hzb:((z:Int) !=(f:Int))=true:=by rw [bne_iff_ne];exact hzz
     have hzb2:((z:Int)==(f:Int))=false:=beq_eq_false_iff_ne.2 hzz;by_cases hin:z∈re
     ·
      rw [decide_eq_true hin] at HC;rw [if_pos ⟨hzf,hin⟩] at hft;have HF2:Hid ((out.take (k+1)).filter (fun i=>decide (i≠f∧i∈re))=ne++[z]):=hft;have HL2:Hid ((ne++[z]).length=m+1):=by exact (by rw [List.length_append,List.length_singleton,HL.out]:(ne++[z]).length=m+1)
      obtain ⟨g',c',Y,hr,s2,hB2⟩:=HS.out.app HB.out.size (by rw [HL.out];omega) z;rw [HL.out] at hr s2;have HSY:Hid (Ro3 Y w.heap.size (.slice (some ⟨g',0,none⟩) (m+1) c') (.slice ra re.length rc) (.slice (some ⟨b,off,none⟩) out.length oc) (ne++[z]) re out):=s2;have HBY:Hid (Below w.heap.size w Y):=HB.out.trans hB2;clear hin hft s2 hB2 hzf
      go_wp2_with (first | (go_at_call 142;refine Calls.mono HC.out ?_;rintro e w2 ⟨rfl,hw2⟩;obtain rfl:=hw2.symm) | (at_builtin;refine za0 rfl (.tmp 35) (.tmp 37) 163 rfl _ _ _ rfl rfl hr ?_;clear hr))
      go_roundw
      case rel=>exact ⟨k+1,m+1,_,c',ne++[z],rfl,by go_num,by omega,by omega,HL2,HF2,HSY,HBY⟩
      case measure=>simp [intOf];omega
     ·
      rw [decide_eq_false hin] at HC;rw [if_neg (fun h=>hin h.2),List.append_nil] at hft;have HF2:Hid ((out.take (k+1)).filter (fun i=>decide (i≠f∧i∈re))=ne):=hft;clear hin hft hzf
      go_wp2_with (go_at_call 142;refine Calls.mono HC.out ?_;rintro e w2 ⟨rfl,hw2⟩;obtain rfl:=hw2.symm)
      go_roundw
      case rel=>exact ⟨k+1,m,na,nc,ne,rfl,by go_num,by omega,by omega,HL,HF2,HS,HB⟩
      case measure=>simp [intOf];omega
   ·
    obtain rfl:k=out.length:=by omega
    have hne:out.filter (fun i=>decide (i≠f∧i∈re))=ne:=by have:=HF.out;rw [List.take_length] at this;exact this
    have hrv:=HS.out.rv;rw [HL.out] at hrv;obtain ⟨na',nc',he,hnin⟩:=zbA hrv HL.out;injection he with e1 _ e3;subst e1;subst e3;have hnd:=HNd.out;rw [hne,←HE.out] at hnd;have HN:Hid (_):=zl1 a len cap ps na m nc ne wr (HI.out.below HB.out) hnin (fun x hx=>HLt.out x (by rw [←hne] at hx;exact (List.mem_filter.1 hx).1)) (by omega);rw [hnd] at HN;clear hnd hne hrv hnin;go_wp2_with fail
    refine Calls.mono HN.out ?_;rintro e w4 ⟨v4,rfl,ho4,hb4⟩;have HRr:Hid (w4.ownsRow w.heap.size 9 1 v4 (zgD ps s).length (strV (zgD ps s))∧Below w.heap.size w w4):=⟨zaD ho4 HB.out.size,HB.out.trans (hb4.mono HB.out.size)⟩;clear ho4 hb4;go_wp2;go_ret;exact ⟨_,rfl,HRr.out.1,HRr.out.2⟩
theorem implPrt (a:Option Addr) (len cap:Nat) (ps:List Pk) (er:Nat→Addr) (w:World) (hE:Err8 w er) (h:zab w a len cap ps) :
 Calls Tryz.prog 93 #[.slice a len cap] w fun e w'=>∃ v,e=.returned v∧w'.ownsRow w.heap.size 9 1 v (prtV ps).length (strV (prtV ps))∧Below w.heap.size w w':=by
 have HF:Hid (_):=zla a len cap ps er w hE h;have HI:Hid (zab w a len cap ps):=h;obtain ⟨z,hz⟩:∃ z,zaS ps=z:=⟨_,rfl⟩
 have hzc:=zjU z ps hz;rw [hz] at HF;obtain ⟨c,p,g⟩:=z;unfold zb8 at HF;simp only at HF hzc;have HNe:Hid (_):=zhT c p g;clear h hE;rcases hzc with ⟨hno,hv⟩ | ⟨he,h0⟩
 ·
  have HV:Hid (prtV ps=[]):=hv;clear hz hv
  go_enter Tryz.func93,Tryz.ntmps93
  go_wp2_with fail
  refine Calls.mono HF.out ?_;rintro e w1 ⟨rfl,hb1⟩;have hne:=HNe.out w1;rw [decide_eq_true hno] at hne;have HB:Hid (Below w.heap.size w w1):=hb1;have HNo:Hid (¬(c=0∧p=[]∧g=[])):=hno;clear hb1 HF HNe hno;go_wp2
  all_goals first
   | (go_ret;obtain ⟨h1,h2⟩:=zhG w1;exact ⟨_,rfl,by rw [HV.out];exact zaD h1 HB.out.size,HB.out.trans (h2.mono HB.out.size)⟩)
   | (exfalso;have h:=HNo.out;simp_all;done)
 ·
  obtain ⟨hV,hp,hhere,hm⟩:=zeo h0;have hl:=zfs hp za6;have hnv:zgD ps za6=zd4 ps za6:=if_pos hhere
  have HN:Hid (∀ X,Below w.heap.size w X→Calls Tryz.prog 115 #[.slice a len cap,.string ⟨za6.toArray⟩] X fun e w'=>∃ v,e=.returned v∧w'.ownsRow X.heap.size 9 1 v (zd4 ps za6).length (strV (zd4 ps za6))∧Below X.heap.size X w'):=fun X hb=>by
   have:=zoH a len cap ps za6 X (HI.out.below hb) (by decide);rw [hnv] at this;exact this
  rw [hV];obtain ⟨ls,hls⟩:∃ ls,zd4 ps za6=ls:=⟨_,rfl⟩
  rw [hls] at HN hl ⊢;rw [List.length_append,List.length_singleton];simp only [Prod.mk.injEq] at he;obtain ⟨rfl,rfl,rfl⟩:=he;unfold za6 at HN;clear hz h0 hV hp hhere hm hnv hls
  go_enter Tryz.func93,Tryz.ntmps93
  go_wp2_with fail
  refine Calls.mono HF.out ?_;rintro e w1 ⟨rfl,hb1⟩;have hne:=HNe.out w1;rw [decide_eq_false (by simp)] at hne;have HB:Hid (Below w.heap.size w w1):=hb1;have HC:Hid (_):=HN.out w1 hb1;clear hb1 HF HNe HN;go_wp2_with fail
  refine Calls.mono HC.out ?_;rintro e w2 ⟨v,rfl,ho,hb2⟩;have HO:Hid (w2.ownsRow w.heap.size 9 1 v ls.length (strV ls)∧Below w.heap.size w w2):=⟨zaD ho HB.out.size,HB.out.trans (hb2.mono HB.out.size)⟩;have HSc:Hid (_):=zbc [109,97,105,110] w2 (by decide);clear ho hb2 HC HB;go_wp2_with fail
  refine Calls.mono HSc.out ?_;rintro e w3 ⟨rfl,hb3⟩;have hB3:=HO.out.2.trans (hb3.mono HO.out.2.size);have hO3:=za5 HO.out.1 hb3;obtain ⟨v',Y,hr,hoY,hgY⟩:=zci za6 hO3 hB3.size (by omega);have HB:Hid (Below w.heap.size w Y):=hB3.grown hgY hB3.size (fun k e=>(hO3.lt k e).1);have HOY:Hid (Y.ownsRow w.heap.size 9 1 v' (ls.length+1) (strV (ls++[za6]))):=hoY;clear hgY hoY hO3 hB3 HO HSc hb3;unfold za6 at hr
  go_wp2_with (at_builtin;refine za0 rfl _ _ 67 rfl _ _ _ rfl rfl hr ?_)
  go_ret;exact ⟨_,rfl,HOY.out,HB.out⟩
end Go.Proofs.YtponeoijfaepnaaGreatDoor
