/-
  Parts of one proof, one behind the other: Play18, Draw8K, Draw8N.
-/
import Derived.Test.YtponeoijfaepnaaGreatDoorP21
namespace Go.Proofs.YtponeoijfaepnaaGreatDoor
open Go.RowKit
set_option maxHeartbeats 16000000
set_option maxRecDepth 100000
theorem Cur.belowL {X Y:World} {B L:Nat} {a:Option Addr} {len cap:Nat} (h:Cur X B a len cap) (hb:Below L X Y) (hBL:B<L):Cur Y B a len cap:=by
 have hB:=hb.block B hBL;refine ⟨?_,h.short,?_,?_,?_⟩
 ·intro j hj;obtain ⟨b,off,x,e1,e2,e3,e0⟩:=h.code j hj;exact ⟨b,off,x,e1,e2,(World.cell?_of_block (hb.block b (by omega))).trans e3,e0⟩
 ·exact (World.cell?_of_block hB).trans h.c0
 ·obtain ⟨i,n,hi,e1,e2⟩:=h.c12;exact ⟨i,n,hi,(World.cell?_of_block hB).trans e1,(World.cell?_of_block hB).trans e2⟩
 ·intro j;exact (World.frozen?_of_block hB).trans (h.free j)
structure Dk18 (X:World) (L Q:Nat) (va:Option Addr) (vc n:Nat) (xs:List TV) (ts:List Ta) (ep nw:Int) (jr:List UInt8):Prop where
 b4:B4 X Q (.slice va n vc) (.int .i64 ep) (.int .i64 nw) (.string ⟨jr.toArray⟩)
 own:za2 X L (.slice va n vc) xs
 eq:xs.map (·.1)=ts
 ap:zai (xs.map tvT)
 ne:∀ k,zan (.slice va n vc) xs k→k≠Q
 hn:ts.length=n
 q:L≤Q
 ls:L≤X.heap.size
section
variable {X Y:World} {L Q:Nat} {va:Option Addr} {vc n:Nat} {xs:List TV} {ts:List Ta} {ep nw:Int} {jr:List UInt8}
theorem Dk18.keep (h:Dk18 X L Q va vc n xs ts ep nw jr) {row:Option Nat} (hg:X.grownBy Y row) (hr:∀ k,row=some k→k<L):Dk18 Y L Q va vc n xs ts ep nw jr:=by
 have hoff:∀ v:Value,(∀ k,v.ownBlock=some k→L≤k)→v.ownBlock=none∨v.ownBlock≠row:=fun v hv=>by
  rcases hk:v.ownBlock with _ | k
  ·exact Or.inl rfl
  ·exact Or.inr (fun e=>by have h1:=hv k hk;have h2:=hr k e.symm;omega)
 exact ⟨h.b4.grown hg (fun e=>by have h1:=hr Q e;have h2:=h.q;omega),h.own.kept hg (hoff _ (fun k hk=>(h.own.row.lt k hk).1)) (fun x hx=>hoff _ (fun k hk=>((h.own.trees x hx).lt k hk).1)),h.eq,h.ap,h.ne,h.hn,h.q,Nat.le_trans h.ls hg.size⟩
theorem Dk18.below (h:Dk18 X L Q va vc n xs ts ep nw jr) (hb:Below X.heap.size X Y):Dk18 Y L Q va vc n xs ts ep nw jr :=
 ⟨h.b4.below hb,h.own.below hb,h.eq,h.ap,h.ne,h.hn,h.q,Nat.le_trans h.ls hb.size⟩
def Kp18 (B L:Nat) (X Y:World):Prop:=zb2 X Y (fun k=>k=B∨L≤k)
theorem Kp18.refl (B L:Nat) (X:World):Kp18 B L X X:=zb2.refl _ _
theorem Kp18.next {B:Nat} {W:World} (h:Kp18 B L W X) (hg:X.grownBy Y (some B)):Kp18 B L W Y:=h.trans (zb2.of_grown hg (fun k e=>Or.inl (by injection e with e;exact e.symm)))
theorem Kp18.up {B:Nat} {W:World} (h:Kp18 B L W X) (hb:Below L X Y):Kp18 B L W Y:=h.trans ⟨hb.os,hb.tape,hb.output,hb.size,fun k _ hn=>hb.block k (by
 rcases Nat.lt_or_ge k L with g | g
 ·exact g
 ·exact absurd (Or.inr g) hn)⟩
end
theorem drawPlay (w:World) (B L Q:Nat) (a:Option Addr) (len cap:Nat) (la:Option Addr) (ln lc:Nat) (ps:List Pk) (va:Option Addr) (vc n:Nat) (xs:List TV) (ts:List Ta) (ep nw:Int) (jr:List UInt8)
 (hc:Cur w B a len cap) (hBL:B<L) (hd:Dk18 w L Q va vc n xs ts ep nw jr) (hok:zac (ts,ep,nw,jr)=true) (hj0:jr.length≤116) (hp:∀ Y,Kp18 B L w Y→zav Y la ln ps) (hln:ln≤1048576) (hsh:zby ps) :
 Calls Tryz.prog 53 #[.pointer (some ⟨B,0,none⟩),.pointer (some ⟨Q,0,none⟩),.slice la ln lc] w fun e w'=>e=.returned (.tuple #[])∧∃ va vc n xs ts ep nw jr,Dk18 w' L Q va vc n xs ts ep nw jr∧zac (ts,ep,nw,jr)=true∧Cur w' B a len cap∧Kp18 B L w w'∧jr.length≤1508:=by
 have HRb:Hid (_):=fun (j:List UInt8) (Z:World) (hz:Kp18 B L w Z) (hj:j.length≤60000)=>zmC la ln lc ps j Z (hp Z hz) hln hsh (by omega)
 have HBL:Hid (B<L):=hBL;have HD0:Hid (Dk18 w L Q va vc n xs ts ep nw jr∧zac (ts,ep,nw,jr)=true):=⟨hd,hok⟩;have HC0:Hid (Cur w B a len cap):=hc;have HK0:Hid (Kp18 B L w w):=Kp18.refl _ _ _;clear hp hd hok hBL
 go_enter Tryz.func53,Tryz.ntmps53
 go_wp2_with fail
 refine (zad _ B a len cap 12 (by omega) (by omega) hc).mono ?_;rintro e w1 ⟨x,rfl,hx0,hx1,hc1,hg1⟩;have HD1:Hid (Dk18 w1 L Q va vc n xs ts ep nw jr∧zac (ts,ep,nw,jr)=true):=⟨HD0.out.1.keep hg1 (fun k e=>by injection e with e;have:=HBL.out;omega),HD0.out.2⟩;have HC1:Hid (Cur w1 B a len cap):=hc1;have HK1:Hid (Kp18 B L w w1):=HK0.out.next hg1;obtain ⟨m0,rfl⟩:∃ m:Nat,x=(m:Int):=Int.eq_ofNat_of_zero_le hx0
 have hm0:m0≤12:=by omega
 have hm11:m0≤11:=by omega
 clear hc hc1 hg1 hx0 hx1 HD0 HC0 HK0;go_wp2
 go_loopw [6] (fun nv wr=>∃ (m:Nat) (va:Option Addr) (vc n:Nat) (xs:List TV) (ts:List Ta) (ep nw:Int) (jr:List UInt8),nv=.int .i64 (m:Int)∧m≤12∧jr.length+116*m≤1508∧Hid (Dk18 wr L Q va vc n xs ts ep nw jr∧zac (ts,ep,nw,jr)=true)∧Hid (Cur wr B a len cap)∧Hid (Kp18 B L w wr)) (fun nv _=>(intOf nv).toNat)
 case atStart=>exact ⟨m0,va,vc,n,xs,ts,ep,nw,jr,rfl,hm0,by omega,HD1,HC1,HK1⟩
 case round =>
  obtain ⟨m,va,vc,n,xs,ts,ep,nw,jr,rfl,hm,hjm,HD,HC,HK⟩:=hrel;clear HD1 HC1 HK1;obtain ⟨X0,hX0⟩:∃ X0,X0=wr:=⟨_,rfl⟩
  subst hX0;by_cases hmz:(0:Int)<(m:Int)
  rotate_left
  ·
   go_wp2
   first | go_end0 | refine bodyPost_ret (results_none rfl _ _ _) rfl ?_
   exact ⟨rfl,va,vc,n,xs,ts,ep,nw,jr,HD.out.1,HD.out.2,HC.out,HK.out,by omega⟩
  have hm1:1≤m:=by omega
  go_wp2_with fail
  refine (zad _ B a len cap 5 (by omega) (by omega) HC.out).mono ?_;rintro e X1 ⟨x,rfl,hx0,hx1,hc1,hg1⟩;have HD1:Hid (Dk18 X1 L Q va vc n xs ts ep nw jr∧zac (ts,ep,nw,jr)=true):=⟨HD.out.1.keep hg1 (fun k e=>by injection e with e;have:=HBL.out;omega),HD.out.2⟩;have HC1:Hid (Cur X1 B a len cap):=hc1;have HK1:Hid (Kp18 B L w X1):=HK.out.next hg1;clear hc1 hg1 HD HC HK;have hcase:(x=0∨x=1)∨(x=2∨x=3)∨x=4:=by omega
  clear hx0 hx1;have HP:=zao.1 HD1.out.2;have hn8:=HP.n;have hep:=HP.e;have hnw:=HP.t;have hjr:=HP.j;simp only at hn8 hep hnw hjr;rw [HD1.out.1.hn] at hn8;clear HP;rcases hcase with hx | hx | rfl
  ·
   have HNext:Hid (∀ (x4:Int) (Z:World),Kp18 B L w Z→Dk18 Z L Q va vc n xs ts ep nw jr→Cur Z B a len cap→Calls Tryz.prog 36 #[.pointer (some ⟨Q,0,none⟩),.int .i64 x4] Z fun e w'=>(∃ r,e=.returned (.int .i64 r))∧(∃ xs ts,Dk18 w' L Q va vc n xs ts ep nw jr∧zac (ts,ep,nw,jr)=true)∧Cur w' B a len cap∧Kp18 B L w w'):=fun x4 Z hz hd hc=>by
    have hnn:=hd.hn;subst hnn;refine (zlD Q L va vc xs ts ep nw jr x4 Z hd.b4 hd.own hd.eq hd.ap hd.ne hd.ls HD1.out.2 (zed HD1.out.2)).mono ?_;rintro e w' ⟨rfl,xs',hx',ho',ha',hb',hbl,hk'⟩;have hr:=zjA (d:=(ts,ep,nw,jr)) (worker:=x4);have hr1:=zjB (worker:=x4) HD1.out.2;have he:(zbm (ts,ep,nw,jr) x4).1=((zbm (ts,ep,nw,jr) x4).1.1,ep,nw,jr):=Prod.ext rfl hr.1;rw [he] at hr1;exact ⟨⟨_,rfl⟩,⟨xs',_,⟨hb',ho',hx',ha',fun k hk=>hd.ne k (hk' k hk),hr.2,hd.q,Nat.le_trans hd.ls hbl.size⟩,hr1⟩,hc.belowL hbl HBL.out,hz.up hbl⟩
   rcases hx with rfl | rfl
   ·
    go_wp2_with fail
    refine (zad _ B a len cap 4 (by omega) (by omega) HC1.out).mono ?_;rintro e X2 ⟨x4,rfl,hx0,hx1,hc2,hg2⟩;have HL2:Hid (_):=HNext.out x4 X2 (HK1.out.next hg2) (HD1.out.1.keep hg2 (fun k e=>by injection e with e;have:=HBL.out;omega)) hc2;clear hc2 hg2 HNext HD1 HC1 HK1;go_wp2_with fail
    refine Calls.mono HL2.out ?_;rintro e X3 ⟨⟨r,rfl⟩,⟨xs',ts',hd3⟩,hc3,hk3⟩;have HD3:Hid (Dk18 X3 L Q va vc n xs' ts' ep nw jr∧zac (ts',ep,nw,jr)=true):=hd3;have HC3:Hid (Cur X3 B a len cap):=hc3;have HK3:Hid (Kp18 B L w X3):=hk3;clear hd3 hc3 hk3 HL2;go_wp2;go_roundw
    case rel=>exact ⟨m-1,va,vc,n,xs',ts',ep,nw,jr,by go_num,by omega,by omega,HD3,HC3,HK3⟩
    case measure=>simp [intOf];omega
   ·
    go_wp2_with fail
    refine (zad _ B a len cap 4 (by omega) (by omega) HC1.out).mono ?_;rintro e X2 ⟨x4,rfl,hx0,hx1,hc2,hg2⟩;have HL2:Hid (_):=HNext.out x4 X2 (HK1.out.next hg2) (HD1.out.1.keep hg2 (fun k e=>by injection e with e;have:=HBL.out;omega)) hc2;clear hc2 hg2 HNext HD1 HC1 HK1;go_wp2_with fail
    refine Calls.mono HL2.out ?_;rintro e X3 ⟨⟨r,rfl⟩,⟨xs',ts',hd3⟩,hc3,hk3⟩;have HD3:Hid (Dk18 X3 L Q va vc n xs' ts' ep nw jr∧zac (ts',ep,nw,jr)=true):=hd3;have HC3:Hid (Cur X3 B a len cap):=hc3;have HK3:Hid (Kp18 B L w X3):=hk3;clear hd3 hc3 hk3 HL2;go_wp2;go_roundw
    case rel=>exact ⟨m-1,va,vc,n,xs',ts',ep,nw,jr,by go_num,by omega,by omega,HD3,HC3,HK3⟩
    case measure=>simp [intOf];omega
  ·
   rcases hx with rfl | rfl
   ·
    have HNext:Hid (∀ (xk xy:Int) (Z:World),0≤xk→xk≤8→0≤xy→xy≤99→Kp18 B L w Z→Dk18 Z L Q va vc n xs ts ep nw jr→Cur Z B a len cap→Calls Tryz.prog 47 #[.pointer (some ⟨Q,0,none⟩),.int .i64 xk,.int .i64 ep,.int .i64 xy] Z fun e w'=>(∃ r,e=.returned (.int .i64 r))∧(∃ xs ts j2,Dk18 w' L Q va vc n xs ts ep nw j2∧zac (ts,ep,nw,j2)=true∧j2.length≤jr.length+116)∧Cur w' B a len cap∧Kp18 B L w w'):=fun xk xy Z h0 h1 h2 h3 hz hd hc=>by
     have hnn:=hd.hn;subst hnn;refine (zfi Q L va vc xs ts ep nw jr xk ep xy Z hd.b4 hd.own hd.eq hd.ap hd.ne hd.ls hd.q HD1.out.2 (zed HD1.out.2) (by omega) (by omega) (by omega) (by omega)).mono ?_;rintro e w' ⟨rfl,xs',hx',ho',ha',hb',hbl,hk'⟩;have hr:=zfm (d:=(ts,ep,nw,jr)) (k:=xk) (e:=ep) (key:=xy);have hr1:=zen (k:=xk) (e:=ep) (key:=xy) HD1.out.2;have he:(zbx (ts,ep,nw,jr) xk ep xy).1=((zbx (ts,ep,nw,jr) xk ep xy).1.1,ep,nw,(zbx (ts,ep,nw,jr) xk ep xy).1.2.2.2):=Prod.ext rfl (Prod.ext hr.1 (Prod.ext hr.2.1 rfl));rw [he] at hr1;exact ⟨⟨_,rfl⟩,⟨xs',_,_,⟨hb',ho',hx',ha',fun k hk=>hd.ne k (hk' k hk),hr.2.2,hd.q,Nat.le_trans hd.ls hbl.size⟩,hr1,zkw (d:=(ts,ep,nw,jr)) (by omega) (by omega) (by omega) (by omega)⟩,hc.belowL hbl HBL.out,hz.up hbl⟩
    have q0:=HD1.out.1.b4.c0;have q1:=HD1.out.1.b4.c1;go_wp2;refine wp_region_held_drew (S:=(fun Z=>Z.cell? ⟨Q,0,none⟩=some (.slice va n vc)∧Z.cell? ⟨Q,1,none⟩=some (.int .i64 ep))) (by kernel_rfl) ?_ (fun hHeld=>?_)
    ·exact ⟨q0,q1⟩
    refine tkO [(0,27),(1,28),(2,29),(3,30),(4,31),(5,32),(6,33),(8,35),(9,36),(10,37),(11,38),(12,39)] ?_
    repeat (refine tkY ?_ rfl (by rfl) ?_ ?_;rotate_left;(focus (intro wq hSw;(try dsimp only at hSw);first | (go_simp;done) | (go_simp;with_reducible rfl)));simp only [zP])
    refine tkZ ?_;refine zR 7 rfl (fun K hK=>?_);go_simp
    (go_at_call 30;refine (zad _ B a len cap _ (by first | omega | (simp;omega)) (by first | omega | (simp;omega)) HC1.out.drew).mono ?_;rintro e X2 ⟨xk,rfl,hk0,hk1,hc2,hg2⟩;have HD2:Hid (Dk18 X2 L Q va vc n xs ts ep nw jr):=(HD1.out.1.keep (zap X1 none) (by simp)).keep hg2 (fun k e=>by injection e with e;have:=HBL.out;omega);have HC2:Hid (Cur X2 B a len cap):=hc2;have HK2:Hid (Kp18 B L w X2):=Kp18.next (HK1.out.trans (zb2.of_grown (zap X1 none) (by simp))) hg2;clear hc2 hg2 q0 q1;have q0:=HD2.out.b4.c0;have q1:=HD2.out.b4.c1)
    refine hK.out _ _ ?_ (fun hHeld=>?_)
    ·exact ⟨q0,q1⟩
    clear hK K;refine zR 13 rfl (fun K hK=>?_);go_simp
    (go_at_call 30;refine (zad _ B a len cap 99 (by omega) (by omega) HC2.out).mono ?_;rintro e X3 ⟨xy,rfl,hy0,hy1,hc3,hg3⟩;have HD3:Hid (Dk18 X3 L Q va vc n xs ts ep nw jr):=HD2.out.keep hg3 (fun k e=>by injection e with e;have:=HBL.out;omega);have HC3:Hid (Cur X3 B a len cap):=hc3;have HK3:Hid (Kp18 B L w X3):=HK2.out.next hg3;clear hc3 hg3 q0 q1;have q0:=HD3.out.b4.c0;have q1:=HD3.out.b4.c1)
    refine hK.out _ _ ?_ (fun hHeld=>?_)
    ·exact ⟨q0,q1⟩
    clear hK K;refine zR 14 rfl (fun K hK=>?_);go_simp
    (go_at_call 47;refine Calls.mono (HNext.out xk xy X3 hk0 (by omega) hy0 (by omega) HK3.out HD3.out HC3.out) ?_;rintro e X4 ⟨⟨r,rfl⟩,⟨xs4,ts4,jr4,hd4,hok4,hj4⟩,hc4,hk4⟩;have HD4:Hid (Dk18 X4 L Q va vc n xs4 ts4 ep nw jr4∧zac (ts4,ep,nw,jr4)=true):=⟨hd4,hok4⟩;have HC4:Hid (Cur X4 B a len cap):=hc4;have HK4:Hid (Kp18 B L w X4):=hk4;clear hd4 hok4 hc4 hk4 q0 q1;have q0:=HD4.out.1.b4.c0;have q1:=HD4.out.1.b4.c1)
    refine hK.out _ _ ?_ (fun hHeld=>?_)
    ·exact ⟨q0,q1⟩
    clear hK K;refine wpAnyH_done (by kernel_rfl) ?_ _;clear q0 q1 HD1 HC1 HK1 HNext;go_wp2;go_roundw
    case rel=>exact ⟨m-1,va,vc,n,xs4,ts4,ep,nw,jr4,by go_num,by omega,by omega,HD4,HC4,HK4⟩
    case measure=>simp [intOf];omega
   ·
    have HNext:Hid (∀ (xk xy:Int) (Z:World),0≤xk→xk≤8→0≤xy→xy≤99→Kp18 B L w Z→Dk18 Z L Q va vc n xs ts ep nw jr→Cur Z B a len cap→Calls Tryz.prog 47 #[.pointer (some ⟨Q,0,none⟩),.int .i64 xk,.int .i64 ep,.int .i64 xy] Z fun e w'=>(∃ r,e=.returned (.int .i64 r))∧(∃ xs ts j2,Dk18 w' L Q va vc n xs ts ep nw j2∧zac (ts,ep,nw,j2)=true∧j2.length≤jr.length+116)∧Cur w' B a len cap∧Kp18 B L w w'):=fun xk xy Z h0 h1 h2 h3 hz hd hc=>by
     have hnn:=hd.hn;subst hnn;refine (zfi Q L va vc xs ts ep nw jr xk ep xy Z hd.b4 hd.own hd.eq hd.ap hd.ne hd.ls hd.q HD1.out.2 (zed HD1.out.2) (by omega) (by omega) (by omega) (by omega)).mono ?_;rintro e w' ⟨rfl,xs',hx',ho',ha',hb',hbl,hk'⟩;have hr:=zfm (d:=(ts,ep,nw,jr)) (k:=xk) (e:=ep) (key:=xy);have hr1:=zen (k:=xk) (e:=ep) (key:=xy) HD1.out.2;have he:(zbx (ts,ep,nw,jr) xk ep xy).1=((zbx (ts,ep,nw,jr) xk ep xy).1.1,ep,nw,(zbx (ts,ep,nw,jr) xk ep xy).1.2.2.2):=Prod.ext rfl (Prod.ext hr.1 (Prod.ext hr.2.1 rfl));rw [he] at hr1;exact ⟨⟨_,rfl⟩,⟨xs',_,_,⟨hb',ho',hx',ha',fun k hk=>hd.ne k (hk' k hk),hr.2.2,hd.q,Nat.le_trans hd.ls hbl.size⟩,hr1,zkw (d:=(ts,ep,nw,jr)) (by omega) (by omega) (by omega) (by omega)⟩,hc.belowL hbl HBL.out,hz.up hbl⟩
    have q0:=HD1.out.1.b4.c0;have q1:=HD1.out.1.b4.c1;go_wp2;refine wp_region_held_drew (S:=(fun Z=>Z.cell? ⟨Q,0,none⟩=some (.slice va n vc)∧Z.cell? ⟨Q,1,none⟩=some (.int .i64 ep))) (by kernel_rfl) ?_ (fun hHeld=>?_)
    ·exact ⟨q0,q1⟩
    refine tkO [(0,27),(1,28),(2,29),(3,30),(4,31),(5,32),(6,33),(8,35),(9,36),(10,37),(11,38),(12,39)] ?_
    repeat (refine tkY ?_ rfl (by rfl) ?_ ?_;rotate_left;(focus (intro wq hSw;(try dsimp only at hSw);first | (go_simp;done) | (go_simp;with_reducible rfl)));simp only [zP])
    refine tkZ ?_;refine zR 7 rfl (fun K hK=>?_);go_simp
    (go_at_call 30;refine (zad _ B a len cap _ (by first | omega | (simp;omega)) (by first | omega | (simp;omega)) HC1.out.drew).mono ?_;rintro e X2 ⟨xk,rfl,hk0,hk1,hc2,hg2⟩;have HD2:Hid (Dk18 X2 L Q va vc n xs ts ep nw jr):=(HD1.out.1.keep (zap X1 none) (by simp)).keep hg2 (fun k e=>by injection e with e;have:=HBL.out;omega);have HC2:Hid (Cur X2 B a len cap):=hc2;have HK2:Hid (Kp18 B L w X2):=Kp18.next (HK1.out.trans (zb2.of_grown (zap X1 none) (by simp))) hg2;clear hc2 hg2 q0 q1;have q0:=HD2.out.b4.c0;have q1:=HD2.out.b4.c1)
    refine hK.out _ _ ?_ (fun hHeld=>?_)
    ·exact ⟨q0,q1⟩
    clear hK K;refine zR 13 rfl (fun K hK=>?_);go_simp
    (go_at_call 30;refine (zad _ B a len cap 99 (by omega) (by omega) HC2.out).mono ?_;rintro e X3 ⟨xy,rfl,hy0,hy1,hc3,hg3⟩;have HD3:Hid (Dk18 X3 L Q va vc n xs ts ep nw jr):=HD2.out.keep hg3 (fun k e=>by injection e with e;have:=HBL.out;omega);have HC3:Hid (Cur X3 B a len cap):=hc3;have HK3:Hid (Kp18 B L w X3):=HK2.out.next hg3;clear hc3 hg3 q0 q1;have q0:=HD3.out.b4.c0;have q1:=HD3.out.b4.c1)
    refine hK.out _ _ ?_ (fun hHeld=>?_)
    ·exact ⟨q0,q1⟩
    clear hK K;refine zR 14 rfl (fun K hK=>?_);go_simp
    (go_at_call 47;refine Calls.mono (HNext.out xk xy X3 hk0 (by omega) hy0 (by omega) HK3.out HD3.out HC3.out) ?_;rintro e X4 ⟨⟨r,rfl⟩,⟨xs4,ts4,jr4,hd4,hok4,hj4⟩,hc4,hk4⟩;have HD4:Hid (Dk18 X4 L Q va vc n xs4 ts4 ep nw jr4∧zac (ts4,ep,nw,jr4)=true):=⟨hd4,hok4⟩;have HC4:Hid (Cur X4 B a len cap):=hc4;have HK4:Hid (Kp18 B L w X4):=hk4;clear hd4 hok4 hc4 hk4 q0 q1;have q0:=HD4.out.1.b4.c0;have q1:=HD4.out.1.b4.c1)
    refine hK.out _ _ ?_ (fun hHeld=>?_)
    ·exact ⟨q0,q1⟩
    clear hK K;refine wpAnyH_done (by kernel_rfl) ?_ _;clear q0 q1 HD1 HC1 HK1 HNext;go_wp2;go_roundw
    case rel=>exact ⟨m-1,va,vc,n,xs4,ts4,ep,nw,jr4,by go_num,by omega,by omega,HD4,HC4,HK4⟩
    case measure=>simp [intOf];omega
  ·
   have HD1b:Hid (_):=HD1;go_wp2_with fail
   refine (zad _ B a len cap 9 (by omega) (by omega) HC1.out).mono ?_;rintro e X2 ⟨x9,rfl,hx0,hx1,hc2,hg2⟩;have HD2:Hid (Dk18 X2 L Q va vc n xs ts ep nw jr):=HD1.out.1.keep hg2 (fun k e=>by injection e with e;have:=HBL.out;omega);have HC2:Hid (Cur X2 B a len cap):=hc2;have HK2:Hid (Kp18 B L w X2):=HK1.out.next hg2;clear hc2 hg2 HC1 HK1;have HTk:Hid (_):=zlC Q _ _ _ nw x9 X2 HD2.out.b4 hnw.1 hnw.2 (by omega) (by omega);have HTr:Hid (_):=zhr (n:=x9) HD1.out.2;have HTi:Hid (Below L X2 (X2.setCell ⟨Q,2,none⟩ (.int .i64 (nw+x9)))):=(Below.refl L X2).setCell HD2.out.q _;generalize hib:inB x9 0 (1000000-nw)=tb at HTk HTr;clear hib HD1b;go_wp2_with fail
   refine Calls.mono HTk.out ?_;rintro e X3 ⟨rfl,hX3⟩
   obtain ⟨nw3,HD3,HC3,HK3⟩:∃ nw3,Hid (Dk18 X3 L Q va vc n xs ts ep nw3 jr∧zac (ts,ep,nw3,jr)=true)∧Hid (Cur X3 B a len cap)∧Hid (Kp18 B L w X3):=by
    rcases tb with _ | _
    ·rw [if_neg (by simp)] at hX3;subst hX3;exact ⟨nw,⟨HD2.out,HD1.out.2⟩,HC2,HK2⟩
    ·
     rw [if_pos rfl] at hX3;subst hX3;have hgr:=zae X2 Q 2 (.int .i64 (nw+x9))
     have hoff:∀ v:Value,(∀ k,v.ownBlock=some k→k≠Q)→v.ownBlock=none∨v.ownBlock≠some Q:=fun v hv=>by
      rcases hk:v.ownBlock with _ | k
      ·exact Or.inl rfl
      ·exact Or.inr (fun e=>by injection e with e;exact hv k hk e)
     exact ⟨nw+x9,⟨⟨HD2.out.b4.s2 _,HD2.out.own.kept hgr (hoff _ (fun k hk=>HD2.out.ne k (Or.inl hk))) (fun x hx=>hoff _ (fun k hk=>HD2.out.ne k (Or.inr ⟨x,hx,hk⟩))),HD2.out.eq,HD2.out.ap,HD2.out.ne,HD2.out.hn,HD2.out.q,Nat.le_trans HD2.out.ls HTi.out.size⟩,HTr.out rfl⟩,HC2.out.belowL HTi.out HBL.out,HK2.out.up HTi.out⟩
   clear hX3 HTk HTr HTi HD1 HD2 HC2 HK2 hnw;go_wp2_with fail
   refine (zbO _ B a len cap 3 (by omega) (by omega) HC3.out).mono ?_;rintro e X4 ⟨once,rfl,hc4,hg4⟩;have HD4:Hid (Dk18 X4 L Q va vc n xs ts ep nw3 jr∧zac (ts,ep,nw3,jr)=true):=⟨HD3.out.1.keep hg4 (fun k e=>by injection e with e;have:=HBL.out;omega),HD3.out.2⟩;have HC4:Hid (Cur X4 B a len cap):=hc4;have HK4:Hid (Kp18 B L w X4):=HK3.out.next hg4;clear hc4 hg4 HD3 HC3 HK3;rcases once with _ | _
   ·
    go_wp2;go_roundw
    case rel=>exact ⟨m-1,va,vc,n,xs,ts,ep,nw3,jr,by go_num,by omega,by omega,HD4,HC4,HK4⟩
    case measure=>simp [intOf];omega
   ·
    have q3:=HD4.out.1.b4.c3;have HR5:Hid (_):=HRb.out jr X4 HK4.out hjr;have HRr:Hid (_):=znX (ps:=ps) (jr:=jr);have hrj:=reb_j (ps:=ps) (jr:=jr);have HRs:Hid (∀ d,(rebV ps jr)=(d,true)→True):=fun _ _=>trivial
    generalize rebV ps jr=res at HR5 HRr HRs hrj;obtain ⟨⟨ts5,ep5,nw5,jr5⟩,is⟩:=res;simp only at HR5 HRr hrj;clear HRs;go_wp2_with fail
    refine Calls.mono HR5.out ?_;rintro e X5 ⟨_,rfl,va5,vc5,xs5,rfl,hx5,ho5,ha5,hb5⟩;simp only at hx5 ho5;obtain ⟨n5,hn5⟩:∃ n,ts5.length=n:=⟨_,rfl⟩
    rw [hn5] at ho5 ⊢;obtain ⟨P,hP⟩:∃ P,X5.heap.size=P:=⟨_,rfl⟩
    obtain ⟨Z0,hZ0⟩:∃ Z0,X5.alloc (.cells #[.slice none 0 0,.int .i64 0,.int .i64 0,.string ⟨#[]⟩] 26)=Z0:=⟨_,rfl⟩
    have bz:=B4.new X5 (.slice none 0 0) (.int .i64 0) (.int .i64 0) (.string ⟨#[]⟩) 26;have hbZ:Below X5.heap.size X5 Z0:=by rw [←hZ0];exact (Below.refl _ _).alloc (Nat.le_refl _) _
    rw [hZ0] at bz;rw [hP] at bz hbZ;have z0:=bz.c0;have z1:=bz.c1;have z2:=bz.c2;have z3:=bz.c3;have zf:=bz.fr;have b4:=(((bz.s0 (.slice va5 n5 vc5)).s1 (.int .i64 ep5)).s2 (.int .i64 nw5)).s3 (.string ⟨jr5.toArray⟩);have hbX:Below P X5 ((((Z0.setCell ⟨P,0,none⟩ (.slice va5 n5 vc5)).setCell ⟨P,1,none⟩ (.int .i64 ep5)).setCell ⟨P,2,none⟩ (.int .i64 nw5)).setCell ⟨P,3,none⟩ (.string ⟨jr5.toArray⟩)):=(((hbZ.setCell (Nat.le_refl _) _).setCell (Nat.le_refl _) _).setCell (Nat.le_refl _) _).setCell (Nat.le_refl _) _;obtain ⟨X6,hX6⟩:∃ W,(((Z0.setCell ⟨P,0,none⟩ (.slice va5 n5 vc5)).setCell ⟨P,1,none⟩ (.int .i64 ep5)).setCell ⟨P,2,none⟩ (.int .i64 nw5)).setCell ⟨P,3,none⟩ (.string ⟨jr5.toArray⟩)=W:=⟨_,rfl⟩
    rw [hX6] at b4 hbX;rw [←hP] at hbX;have hb46:Below X4.heap.size X4 X6:=hb5.trans (hbX.mono hb5.size);have HD6:Hid (Dk18 X6 L Q va vc n xs ts ep nw3 jr∧zac (ts,ep,nw3,jr)=true):=⟨HD4.out.1.below hb46,HD4.out.2⟩;have HC6:Hid (Cur X6 B a len cap):=HC4.out.below hb46;have HK6:Hid (Kp18 B L w X6):=HK4.out.up (hb46.mono HD4.out.1.ls);have HO6:Hid (za2 X6 X4.heap.size (.slice va5 n5 vc5) xs5∧xs5.map (·.1)=ts5∧zai (xs5.map tvT)∧ts5.length=n5∧Q<X4.heap.size∧L≤X4.heap.size):=⟨ho5.below hbX,hx5,ha5,hn5,HD4.out.1.b4.lt,HD4.out.1.ls⟩;have HP6:Hid (B4 X6 P (.slice va5 n5 vc5) (.int .i64 ep5) (.int .i64 nw5) (.string ⟨jr5.toArray⟩)):=b4;clear q3 ho5 hx5 ha5 hb5 hbX hb46 bz hbZ b4 HD4 HC4 HK4 HR5;rcases is with _ | _
    ·
     go_wp2;go_roundw
     case rel=>exact ⟨m-1,va,vc,n,xs,ts,ep,nw3,jr,by go_num,by omega,by omega,HD6,HC6,HK6⟩
     case measure=>simp [intOf];omega
    ·
     have HOk:Hid (zac (ts5,ep5,nw5,jr5)=true):=HRr.out rfl;have r0:=HD6.out.1.b4.c0;have r1:=HD6.out.1.b4.c1;have r2:=HD6.out.1.b4.c2;have r3:=HD6.out.1.b4.c3;have f0:=HD6.out.1.b4.fr 0;have f1:=HD6.out.1.b4.fr 1;have f2:=HD6.out.1.b4.fr 2;have f3:=HD6.out.1.b4.fr 3;have p0:=HP6.out.c0;have p1:=HP6.out.c1;have p2:=HP6.out.c2;have p3:=HP6.out.c3;have b7:=(((HD6.out.1.b4.s0 (.slice va5 n5 vc5)).s1 (.int .i64 ep5)).s2 (.int .i64 nw5)).s3 (.string ⟨jr5.toArray⟩);obtain ⟨X7,hX7,y0,y1,y2,y3,hg7⟩:=set4 (.slice va5 n5 vc5) (.int .i64 ep5) (.int .i64 nw5) (.string ⟨jr5.toArray⟩) r0 r1 r2 r3;rw [hX7] at b7
     have HD7:Hid (Dk18 X7 L Q va5 vc5 n5 xs5 ts5 ep5 nw5 jr5∧zac (ts5,ep5,nw5,jr5)=true):=by
      obtain ⟨h1,h2,h3,h4,h5,h6⟩:=HO6.out
      have hne:∀ k,zan (.slice va5 n5 vc5) xs5 k→k≠Q:=fun k hk e=>by
       subst e;rcases hk with e | ⟨x,hx,e⟩
       ·have:=(h1.row.lt _ e).1;omega
       ·have:=((h1.trees x hx).lt _ e).1;omega
      have hoff:∀ v:Value,(∀ k,v.ownBlock=some k→k≠Q)→v.ownBlock=none∨v.ownBlock≠some Q:=fun v hv=>by
       rcases hk:v.ownBlock with _ | k
       ·exact Or.inl rfl
       ·exact Or.inr (fun e=>by injection e with e;exact hv k hk e)
      exact ⟨⟨b7,(h1.kept hg7 (hoff _ (fun k hk=>hne k (Or.inl hk))) (fun x hx=>hoff _ (fun k hk=>hne k (Or.inr ⟨x,hx,hk⟩)))).base h6,h2,h3,hne,h4,HD6.out.1.q,Nat.le_trans HD6.out.1.ls hg7.size⟩,HOk.out⟩
     have hb7:Below L X6 X7:=(Below.refl L X6).grown hg7 HD6.out.1.ls (fun k e=>by injection e with e;have:=HD6.out.1.q;omega);have HC7:Hid (Cur X7 B a len cap):=HC6.out.belowL hb7 HBL.out;have HK7:Hid (Kp18 B L w X7):=HK6.out.up hb7;clear b7 hg7 hb7 y0 y1 y2 y3 HD6 HC6 HK6 HO6 HP6 HOk HRr;go_wp2
     (try rw [hX7])
     go_roundw
     case rel=>exact ⟨m-1,va5,vc5,n5,xs5,ts5,ep5,nw5,jr5,by go_num,by omega,by omega,HD7,HC7,HK7⟩
     case measure=>simp [intOf];omega
theorem pvsV_nm (ys:List PV) (j:Nat) (x:List UInt8):(pvsV ys).set (j*3) (.string ⟨x.toArray⟩)=pvsV (ys.set j { ys.getD j pv0 with nm:=x }):=by
 induction ys generalizing j with
 | nil=>simp [pvsV]
 | cons b r ih =>
  cases j with
  | zero=>simp [pvsV,pvI,pvF]
  | succ j=>rw [show (j+1)*3=j*3+1+1+1 by omega];simp [pvsV,ih]
theorem pvsV_im (ys:List PV) (j:Nat) (ia:Option Addr) (ic:Nat) (ims:List (List UInt8)):(pvsV ys).set (j*3+1) (.slice ia ims.length ic)=pvsV (ys.set j { ys.getD j pv0 with ia:=ia,ic:=ic,ims:=ims }):=by
 induction ys generalizing j with
 | nil=>simp [pvsV]
 | cons b r ih =>
  cases j with
  | zero=>simp [pvsV,pvI,pvF]
  | succ j=>rw [show (j+1)*3+1=j*3+1+1+1+1 by omega];simp [pvsV,ih]
theorem pvsV_xs (ys:List PV) (j:Nat) (xs:List FV) (h:xs.length=(ys.getD j pv0).xs.length):pvsV ys=pvsV (ys.set j { ys.getD j pv0 with xs:=xs }):=by
 induction ys generalizing j with
 | nil=>simp [pvsV]
 | cons b r ih =>
  cases j with
  | zero=>simp at h;simp [pvsV,pvI,pvF,h]
  | succ j=>simp at h;simp [pvsV];exact ih j (by simpa using h)
structure Y8 (X:World) (base:Nat) (y:PV):Prop where
 im:X.ownsRow base 9 1 (pvI y) y.ims.length (strV y.ims)
 fo:zaU X base (pvF y) y.xs
 sm:zdU y.xs
 n:1≤y.xs.length∧y.xs.length≤3
 nm:y.nm.length≤9
 is:y.ims.length≤9∧∀ t∈y.ims,t.length≤9
structure Q8 (X w:World) (B:Nat) (a:Option Addr) (len cap:Nat) (g lc:Nat) (ys:List PV):Prop where
 row:X.ownsRow w.heap.size 99 3 (.slice (some ⟨g,0,none⟩) ys.length lc) ys.length (pvsV ys)
 each:∀ y∈ys,Y8 X w.heap.size y
 cur:Cur X B a len cap
 g:w.grownBy X (some B)
 br:B<w.heap.size
 n:1≤ys.length∧ys.length≤4
structure A8 (ys:List PV):Prop where
 ap:∀ i j,i<ys.length→j<ys.length→i≠j→(pvF (ys.getD i pv0)).ownBlock≠(pvF (ys.getD j pv0)).ownBlock
 sa:∀ y∈ys,∃ g,y.ia=some ⟨g,0,none⟩
 il:∀ y∈ys,y.ims.length≤8
theorem Y8.kept {X Y:World} {base:Nat} {y:PV} {row:Option Nat} (h:Y8 X base y) (hg:X.grownBy Y row) (h1:(pvI y).ownBlock=none∨(pvI y).ownBlock≠row) (h2:(pvF y).ownBlock=none∨(pvF y).ownBlock≠row) (h3:∀ x∈y.xs,(fvT x).ownBlock=none∨(fvT x).ownBlock≠row):Y8 Y base y :=
 ⟨h.im.kept hg h1,h.fo.kept hg h2 h3,h.sm,h.n,h.nm,h.is⟩
theorem Y8.pk {X Y:World} {base b2 n:Nat} {v:Value} {zs:List Value} {y:PV} (h:Y8 X base y) (ho:X.ownsRow b2 99 3 v n zs) (hg:X.grownBy Y v.ownBlock):Y8 Y base y :=
 h.kept hg (zam h.im ho (by decide)) (zam h.fo.row ho (by decide)) (fun x hx=>zam (h.fo.trees x hx) ho (by decide))
section
variable {X Y w:World} {B:Nat} {a:Option Addr} {len cap g lc:Nat} {ys:List PV}
theorem Q8.next (h:Q8 X w B a len cap g lc ys) (hg:X.grownBy Y (some B)) (hc:Cur Y B a len cap):Q8 Y w B a len cap g lc ys:=by
 have hbr:=h.br;have hlt:∀ k,some B=some k→k<w.heap.size:=fun k e=>by injection e with e;omega
 exact ⟨zck h.row hg hlt,fun y hy=>⟨zck (h.each y hy).im hg hlt,(h.each y hy).fo.grown hg hlt,(h.each y hy).sm,(h.each y hy).n,(h.each y hy).nm,(h.each y hy).is⟩,hc,h.g.trans hg,hbr,h.n⟩
theorem Q8.made (h:Q8 X w B a len cap g lc ys) (hg:X.grownBy Y none):Q8 Y w B a len cap g lc ys :=
 ⟨zcX h.row hg,fun y hy=>⟨zcX (h.each y hy).im hg,(h.each y hy).fo.none hg,(h.each y hy).sm,(h.each y hy).n,(h.each y hy).nm,(h.each y hy).is⟩,h.cur.kept hg (by simp),h.g.andThen hg (by simp),h.br,h.n⟩
theorem Q8.drew (h:Q8 X w B a len cap g lc ys):Q8 X.drew w B a len cap g lc ys:=h.made (zap X none)
theorem Q8.alloc (h:Q8 X w B a len cap g lc ys) (o:Obj):Q8 (X.alloc o) w B a len cap g lc ys:=h.made (World.grownBy_alloc X o none)
theorem Q8.below (h:Q8 X w B a len cap g lc ys) (hb:Below X.heap.size X Y):Q8 Y w B a len cap g lc ys:=h.made (Below.by hb)
theorem D8.q8 {N L:Nat} {vc:Value} {cs:List Nd} (h:D8 X w B a len cap N L (some ⟨g,0,none⟩) lc ys vc cs) (hn:1≤ys.length∧ys.length≤4):Q8 X w B a len cap g lc ys∧A8 ys:=by
 refine ⟨⟨h.row,fun y hy=>?_,h.cur,h.g,h.br,hn⟩,⟨fun i j hi hj hij=>?_,fun y hy=>(h.each y hy).1.sa,fun y hy=>(h.each y hy).1.im.1⟩⟩
 ·obtain ⟨h1,h2,_⟩:=h.each y hy;exact ⟨zaD h1.ok.im h2,h1.ok.fo.base h2,h1.sm.small,h1.n,h1.nm,⟨by have:=h1.im.1;omega,h1.im.2⟩⟩
 ·
  have key:∀ i j,i<j→j<ys.length→(pvF (ys.getD i pv0)).ownBlock≠(pvF (ys.getD j pv0)).ownBlock:=fun i j hij hj e=>by
   have hi:i<ys.length:=by omega
   have e1:ys.getD i pv0=ys[i]:=by simp [List.getD,hi]
   have e2:ys.getD j pv0=ys[j]:=by simp [List.getD,hj]
   rw [e1,e2] at e;have hs:=List.pairwise_iff_getElem.1 h.seq i j hi hj hij;have hy:=(h.each ys[i] (List.getElem_mem hi)).1;have hz:=(h.each ys[j] (List.getElem_mem hj)).1;obtain ⟨k1,c1,e3⟩:=zaw hy.ok.fo.row (by have:=hy.n;omega);have b1:(pvF ys[i]).ownBlock=some k1:=by rw [e3];rfl
   have b2:=b1;rw [e] at b2;have t1:=hy.ok.top k1 (Or.inr (Or.inl b1));have t2:=(hz.ok.fo.row.lt k1 b2).1;omega
  rcases Nat.lt_or_gt_of_ne hij with h1 | h1
  ·exact key i j h1 hj
  ·exact fun e=>key j i h1 hi e.symm
theorem zlH {P:PV→Prop} {y:PV} {j:Nat} (h:∀ z∈ys,P z) (hy:P y):∀ z∈ys.set j y,P z:=fun z hz=>by
 rcases List.mem_or_eq_of_mem_set hz with h1 | rfl
 ·exact h z h1
 ·exact hy
theorem Q8.at (h:Q8 X w B a len cap g lc ys) {j:Nat} (hj:j<ys.length):Y8 X w.heap.size (ys.getD j pv0):=h.each _ (by simp [List.getD,hj])
theorem Q8.keep (h:Q8 X w B a len cap g lc ys) {row:Option Nat} (hg:X.grownBy Y row) (hr:∀ k,row=some k→w.heap.size≤k):Cur Y B a len cap∧w.grownBy Y (some B):=by
 have hbr:=h.br;exact ⟨h.cur.kept hg (fun k e=>by have:=hr k e;omega),h.g.andThen hg (fun k e=>Or.inl (hr k e))⟩
theorem Q8.name (h:Q8 X w B a len cap g lc ys) {j:Nat} (hj:j<ys.length) (x:List UInt8) (hx:x.length≤9):Q8 (X.setCell ⟨g,j*3,none⟩ (.string ⟨x.toArray⟩)) w B a len cap g lc (ys.set j { ys.getD j pv0 with nm:=x }):=by
 obtain ⟨hr,hg⟩:=h.row.stored (j*3) (.string ⟨x.toArray⟩);have hy:=h.at hj;obtain ⟨hc,hgw⟩:=h.keep hg (fun k e=>(h.row.lt k (by rw [←e];rfl)).1);have hl:(ys.set j { ys.getD j pv0 with nm:=x }).length=ys.length:=by simp
 refine ⟨by rw [hl,←pvsV_nm];exact hr,zlH (fun z hz=>(h.each z hz).pk h.row hg) ?_,hc,hgw,h.br,by rw [hl];exact h.n⟩;have h2:=hy.pk h.row hg;exact ⟨h2.im,h2.fo,h2.sm,h2.n,hx,h2.is⟩
theorem Q8.imps (h:Q8 X w B a len cap g lc ys) {j:Nat} (hj:j<ys.length) {ia:Option Addr} {ic:Nat} {ims:List (List UInt8)} (hi:X.ownsRow w.heap.size 9 1 (.slice ia ims.length ic) ims.length (strV ims)) (hs:ims.length≤9∧∀ t∈ims,t.length≤9):Q8 (X.setCell ⟨g,j*3+1,none⟩ (.slice ia ims.length ic)) w B a len cap g lc (ys.set j { ys.getD j pv0 with ia:=ia,ic:=ic,ims:=ims }):=by
 obtain ⟨hr,hg⟩:=h.row.stored (j*3+1) (.slice ia ims.length ic);have hy:=h.at hj;obtain ⟨hc,hgw⟩:=h.keep hg (fun k e=>(h.row.lt k (by rw [←e];rfl)).1);have hl:(ys.set j { ys.getD j pv0 with ia:=ia,ic:=ic,ims:=ims }).length=ys.length:=by simp
 refine ⟨by rw [hl,←pvsV_im];exact hr,zlH (fun z hz=>(h.each z hz).pk h.row hg) ?_,hc,hgw,h.br,by rw [hl];exact h.n⟩;have h2:=hy.pk h.row hg;exact ⟨hi.kept hg (zam hi h.row (by decide)),h2.fo,h2.sm,h2.n,h2.nm,hs⟩
end
theorem zn2 {ims:List (List UInt8)} (h:∀ t∈ims,t.length≤9) (i:Nat):(ims.getD i []).length≤1048576:=by
 rw [List.getD_eq_getElem?_getD];cases hj:ims[i]? with
 | none=>simp
 | some t=>exact Nat.le_trans (h t (List.mem_of_getElem? hj)) (by omega)
theorem xs8_fn {xs:List FV} (h:zdU xs) (j:Nat):ziT ((xs.map (·.1)).getD j fn0):=by
 rw [List.getD_eq_getElem?_getD,List.getElem?_map];cases hj:xs[j]? with
 | none=>exact ⟨by decide,⟨by decide,by decide⟩,by decide,fun n hn=>by cases hn⟩
 | some t=>exact h t (List.mem_of_getElem? hj)
theorem znu {xs:List FV} (h:zdU xs):zg5 (xs.map (·.1)):=fun j =>
 have hs:=xs8_fn h j
 ⟨Nat.le_trans hs.1 (by omega),Nat.le_trans hs.2.2.1 (by omega),hs.2.2.2.short⟩
theorem xs8_int {xs:List FV} (h:zdU xs):IntF (xs.map (·.1)):=fun j =>
 have hs:=xs8_fn h j
 ⟨⟨by have:=hs.2.1;omega,by have:=hs.2.1;omega⟩,hs.2.2.2.int⟩
theorem znv {xs:List FV} {x:FV} (h:zdU xs) (hx:ziT x.1):zdU (xs.set 0 x):=fun t ht=>(List.mem_or_eq_of_mem_set ht).elim (h t) (fun e=>by rw [e];exact hx)
theorem first8 {xs:List FV} (h:1≤xs.length):xs.getD 0 fv0∈xs:=by
 cases xs with
 | nil=>simp at h
 | cons z r=>simp
section
variable {X Y w:World} {B:Nat} {a:Option Addr} {len cap g lc:Nat} {ys:List PV}
theorem Q8.fns (h:Q8 X w B a len cap g lc ys) (hA:A8 ys) {j:Nat} (hj:j<ys.length) {xs:List FV} (hg:X.grownBy Y (pvF (ys.getD j pv0)).ownBlock) (hf:zaU Y w.heap.size (pvF { ys.getD j pv0 with xs:=xs }) xs) (hl:xs.length=(ys.getD j pv0).xs.length) (hs:zdU xs):Q8 Y w B a len cap g lc (ys.set j { ys.getD j pv0 with xs:=xs }):=by
 have hy:=h.at hj;obtain ⟨hc,hgw⟩:=h.keep hg (fun k e=>(hy.fo.row.lt k e).1);have hll:(ys.set j { ys.getD j pv0 with xs:=xs }).length=ys.length:=by simp
 refine ⟨by rw [hll,←pvsV_xs ys j xs hl];exact h.row.kept hg (zam h.row hy.fo.row (by decide)),fun z hz=>?_,hc,hgw,h.br,by rw [hll];exact h.n⟩;obtain ⟨i,hi,rfl⟩:=List.mem_iff_getElem.1 hz;rw [List.getElem_set];rw [hll] at hi
 split
 ·exact ⟨hy.im.kept hg (zam hy.im hy.fo.row (by decide)),hf,hs,by show 1≤xs.length∧xs.length≤3;rw [hl];exact hy.n,hy.nm,hy.is⟩
 ·
  rename_i hij;have hz2:=h.each ys[i] (List.getElem_mem hi);have e1:ys.getD i pv0=ys[i]:=by simp [List.getD,hi]
  have hap:=hA.ap i j hi hj (fun e=>hij e.symm);rw [e1] at hap;exact hz2.kept hg (zam hz2.im hy.fo.row (by decide)) (Or.inr hap) (fun x hx=>zam (hz2.fo.trees x hx) hy.fo.row (by decide))
theorem Q8.fn0 (h:Q8 X w B a len cap g lc ys) {j:Nat} (hj:j<ys.length):∃ gF,(ys.getD j pv0).fa=some ⟨gF,0,none⟩:=by
 have hy:=h.at hj;obtain ⟨gF,c,e⟩:=zaw hy.fo.row (by have:=hy.n;omega);unfold pvF at e;injection e with e;exact ⟨gF,e⟩
theorem Q8.args (h:Q8 X w B a len cap g lc ys) (hA:A8 ys) {j:Nat} (hj:j<ys.length) {gF:Nat} (hF:(ys.getD j pv0).fa=some ⟨gF,0,none⟩) (y:Int) (hy0:-10≤y∧y≤10):∃ ys',ys'.length=ys.length∧Q8 (X.setCell ⟨gF,1,none⟩ (.int .i64 y)) w B a len cap g lc ys':=by
 have hy:=h.at hj;have hb:(pvF (ys.getD j pv0)).ownBlock=some gF:=by unfold pvF;rw [hF];rfl
 have hfo:=hy.fo;have hF2:pvF (ys.getD j pv0)=.slice (some ⟨gF,0,none⟩) (ys.getD j pv0).xs.length (ys.getD j pv0).fc:=by unfold pvF;rw [hF]
 rw [hF2] at hfo;obtain ⟨hr,hg⟩:=hfo.row.stored 1 (.int .i64 y);have hn:=hy.n;have hsm:=hy.sm;refine ⟨_,?_,h.fns hA hj (xs:=(ys.getD j pv0).xs.set 0 ((((ys.getD j pv0).xs.getD 0 fv0).1.1,y,((ys.getD j pv0).xs.getD 0 fv0).1.2.2),((ys.getD j pv0).xs.getD 0 fv0).2)) (by rw [hb];exact hg) ?_ (by simp) ?_⟩
 ·simp
 ·
  unfold pvF;simp only [hF]
  revert hfo hr hn
  generalize (ys.getD j pv0).xs=xs;intro hfo hr hn;obtain ⟨z,r,rfl⟩:∃ z r,xs=z :: r:=by cases xs with | nil=>simp at hn | cons z r=>exact ⟨z,r,rfl⟩
  refine ⟨hr,fun x hx=>?_⟩;rcases List.mem_cons.1 hx with rfl | hx
  ·exact (hfo.trees z (by simp)).kept hg (zam (hfo.trees z (by simp)) hfo.row (by decide))
  ·exact (hfo.trees x (by simp [hx])).kept hg (zam (hfo.trees x (by simp [hx])) hfo.row (by decide))
 ·have hz:=hsm _ (first8 hn.1);exact znv hsm ⟨hz.1,hy0,hz.2.2⟩
theorem Q8.tree (h:Q8 X w B a len cap g lc ys) (hA:A8 ys) {j:Nat} (hj:j<ys.length) {gF:Nat} (hF:(ys.getD j pv0).fa=some ⟨gF,0,none⟩) (ta:Option Addr) (tc:Nat) (t:List Nd) (ho:X.ownsRow w.heap.size 104 4 (.slice ta t.length tc) t.length (zah t)) (ht:t.length≤100) (hts:zbp t):∃ ys',ys'.length=ys.length∧Q8 (X.setCell ⟨gF,2,none⟩ (.slice ta t.length tc)) w B a len cap g lc ys':=by
 have hy:=h.at hj;have hb:(pvF (ys.getD j pv0)).ownBlock=some gF:=by unfold pvF;rw [hF];rfl
 have hfo:=hy.fo;have hF2:pvF (ys.getD j pv0)=.slice (some ⟨gF,0,none⟩) (ys.getD j pv0).xs.length (ys.getD j pv0).fc:=by unfold pvF;rw [hF]
 rw [hF2] at hfo;obtain ⟨hr,hg⟩:=hfo.row.stored 2 (.slice ta t.length tc);have hn:=hy.n;have hsm:=hy.sm;refine ⟨_,?_,h.fns hA hj (xs:=(ys.getD j pv0).xs.set 0 ((((ys.getD j pv0).xs.getD 0 fv0).1.1,((ys.getD j pv0).xs.getD 0 fv0).1.2.1,t),ta,tc)) (by rw [hb];exact hg) ?_ (by simp) ?_⟩
 ·simp
 ·
  unfold pvF;simp only [hF]
  revert hfo hr hn
  generalize (ys.getD j pv0).xs=xs;intro hfo hr hn;obtain ⟨z,r,rfl⟩:∃ z r,xs=z :: r:=by cases xs with | nil=>simp at hn | cons z r=>exact ⟨z,r,rfl⟩
  refine ⟨hr,fun x hx=>?_⟩;rcases List.mem_cons.1 hx with rfl | hx
  ·exact ho.kept hg (zam ho hfo.row (by decide))
  ·exact (hfo.trees x (by simp [hx])).kept hg (zam (hfo.trees x (by simp [hx])) hfo.row (by decide))
 ·have hz:=hsm _ (first8 hn.1);exact znv hsm ⟨hz.1,hz.2.1,ht,hts⟩
theorem zlK {base:Nat} (hrow:X.ownsRow base 99 3 (.slice (some ⟨g,0,none⟩) ys.length lc) ys.length (pvsV ys)) (heach:∀ y∈ys,Y8 X base y) (hn8:1≤ys.length∧ys.length≤4):zab X (some ⟨g,0,none⟩) ys.length lc (ys.map pvP):=by
 have hcap:ys.length≤lc:=by
  rcases hrow.2 with ⟨e,_⟩ | ⟨g',cap',cur,e,_,_,hc,_⟩
  ·cases e
  ·injection e with _ _ e3;rw [e3];exact hc
 refine ⟨by simp,(fun e=>(by cases e)),hcap,by omega,fun j hj=>?_⟩;obtain ⟨v0,v1,v2⟩:=zo0 ys j hj;have hc:=fun k (hk:k<ys.length*3)=>World.ownsRow.cellAt hrow k hk
 have hy:=heach (ys.getD j pv0) (by simp [List.getD,hj]);obtain ⟨ai,ci,af,cf,e1,e2,h3,h4,hti,hfi⟩:=own_pk hy.im hy.fo rfl;have hn:=hy.n;have his:=hy.is;have hnm:=hy.nm;rw [zlh ys j];refine ⟨g,0,rfl,(hrow.lt g rfl).2,?_,ai,(ys.getD j pv0).ims.length,ci,af,((ys.getD j pv0).xs.map (fun x:FV=>x.1)).length,cf,?_,?_,⟨hti,hfi,h3,h4,xs8_int hy.sm,by omega,by rw [List.length_map];omega,by show (ys.getD j pv0).nm.length≤1048576;omega,fun i=>zn2 his.2 i,znu hy.sm⟩⟩
 ·rw [Nat.zero_add,hc _ (by omega),v0];rfl
 ·rw [Nat.zero_add,hc _ (by omega),v1,e1]
 ·rw [Nat.zero_add,hc _ (by omega),v2,e2]
theorem zab.take {w:World} {a:Option Addr} {len cap n:Nat} {ps:List Pk} (h:zab w a len cap ps) (hn:n≤len):zab w a n cap (ps.take n):=by
 have hl:=h.hlen;have hc:=h.hcap;have hs:=h.small;refine ⟨by simp;omega,h.nil,by omega,by omega,fun j hj=>?_⟩;have e:(ps.take n).getD j pk0=ps.getD j pk0:=by simp [List.getD,hj]
 rw [e];exact h.each j (by omega)
theorem Q8.ok (h:Q8 X w B a len cap g lc ys):zab X (some ⟨g,0,none⟩) ys.length lc (ys.map pvP):=zlK h.row h.each h.n
def zff (X Y:World) (b:Nat):Prop:=X.heap.size≤Y.heap.size∧∀ k,b≤k→k<X.heap.size→Y.heap[k]?=X.heap[k]?
theorem zeN {X Y:World} {b base e size n:Nat} {v:Value} {xs:List Value} (h:X.ownsRow base e size v n xs) (hb:b≤base) (ha:zff X Y b):Y.ownsRow base e size v n xs:=by
 refine ⟨h.1,?_⟩;rcases h.2 with hn | ⟨g,cap,cur,rfl,hbg,hgg,rest⟩
 ·exact .inl hn
 ·refine .inr ⟨g,cap,cur,rfl,hbg,?_,rest⟩;rw [ha.2 g (by omega) (Array.getElem?_eq_some_iff.1 hgg).1];exact hgg
theorem zff.of_grown {X Y:World} {b B:Nat} (hg:X.grownBy Y (some B)) (hB:B<b):zff X Y b:=⟨hg.size,fun k hk hkl=>hg.block k hkl (fun e=>by injection e with e;omega)⟩
theorem zff.refl (X:World) (b:Nat):zff X X b:=⟨Nat.le_refl _,fun _ _ _=>rfl⟩
theorem Q8.okA (h:Q8 X w B a len cap g lc ys) (ha:zff X Y w.heap.size):zab Y (some ⟨g,0,none⟩) ys.length lc (ys.map pvP) :=
 zlK (zeN h.row (Nat.le_refl _) ha) (fun y hy=>⟨zeN (h.each y hy).im (Nat.le_refl _) ha,⟨zeN (h.each y hy).fo.row (Nat.le_refl _) ha,fun x hx=>zeN ((h.each y hy).fo.trees x hx) (Nat.le_refl _) ha⟩,(h.each y hy).sm,(h.each y hy).n,(h.each y hy).nm,(h.each y hy).is⟩) h.n
def L8 (w wx:World) (B:Nat) (a:Option Addr) (len cap:Nat) (v:Value):Prop :=
 ∃ la n lc ps,v=.slice la n lc∧(1≤n∧n≤4∧∀ b off,la=some ⟨b,off,none⟩→w.heap.size≤b)∧(∀ Y,zff wx Y w.heap.size→zab Y la n lc ps)∧Cur wx B a len cap∧w.grownBy wx (some B)
theorem Q8.l8 (h:Q8 X w B a len cap g lc ys):L8 w X B a len cap (.slice (some ⟨g,0,none⟩) ys.length lc):=⟨_,_,_,_,rfl,⟨h.n.1,h.n.2,fun b off e=>by injection e with e;injection e with e _ _;have h1:=(h.row.lt g rfl).1;omega⟩,fun _ ha=>h.okA ha,h.cur,h.g⟩
theorem Q8.l8cut (h:Q8 X w B a len cap g lc ys) {n:Nat} (hn:n≤ys.length) (hn1:1≤n):L8 w X B a len cap (.slice (some ⟨g,0,none⟩) n lc):=⟨_,_,_,_,rfl,⟨hn1,Nat.le_trans hn h.n.2,fun b off e=>by injection e with e;injection e with e _ _;have h1:=(h.row.lt g rfl).1;omega⟩,fun _ ha=>(h.okA ha).take hn,h.cur,h.g⟩
end
end Go.Proofs.YtponeoijfaepnaaGreatDoor
