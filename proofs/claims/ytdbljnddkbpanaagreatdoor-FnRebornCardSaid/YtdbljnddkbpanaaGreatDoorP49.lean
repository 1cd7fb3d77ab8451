/-
  Parts of one proof, one behind the other: LawRb, LaidE.
-/
import Derived.Test.YtdbljnddkbpanaaGreatDoorP48
import Derived.Test.YtdbljnddkbpanaaGreatDoorP31
import Derived.Test.YtdbljnddkbpanaaGreatDoorP32
import Derived.Test.YtdbljnddkbpanaaGreatDoorP22
import Derived.Test.YtdbljnddkbpanaaGreatDoorP21
import Derived.Deep.RegionHeld3
import Derived.Deep.Cut
import Derived.Test.YtdbljnddkbpanaaGreatDoorP35
import Derived.LaidLaws
import Derived.Stop.LaidErr
namespace Go.Proofs.YtdbljnddkbpanaaGreatDoor
open Go.RowKit
theorem ext_take (l:List UInt8) (j:Nat):(⟨l.toArray⟩:ByteArray).extract 0 j=⟨(l.take j).toArray⟩:=by
 rw [zbL]
 simp
set_option maxHeartbeats 16000000 in
set_option maxRecDepth 100000 in
theorem zp0 (w:World) (a:Option Addr) (len cap:Nat) (hcode:Code w w.heap.size a len) (er:Nat→Addr) (hE:Err8 w er) (hT:zcB w) :
 Calls Tryz.prog 3 #[.slice a len cap] w fun e w'=>e=.returned (.bool true)∧Below w.heap.size w w':=by
 by_cases hbig:4096<(len:Int)
 ·
  have hd:decide (4096<(len:Int))=true:=decide_eq_true hbig
  go_enter Tryz.func3,Tryz.ntmps3
  go_wp2_with (go_at_call 4;refine (bigB _ _ _ _).mono ?_;rintro e w' ⟨rfl,rfl⟩)
  go_ret
  exact ⟨rfl,Below.refl _ _⟩
 have hd:decide (4096<(len:Int))=false:=decide_eq_false hbig
 have hl:len≤4096:=by omega
 have HPk:Hid (∀ (Z:World) (n:Int),Below w.heap.size w Z→0<n→Calls Tryz.prog 10 #[.slice a len cap,.int .i64 1,.int .i64 n] Z fun e w'=>(∃ x:Int,e=.returned (.int .i64 x)∧0≤x∧x<n)∧w'=Z):=fun Z n hz h0=>pickB Z w.heap.size a len cap 1 n hl (by omega) (by omega) h0 (fun j hj=>by
  obtain ⟨b,off,x,e1,e2,e3,e4⟩:=hcode j hj
  exact ⟨b,off,x,e1,e2,(World.cell?_of_block (a:=⟨b,off+j,none⟩) (hz.block b e2)).trans e3,e4⟩)
 have HT:Hid (Err8 w er∧zcB w):=⟨hE,hT⟩
 clear hE hT
 go_enter Tryz.func3,Tryz.ntmps3
 go_wp2_with fail
 refine (bigB _ _ _ _).mono ?_
 rintro e w1 ⟨rfl,hw1⟩
 obtain rfl:=hw1.symm
 go_wp2_with fail
 refine (zkA _ _ _ _ hl hcode).mono ?_
 rintro e w2 ⟨_,rfl,la,n,lc,ps,jr,rfl,hn4,hok,hj6,hb2⟩
 have HB2:Hid (∀ Z,Below w2.heap.size w2 Z→Below w.heap.size w Z):=fun Z hz=>hb2.trans (hz.mono hb2.size)
 have HIm:Hid (∀ (l:List UInt8) (Z:World),Below w2.heap.size w2 Z→l.length≤1048576→Calls Tryz.prog 6 #[.slice la n lc,.string ⟨l.toArray⟩] Z fun e w'=>∃ v,e=.returned (.tuple #[v,.bool (rebV ps l).2])∧ze9 Z w' v (rebV ps l).1):=fun l Z hz h=>zny la n lc ps l er Z (HT.out.1.below (HB2.out Z hz)) (HT.out.2.below (HB2.out Z hz)) (hok.below hz) h
 have HSp:Hid (∀ (Z:World),Below w2.heap.size w2 Z→Calls Tryz.prog 7 #[.slice la n lc,.string ⟨jr.toArray⟩] Z fun e w'=>∃ v,e=.returned (.tuple #[v,.bool (rebV ps jr).2])∧ze9 Z w' v (rebV ps jr).1):=fun Z hz=>zhR la n lc ps jr Z (hok.below hz).in (by omega) (hok.below hz).short (by omega)
 have HRP:Hid (∀ l,RebP ps l (rebV ps l)):=fun l=>reb_p ps l
 have HRL:Hid (∀ c,(rebV ps jr).2=true→(rebV ps jr).1.2.1≤900→RebL ps (rebV ps jr) (rebV ps ((rebV ps jr).1.2.2.2.take c)) (rebV ps ((rebV ps jr).1.2.2.2.take (za1 (za2 ((rebV ps jr).1.2.2.2.take c))))) (rebV ps (rebV ps jr).1.2.2.2) (za2 ((rebV ps jr).1.2.2.2.take c))):=fun c h1 h2=>reb_l hj6 h1 c h2
 have HIj:Hid (_):=HIm.out jr
 have HRj:Hid (RebP ps jr (rebV ps jr)):=HRP.out jr
 generalize rebV ps jr=R at HIj HSp HRj HRL
 obtain ⟨⟨rts,rep,rnw,rjr⟩,rb⟩:=R
 simp only at HIj HSp HRL
 obtain ⟨rn,hrn⟩:∃ n,rts.length=n:=⟨_,rfl⟩
 have HRs:Hid (zav rts∧rn≤9∧rts.length=rn∧rjr.length≤6116):=by
  obtain ⟨h1,h2,h3,h4,h5⟩:=HRj.out
  simp only at h1 h2 h3
  exact ⟨h1,by omega,hrn,by omega⟩
 unfold ze9 at HIj HSp
 simp only [hrn] at HIj HSp
 have hjl:jr.length≤1048576:=by omega
 have hrr:(rb !=rb)=false:=by simp
 clear hok hn4 hb2 hcode hrn
 go_wp2_with fail
 refine Calls.mono (HIj.out w2 (Below.refl _ _) hjl) ?_
 rintro e w3 ⟨_,rfl,xa,xc,xx,rfl,hx3,ho3,_,hb3⟩
 obtain ⟨P3,hP3⟩:∃ Q,w3.heap.size=Q:=⟨_,rfl⟩
 obtain ⟨Z3,hZ3⟩:∃ Z,w3.alloc (.cells #[.slice none 0 0,.int .i64 0,.int .i64 0,.string ⟨#[]⟩] 29)=Z:=⟨_,rfl⟩
 have bzZ3:=B4.new w3 (.slice none 0 0) (.int .i64 0) (.int .i64 0) (.string ⟨#[]⟩) 29
 have hbZ3:Below w3.heap.size w3 Z3:=by rw [←hZ3];exact (Below.refl _ _).alloc (Nat.le_refl _) _
 rw [hZ3] at bzZ3
 rw [hP3] at bzZ3 hbZ3
 have Z30:=bzZ3.c0
 have Z31:=bzZ3.c1
 have Z32:=bzZ3.c2
 have Z33:=bzZ3.c3
 have Z3f:=bzZ3.fr
 have b4X3:=(((bzZ3.s0 (.slice xa rn xc)).s1 (.int .i64 rep)).s2 (.int .i64 rnw)).s3 (.string ⟨rjr.toArray⟩)
 have hbX3:Below P3 w3 ((((Z3.setCell ⟨P3,0,none⟩ (.slice xa rn xc)).setCell ⟨P3,1,none⟩ (.int .i64 rep)).setCell ⟨P3,2,none⟩ (.int .i64 rnw)).setCell ⟨P3,3,none⟩ (.string ⟨rjr.toArray⟩)):=(((hbZ3.setCell (Nat.le_refl _) _).setCell (Nat.le_refl _) _).setCell (Nat.le_refl _) _).setCell (Nat.le_refl _) _
 obtain ⟨X3,hX3⟩:∃ W,(((Z3.setCell ⟨P3,0,none⟩ (.slice xa rn xc)).setCell ⟨P3,1,none⟩ (.int .i64 rep)).setCell ⟨P3,2,none⟩ (.int .i64 rnw)).setCell ⟨P3,3,none⟩ (.string ⟨rjr.toArray⟩)=W:=⟨_,rfl⟩
 rw [hX3] at b4X3 hbX3
 rw [←hP3] at hbX3
 clear bzZ3 hbZ3
 have hb23:Below w2.heap.size w2 X3:=hb3.trans (hbX3.mono hb3.size)
 have HD3:Hid (RoD X3 P3 xa xc rn rts rep rnw rjr):=RoD.new ho3 hx3 HRs.out.2.2.1 hbX3 b4X3
 have HX3:Hid (Below w2.heap.size w2 X3):=hb23
 clear hx3 ho3 hb3 hbX3 b4X3 hb23
 go_wp2_with fail
 refine Calls.mono (HSp.out X3 HX3.out) ?_
 rintro e w4 ⟨_,rfl,ua,uc,ux,rfl,hx4,ho4,_,hb4⟩
 clear hP3 hZ3 hX3 Z30 Z31 Z32 Z33 Z3f
 obtain ⟨P5,hP5⟩:∃ Q,w4.heap.size=Q:=⟨_,rfl⟩
 obtain ⟨Z5,hZ5⟩:∃ Z,w4.alloc (.cells #[.slice none 0 0,.int .i64 0,.int .i64 0,.string ⟨#[]⟩] 29)=Z:=⟨_,rfl⟩
 have bzZ5:=B4.new w4 (.slice none 0 0) (.int .i64 0) (.int .i64 0) (.string ⟨#[]⟩) 29
 have hbZ5:Below w4.heap.size w4 Z5:=by rw [←hZ5];exact (Below.refl _ _).alloc (Nat.le_refl _) _
 rw [hZ5] at bzZ5
 rw [hP5] at bzZ5 hbZ5
 have Z50:=bzZ5.c0
 have Z51:=bzZ5.c1
 have Z52:=bzZ5.c2
 have Z53:=bzZ5.c3
 have Z5f:=bzZ5.fr
 have b4X5:=(((bzZ5.s0 (.slice ua rn uc)).s1 (.int .i64 rep)).s2 (.int .i64 rnw)).s3 (.string ⟨rjr.toArray⟩)
 have hbX5:Below P5 w4 ((((Z5.setCell ⟨P5,0,none⟩ (.slice ua rn uc)).setCell ⟨P5,1,none⟩ (.int .i64 rep)).setCell ⟨P5,2,none⟩ (.int .i64 rnw)).setCell ⟨P5,3,none⟩ (.string ⟨rjr.toArray⟩)):=(((hbZ5.setCell (Nat.le_refl _) _).setCell (Nat.le_refl _) _).setCell (Nat.le_refl _) _).setCell (Nat.le_refl _) _
 obtain ⟨X5,hX5⟩:∃ W,(((Z5.setCell ⟨P5,0,none⟩ (.slice ua rn uc)).setCell ⟨P5,1,none⟩ (.int .i64 rep)).setCell ⟨P5,2,none⟩ (.int .i64 rnw)).setCell ⟨P5,3,none⟩ (.string ⟨rjr.toArray⟩)=W:=⟨_,rfl⟩
 rw [hX5] at b4X5 hbX5
 rw [←hP5] at hbX5
 clear bzZ5 hbZ5
 have hb35:Below X3.heap.size X3 X5:=hb4.trans (hbX5.mono hb4.size)
 have HU5:Hid (RoD X5 P5 ua uc rn rts rep rnw rjr):=RoD.new ho4 hx4 HRs.out.2.2.1 hbX5 b4X5
 have HX5:Hid (Below w2.heap.size w2 X5):=HX3.out.trans (hb35.mono HX3.out.size)
 have HD5:Hid (RoD X5 P3 xa xc rn rts rep rnw rjr):=HD3.out.below hb35
 have HLk:Hid (_):=zgR xa ua rn xc uc rts rep rnw rjr X5 HD5.out.ok.in HU5.out.ok.in (by have:=HRs.out.2.1;omega) HRs.out.1
 have x0:=HD5.out.b4.c0
 have x1:=HD5.out.b4.c1
 have x2:=HD5.out.b4.c2
 have x3:=HD5.out.b4.c3
 have u0:=HU5.out.b4.c0
 have u1:=HU5.out.b4.c1
 have u2:=HU5.out.b4.c2
 have u3:=HU5.out.b4.c3
 clear hx4 ho4 hb4 hbX5 b4X5 hb35 HD3 HX3 HSp HIj hjl
 go_wp2_with fail
 refine Calls.mono HLk.out ?_
 rintro e w6 ⟨rfl,hb6⟩
 clear hP5 hZ5 hX5 Z50 Z51 Z52 Z53 Z5f
 have HX6:Hid (Below w2.heap.size w2 w6):=HX5.out.trans (hb6.mono HX5.out.size)
 have HD6:Hid (RoD w6 P3 xa xc rn rts rep rnw rjr):=HD5.out.below hb6
 clear x0 x1 x2 x3 u0 u1 u2 u3 hb6 HX5 HD5 HU5 HLk hrr
 have x0:=HD6.out.b4.c0
 have x1:=HD6.out.b4.c1
 have x2:=HD6.out.b4.c2
 have x3:=HD6.out.b4.c3
 rcases rb with _ | _
 ·
  skip
  have e0:=HRj.out.no rfl
  injection e0 with e1 e2
  injection e2 with e2 e3
  injection e3 with e3 e4
  subst e1 e2 e3 e4
  obtain rfl:rn=0:=HRs.out.2.2.1.symm
  have HLz:Hid (_):=zgR xa none 0 xc 0 [] 0 0 [] w6 HD6.out.ok.in ⟨rfl,fun j hj=>absurd hj (Nat.not_lt_zero j)⟩ (by omega) (fun j=>by simp [ta0])
  go_wp2_with fail
  refine Calls.mono HLz.out ?_
  rintro e w7 ⟨rfl,hb7⟩
  go_wp2
  go_ret
  exact ⟨rfl,HB2.out _ (HX6.out.trans (hb7.mono HX6.out.size))⟩
 have HDk:Hid (_):=zfC xa rn xc rts rep rnw rjr w6 HD6.out.ok.in HD6.out.cap HRs.out.1 (by have:=HRs.out.2.1;omega)
 rw [show zay (rts,rep,rnw,rjr)=true from HRj.out.yes rfl] at HDk
 go_wp2_with fail
 refine Calls.mono HDk.out ?_
 rintro e w7 ⟨rfl,hb7⟩
 have HX7:Hid (Below w2.heap.size w2 w7):=HX6.out.trans (hb7.mono HX6.out.size)
 have HD7:Hid (RoD w7 P3 xa xc rn rts rep rnw rjr):=HD6.out.below hb7
 clear x0 x1 x2 x3 hb7 HX6 HD6 HDk
 have x0:=HD7.out.b4.c0
 have x1:=HD7.out.b4.c1
 have x2:=HD7.out.b4.c2
 have x3:=HD7.out.b4.c3
 have HPc:Hid (_):=HPk.out w7 ((rjr.length:Int)+1) (HB2.out _ HX7.out) (by omega)
 have hjl:rjr.length≤6116:=HRs.out.2.2.2
 have hwj:IntKind.i64.wrap ((rjr.length:Int)+1)=(rjr.length:Int)+1:=by rw [IntKind.wrap_i64];omega
 go_wp2_with fail
 refine Calls.mono HPc.out ?_
 rintro e w8 ⟨⟨cu,rfl,hc0,hc1⟩,hw8⟩
 obtain rfl:=hw8.symm
 obtain ⟨c,rfl⟩:∃ c:Nat,cu=(c:Int):=Int.eq_ofNat_of_zero_le hc0
 have HI9:Hid (_):=HIm.out (rjr.take c) w7 HX7.out (by rw [List.length_take];omega)
 have HR9:Hid (_):=HRP.out (rjr.take c)
 have HRc:Hid (_):=fun h2=>HRL.out c (by trivial) h2
 have HUc:Hid (za1 (za2 (rjr.take c))≤rjr.length):=Nat.le_trans (zh4 (rjr.take c)).2.2 (by rw [List.length_take];omega)
 (try simp only at HRc)
 generalize rebV ps (rjr.take c)=R1 at HI9 HR9 HRc
 obtain ⟨⟨yts,yep,ynw,yjr⟩,yb⟩:=R1
 simp only at HI9
 obtain ⟨yn,hyn⟩:∃ n,yts.length=n:=⟨_,rfl⟩
 have HYs:Hid (zav yts∧yn≤9∧yts.length=yn):=by
  obtain ⟨h1,h2,h3,h4,h5⟩:=HR9.out
  simp only at h1 h2
  exact ⟨h1,by omega,hyn⟩
 unfold ze9 at HI9
 simp only [hyn] at HI9
 have hext:=ext_take
 clear hyn HR9 HPc hwj HRL
 go_wp2_with fail
 refine Calls.mono HI9.out ?_
 rintro e w9 ⟨_,rfl,ya,yc,yx,rfl,hx9,ho9,_,hb9⟩
 obtain ⟨P9,hP9⟩:∃ Q,w9.heap.size=Q:=⟨_,rfl⟩
 obtain ⟨Z9,hZ9⟩:∃ Z,w9.alloc (.cells #[.slice none 0 0,.int .i64 0,.int .i64 0,.string ⟨#[]⟩] 29)=Z:=⟨_,rfl⟩
 have bzZ9:=B4.new w9 (.slice none 0 0) (.int .i64 0) (.int .i64 0) (.string ⟨#[]⟩) 29
 have hbZ9:Below w9.heap.size w9 Z9:=by rw [←hZ9];exact (Below.refl _ _).alloc (Nat.le_refl _) _
 rw [hZ9] at bzZ9
 rw [hP9] at bzZ9 hbZ9
 have Z90:=bzZ9.c0
 have Z91:=bzZ9.c1
 have Z92:=bzZ9.c2
 have Z93:=bzZ9.c3
 have Z9f:=bzZ9.fr
 have b4X9:=(((bzZ9.s0 (.slice ya yn yc)).s1 (.int .i64 yep)).s2 (.int .i64 ynw)).s3 (.string ⟨yjr.toArray⟩)
 have hbX9:Below P9 w9 ((((Z9.setCell ⟨P9,0,none⟩ (.slice ya yn yc)).setCell ⟨P9,1,none⟩ (.int .i64 yep)).setCell ⟨P9,2,none⟩ (.int .i64 ynw)).setCell ⟨P9,3,none⟩ (.string ⟨yjr.toArray⟩)):=(((hbZ9.setCell (Nat.le_refl _) _).setCell (Nat.le_refl _) _).setCell (Nat.le_refl _) _).setCell (Nat.le_refl _) _
 obtain ⟨X9,hX9⟩:∃ W,(((Z9.setCell ⟨P9,0,none⟩ (.slice ya yn yc)).setCell ⟨P9,1,none⟩ (.int .i64 yep)).setCell ⟨P9,2,none⟩ (.int .i64 ynw)).setCell ⟨P9,3,none⟩ (.string ⟨yjr.toArray⟩)=W:=⟨_,rfl⟩
 rw [hX9] at b4X9 hbX9
 rw [←hP9] at hbX9
 clear bzZ9 hbZ9
 have HY10:Hid (RoD X9 P9 ya yc yn yts yep ynw yjr):=RoD.new ho9 hx9 HYs.out.2.2 hbX9 b4X9
 have hb79:Below w7.heap.size w7 X9:=hb9.trans (hbX9.mono hb9.size)
 have HX10:Hid (Below w2.heap.size w2 X9):=HX7.out.trans (hb79.mono HX7.out.size)
 have HD10:Hid (RoD X9 P3 xa xc rn rts rep rnw rjr):=HD7.out.below hb79
 have HFr:Hid (_):=zgy (rjr.take c) X9 (by rw [List.length_take];omega)
 clear x0 x1 x2 x3 hx9 ho9 hb9 hbX9 b4X9 hb79 HX7 HD7 HI9
 have x0:=HD10.out.b4.c0
 have x1:=HD10.out.b4.c1
 have x2:=HD10.out.b4.c2
 have x3:=HD10.out.b4.c3
 go_wp2_with fail
 refine Calls.mono HFr.out ?_
 rintro e w11 ⟨vf,rfl,hof,hb11⟩
 obtain ⟨_,fa,fc,rfl,hft⟩:=zaC hof
 clear hP9 hZ9 hX9 Z90 Z91 Z92 Z93 Z9f
 obtain ⟨fs,hfs⟩:∃ fs,za2 (rjr.take c)=fs:=⟨_,rfl⟩
 rw [hfs] at hft HRc HUc
 rw [hfs]
 have HF4:Hid (fs.length≤400):=by rw [←hfs];exact zdH _
 obtain ⟨m,hm⟩:∃ m,za1 fs=m:=⟨_,rfl⟩
 rw [hm] at HUc HRc
 rw [hm]
 have HX11:Hid (Below w2.heap.size w2 w11):=HX10.out.trans (hb11.mono HX10.out.size)
 have HD11:Hid (RoD w11 P3 xa xc rn rts rep rnw rjr):=HD10.out.below hb11
 have HY11:Hid (RoD w11 P9 ya yc yn yts yep ynw yjr):=HY10.out.below hb11
 have HF11:Hid (za5 w11 fa fs.length fs):=hft
 have HI13:Hid (_):=HIm.out (rjr.take m) w11 HX11.out (by rw [List.length_take];omega)
 have HR13:Hid (_):=HRP.out (rjr.take m)
 have hmu:=HUc.out
 clear x0 x1 x2 x3 hof hft hb11 HX10 HD10 HY10 HFr hfs hm
 generalize rebV ps (rjr.take m)=R2 at HI13 HR13 HRc
 obtain ⟨⟨zts,zep,znw,zjr⟩,zb⟩:=R2
 simp only at HI13
 obtain ⟨zn,hzn⟩:∃ n,zts.length=n:=⟨_,rfl⟩
 have HZs:Hid (zav zts∧zn≤9∧zts.length=zn):=by
  obtain ⟨h1,h2,h3,h4,h5⟩:=HR13.out
  simp only at h1 h2
  exact ⟨h1,by omega,hzn⟩
 unfold ze9 at HI13
 simp only [hzn] at HI13
 have x0:=HD11.out.b4.c0
 have x1:=HD11.out.b4.c1
 have x2:=HD11.out.b4.c2
 have x3:=HD11.out.b4.c3
 clear hzn HR13
 go_wp2_with fail
 refine Calls.mono HI13.out ?_
 rintro e w13 ⟨_,rfl,za,zc,zx,rfl,hx13,ho13,_,hb13⟩
 obtain ⟨P13,hP13⟩:∃ Q,w13.heap.size=Q:=⟨_,rfl⟩
 obtain ⟨Z13,hZ13⟩:∃ Z,w13.alloc (.cells #[.slice none 0 0,.int .i64 0,.int .i64 0,.string ⟨#[]⟩] 29)=Z:=⟨_,rfl⟩
 have bzZ13:=B4.new w13 (.slice none 0 0) (.int .i64 0) (.int .i64 0) (.string ⟨#[]⟩) 29
 have hbZ13:Below w13.heap.size w13 Z13:=by rw [←hZ13];exact (Below.refl _ _).alloc (Nat.le_refl _) _
 rw [hZ13] at bzZ13
 rw [hP13] at bzZ13 hbZ13
 have Z130:=bzZ13.c0
 have Z131:=bzZ13.c1
 have Z132:=bzZ13.c2
 have Z133:=bzZ13.c3
 have Z13f:=bzZ13.fr
 have b4X13:=(((bzZ13.s0 (.slice za zn zc)).s1 (.int .i64 zep)).s2 (.int .i64 znw)).s3 (.string ⟨zjr.toArray⟩)
 have hbX13:Below P13 w13 ((((Z13.setCell ⟨P13,0,none⟩ (.slice za zn zc)).setCell ⟨P13,1,none⟩ (.int .i64 zep)).setCell ⟨P13,2,none⟩ (.int .i64 znw)).setCell ⟨P13,3,none⟩ (.string ⟨zjr.toArray⟩)):=(((hbZ13.setCell (Nat.le_refl _) _).setCell (Nat.le_refl _) _).setCell (Nat.le_refl _) _).setCell (Nat.le_refl _) _
 obtain ⟨X13,hX13⟩:∃ W,(((Z13.setCell ⟨P13,0,none⟩ (.slice za zn zc)).setCell ⟨P13,1,none⟩ (.int .i64 zep)).setCell ⟨P13,2,none⟩ (.int .i64 znw)).setCell ⟨P13,3,none⟩ (.string ⟨zjr.toArray⟩)=W:=⟨_,rfl⟩
 rw [hX13] at b4X13 hbX13
 rw [←hP13] at hbX13
 clear bzZ13 hbZ13
 have HZ14:Hid (RoD X13 P13 za zc zn zts zep znw zjr):=RoD.new ho13 hx13 HZs.out.2.2 hbX13 b4X13
 have hb14:Below w11.heap.size w11 X13:=hb13.trans (hbX13.mono hb13.size)
 have HX14:Hid (Below w2.heap.size w2 X13):=HX11.out.trans (hb14.mono HX11.out.size)
 have HD14:Hid (RoD X13 P3 xa xc rn rts rep rnw rjr):=HD11.out.below hb14
 have HY14:Hid (RoD X13 P9 ya yc yn yts yep ynw yjr):=HY11.out.below hb14
 have HF14:Hid (za5 X13 fa fs.length fs):=HF11.out.below hb14
 clear x0 x1 x2 x3 hx13 ho13 hb13 hbX13 b4X13 hb14 HX11 HD11 HY11 HF11 HI13
 have x0:=HD14.out.b4.c0
 have x1:=HD14.out.b4.c1
 have x2:=HD14.out.b4.c2
 have x3:=HD14.out.b4.c3
 by_cases he9:900<rep
 ·
  go_wp2
  go_ret
  exact ⟨rfl,HB2.out _ HX14.out⟩
 skip
 obtain ⟨h1,h2,hcut,h4,h5,h6⟩:=HRc.out (by omega)
 simp only at h1 h5 h6
 injection h2 with h2 h3
 injection h2 with e1 h2
 injection h2 with e2 h2
 injection h2 with e3 e4
 subst h3 h1 e1 e2 e3 e4
 have hzy:yn=zn:=by have h7:=HZs.out.2.2;have h8:=HYs.out.2.2;omega
 subst hzy
 have hn0:=hcut.now
 simp only at hn0
 subst hn0
 have HCu:Hid (Cut18 ps (rts,rep,rnw,rjr) (zts,zep,0,zjr) fs):=hcut
 have HZf:Hid ((rebV ps rjr).2=true∧(rebV ps rjr).1.2.1=rep+1∧zbO (rebV ps rjr).1=zbO (rts,rep,rnw,rjr)):=⟨h4,h5,h6⟩
 have HLk:Hid (_):=zgR ya za yn yc zc zts zep 0 zjr X13 HY14.out.ok.in HZ14.out.ok.in (by have:=HYs.out.2.1;omega) HYs.out.1
 have hep:rep≤900:=by omega
 clear h4 h5 h6 hcut HRc
 have y0:=HY14.out.b4.c0
 have y1:=HY14.out.b4.c1
 have y2:=HY14.out.b4.c2
 have y3:=HY14.out.b4.c3
 have z0:=HZ14.out.b4.c0
 have z1:=HZ14.out.b4.c1
 have z2:=HZ14.out.b4.c2
 have z3:=HZ14.out.b4.c3
 go_wp2_with fail
 refine Calls.mono HLk.out ?_
 rintro e w15 ⟨rfl,hb15⟩
 clear hP13 hZ13 hX13 Z130 Z131 Z132 Z133 Z13f
 have HX15:Hid (Below w2.heap.size w2 w15):=HX14.out.trans (hb15.mono HX14.out.size)
 have HD15:Hid (RoD w15 P3 xa xc rn rts rep rnw rjr):=HD14.out.below hb15
 have HY15:Hid (RoD w15 P9 ya yc yn zts zep 0 zjr):=HY14.out.below hb15
 have HF15:Hid (za5 w15 fa fs.length fs):=HF14.out.below hb15
 have HW0:Hid (Below w15.heap.size w15 w15):=Below.refl _ _
 clear x0 x1 x2 x3 y0 y1 y2 y3 z0 z1 z2 z3 hb15 HX14 HD14 HY14 HZ14 HF14 HLk
 have y0:=HY15.out.b4.c0
 have y1:=HY15.out.b4.c1
 have y2:=HY15.out.b4.c2
 have y3:=HY15.out.b4.c3
 have hfl:fs.length≤400:=HF4.out
 go_wp2
 clear y0 y1 y2 y3
 go_loopw [16,17] (fun dv iv wr=>∃ (i cn:Nat),dv=.int .i64 (cn:Int)∧iv=.int .i64 (i:Int)∧i≤fs.length∧cn≤400∧Hid ((fs.take i).countP zbV=cn)∧Hid (Below w15.heap.size w15 wr)) (fun _ iv _=>fs.length-(intOf iv).toNat)
 case atStart=>exact ⟨0,0,rfl,rfl,Nat.zero_le _,Nat.zero_le _,rfl,HW0⟩
 case round =>
  obtain ⟨i,cn,rfl,rfl,hi,hcn4,HCn,HW⟩:=hrel
  obtain ⟨V,hV⟩:∃ X,X=wr:=⟨_,rfl⟩
  subst hV
  by_cases hlt:(i:Int)<(fs.length:Int)
  ·
   have hi2:i<fs.length:=by omega
   obtain ⟨fb,fo,rfl,hfbl,d0⟩:=(HF15.out.below HW.out).2 i hi2
   have HN:Hid (∀ f,fs.getD i []=f→(fs.take (i+1)).countP zbV=cn+(if zbV f then 1 else 0)∧(fs.take (i+1)).countP zbV≤400):=fun f hf=>by
    have h2:(fs.take (i+1)).countP zbV≤(fs.take (i+1)).length:=List.countP_le_length
    rw [List.length_take] at h2
    refine ⟨?_,by omega⟩
    rw [zjA fs i [] hi2,List.countP_append,hf,HCn.out,List.countP_singleton]
   obtain ⟨f,hf⟩:∃ f,fs.getD i []=f:=⟨_,rfl⟩
   have HNf:Hid ((fs.take (i+1)).countP zbV=cn+(if zbV f then 1 else 0)∧cn+(if zbV f then 1 else 0)≤400):=⟨(HN.out f hf).1,by have h1:=(HN.out f hf).1;have h2:=(HN.out f hf).2;rw [h1] at h2;exact h2⟩
   rw [hf] at d0
   clear hf HN
   by_cases h4:4<(f.length:Int)
   ·
    by_cases h5:f.take 4=zde
    ·
     have hq:(f.take 4==[100,111,110,101])=true:=by rw [h5];rfl
     have hdf:zbV f=true:=decide_eq_true ⟨by omega,h5⟩
     rw [hdf] at HNf
     go_wp2
     go_roundw
     case rel=>exact ⟨i+1,cn+1,by go_num,by go_num,by omega,HNf.out.2,HNf.out.1,HW⟩
     case measure=>simp [intOf];omega
    ·
     have hq:(f.take 4==[100,111,110,101])=false:=beq_eq_false_iff_ne.2 h5
     have hdf:zbV f=false:=decide_eq_false (fun h=>h5 h.2)
     rw [hdf] at HNf
     go_wp2
     go_roundw
     case rel=>exact ⟨i+1,cn,by go_num,by go_num,by omega,hcn4,HNf.out.1,HW⟩
     case measure=>simp [intOf];omega
   ·
    have hdf:zbV f=false:=decide_eq_false (fun h=>h4 (by omega))
    rw [hdf] at HNf
    go_wp2
    go_roundw
    case rel=>exact ⟨i+1,cn,by go_num,by go_num,by omega,hcn4,HNf.out.1,HW⟩
    case measure=>simp [intOf];omega
  ·
   obtain rfl:i=fs.length:=by omega
   have HC2:Hid (zts.countP zbD=cn):=by
    have h:=HCn.out
    rw [List.take_length] at h
    rw [←h]
    exact HCu.out.cnt
   clear HCn HF15 HF4
   have HW1:Hid (Below w15.heap.size w15 V):=HW
   have hy9:yn≤9:=HYs.out.2.1
   go_wp2
   go_loopw [16,18] (fun dv iv wr=>∃ (i k:Nat),dv=.int .i64 (k:Int)∧iv=.int .i64 (i:Int)∧i≤yn∧k≤400∧Hid ((zts.take i).countP zbD+k=cn)∧Hid (Below w15.heap.size w15 wr)) (fun _ iv _=>yn-(intOf iv).toNat)
   case atStart=>exact ⟨0,cn,rfl,rfl,Nat.zero_le _,hcn4,by simp [Hid],HW1⟩
   case round =>
    obtain ⟨i,k,rfl,rfl,hi,hk4,HK,HW⟩:=hrel
    obtain ⟨V2,hV⟩:∃ X,X=wr:=⟨_,rfl⟩
    subst hV
    clear HW1
    have HXv:Hid (RoD V2 P3 xa xc rn rts rep rnw rjr):=HD15.out.below HW.out
    have HYv:Hid (RoD V2 P9 ya yc yn zts zep 0 zjr):=HY15.out.below HW.out
    have x0:=HXv.out.b4.c0
    have x1:=HXv.out.b4.c1
    have x2:=HXv.out.b4.c2
    have x3:=HXv.out.b4.c3
    have y0:=HYv.out.b4.c0
    have y1:=HYv.out.b4.c1
    have y2:=HYv.out.b4.c2
    have y3:=HYv.out.b4.c3
    by_cases hlt:(i:Int)<(yn:Int)
    ·
     have hi2:i<yn:=by omega
     have hi3:i<rn:=by have h1:=HCu.out.len;have h2:=HYs.out.2.2;have h3:=HRs.out.2.2.1;simp only at h1;omega
     obtain ⟨yb,yo,rfl,hyl,_,_,c2,_,_,c5⟩:=HYv.out.ok.in.2 i hi2
     obtain ⟨xb,xo,rfl,hxl,_,_,d2,_,_,d5⟩:=HXv.out.ok.in.2 i hi3
     have hkeep:=HCu.out.keep i
     have hfree:=HCu.out.free i
     have hcnt:(zts.take (i+1)).countP zbD=(zts.take i).countP zbD+(if zbD (zts.getD i ta0)=true then 1 else 0):=by
      rw [zjA zts i ta0 (by have:=HYs.out.2.2;omega),List.countP_append,List.countP_singleton]
     have hle:(zts.take (i+1)).countP zbD≤cn:=by
      rw [←HC2.out]
      exact List.Sublist.countP_le (List.take_sublist _ _)
     have hK:=HK.out
     generalize (zts.take i).countP zbD=q at hcnt hK
     simp only at hkeep hfree
     generalize zts.getD i ta0=t at c2 c5 hkeep hfree hcnt
     generalize rts.getD i ta0=u at d2 d5 hkeep
     obtain ⟨nm,ns,st,wk,un,ke⟩:=t
     obtain ⟨nm',ns',st',wk',un',ke'⟩:=u
     simp only at c2 c5 d2 d5 hkeep hfree
     have hself:(ke !=ke)=false:=by simp
     by_cases h2:st=2
     ·
      subst h2
      obtain ⟨rfl,rfl⟩:=hkeep rfl
      have hc1:(zts.take (i+1)).countP zbD=q+1:=hcnt
      obtain ⟨k,rfl⟩:∃ j,k=j+1:=⟨k-1,by omega⟩
      have HK':Hid ((zts.take (i+1)).countP zbD+k=cn):=by exact (by omega:(zts.take (i+1)).countP zbD+k=cn)
      clear hcnt hle hK HK hc1 hkeep hfree
      go_wp2
      go_region
      all_goals (try go_wp2)
      go_roundw
      case rel=>exact ⟨i+1,k,by go_num,by go_num,by omega,by omega,HK',(HW.out.trans ⟨rfl,rfl,rfl,Nat.le_refl _,fun _ _=>rfl⟩:Below w15.heap.size w15 V2.drew)⟩
      case measure=>simp [intOf];omega
     ·
      have hd2:zbD (nm,ns,st,wk,un,ke)=false:=decide_eq_false h2
      rw [hd2] at hcnt
      have HK':Hid ((zts.take (i+1)).countP zbD+k=cn):=by rw [hcnt];exact hK
      clear hcnt hle hK HK hkeep hd2
      go_wp2
      go_roundw
      case rel=>exact ⟨i+1,k,by go_num,by go_num,by omega,hk4,HK',HW⟩
      case measure=>simp [intOf];omega
    ·
     obtain rfl:i=yn:=by omega
     obtain rfl:k=0:=by
      have h1:=HK.out
      rw [List.take_of_length_le (by have:=HYs.out.2.2;omega)] at h1
      have h2:=HC2.out
      omega
     have HXb:Hid (Below w2.heap.size w2 V2):=HX15.out.trans (HW.out.mono HX15.out.size)
     have hep0:1≤rep:=((zau.1 (HRj.out.yes rfl)).e).1
     have HIz:Hid (_):=HIm.out rjr V2 HXb.out (by omega)
     have HRz:Hid (_):=HRP.out rjr
     generalize rebV ps rjr=R3 at HIz HRz HZf
     obtain ⟨⟨gts,gep,gnw,gjr⟩,gb⟩:=R3
     simp only at HIz HZf
     obtain ⟨gn,hgn⟩:∃ n,gts.length=n:=⟨_,rfl⟩
     have HGs:Hid (zav gts∧gn≤9∧gts.length=gn):=by
      obtain ⟨h1,h2,h3,h4,h5⟩:=HRz.out
      simp only at h1 h2
      exact ⟨h1,by omega,hgn⟩
     obtain ⟨hg1,hg2,hg3⟩:=HZf.out
     subst hg1 hg2
     have HG3:Hid (_):=hg3
     unfold ze9 at HIz
     simp only [hgn] at HIz
     have hwr:IntKind.i64.wrap (rep+1)=rep+1:=by rw [IntKind.wrap_i64];omega
     have heq:(rep+1==rep+1)=true:=by simp
     clear hgn hg3 HRz HZf HK HC2
     go_wp2_with fail
     refine Calls.mono HIz.out ?_
     rintro e w17 ⟨_,rfl,ga,gc,gx,rfl,hx17,ho17,_,hb17⟩
     obtain ⟨P17,hP17⟩:∃ Q,w17.heap.size=Q:=⟨_,rfl⟩
     obtain ⟨Z17,hZ17⟩:∃ Z,w17.alloc (.cells #[.slice none 0 0,.int .i64 0,.int .i64 0,.string ⟨#[]⟩] 29)=Z:=⟨_,rfl⟩
     have bzZ17:=B4.new w17 (.slice none 0 0) (.int .i64 0) (.int .i64 0) (.string ⟨#[]⟩) 29
     have hbZ17:Below w17.heap.size w17 Z17:=by rw [←hZ17];exact (Below.refl _ _).alloc (Nat.le_refl _) _
     rw [hZ17] at bzZ17
     rw [hP17] at bzZ17 hbZ17
     have Z170:=bzZ17.c0
     have Z171:=bzZ17.c1
     have Z172:=bzZ17.c2
     have Z173:=bzZ17.c3
     have Z17f:=bzZ17.fr
     have b4X17:=(((bzZ17.s0 (.slice ga gn gc)).s1 (.int .i64 (rep+1))).s2 (.int .i64 gnw)).s3 (.string ⟨gjr.toArray⟩)
     have hbX17:Below P17 w17 ((((Z17.setCell ⟨P17,0,none⟩ (.slice ga gn gc)).setCell ⟨P17,1,none⟩ (.int .i64 (rep+1))).setCell ⟨P17,2,none⟩ (.int .i64 gnw)).setCell ⟨P17,3,none⟩ (.string ⟨gjr.toArray⟩)):=(((hbZ17.setCell (Nat.le_refl _) _).setCell (Nat.le_refl _) _).setCell (Nat.le_refl _) _).setCell (Nat.le_refl _) _
     obtain ⟨X17,hX17⟩:∃ W,(((Z17.setCell ⟨P17,0,none⟩ (.slice ga gn gc)).setCell ⟨P17,1,none⟩ (.int .i64 (rep+1))).setCell ⟨P17,2,none⟩ (.int .i64 gnw)).setCell ⟨P17,3,none⟩ (.string ⟨gjr.toArray⟩)=W:=⟨_,rfl⟩
     rw [hX17] at b4X17 hbX17
     rw [←hP17] at hbX17
     clear bzZ17 hbZ17
     have hb18:Below V2.heap.size V2 X17:=hb17.trans (hbX17.mono hb17.size)
     have HXg:Hid (RoD X17 P3 xa xc rn rts rep rnw rjr):=HXv.out.below hb18
     have HG:Hid (RoD X17 P17 ga gc gn gts (rep+1) gnw gjr):=RoD.new ho17 hx17 HGs.out.2.2 hbX17 b4X17
     have HX17:Hid (Below w2.heap.size w2 X17):=HXb.out.trans (hb18.mono HXb.out.size)
     have HAz:Hid (∀ Z,RoD Z P17 ga gc gn gts (rep+1) gnw gjr→Calls Tryz.prog 12 #[.agg #[.slice ga gn gc,.int .i64 (rep+1),.int .i64 gnw,.string ⟨gjr.toArray⟩]] Z fun e w'=>e=.returned (.bool (zbO (rts,rep,rnw,rjr)))∧Below Z.heap.size Z w'):=fun Z hz=>by
      rw [←HG3.out]
      exact zh1 ga gn gc gts (rep+1) gnw gjr Z hz.ok.in hz.cap HGs.out.1 (by have:=HGs.out.2.1;omega)
     have HAd:Hid (∀ Z,RoD Z P3 xa xc rn rts rep rnw rjr→Calls Tryz.prog 12 #[.agg #[.slice xa rn xc,.int .i64 rep,.int .i64 rnw,.string ⟨rjr.toArray⟩]] Z fun e w'=>e=.returned (.bool (zbO (rts,rep,rnw,rjr)))∧Below Z.heap.size Z w'):=fun Z hz=>zh1 xa rn xc rts rep rnw rjr Z hz.ok.in hz.cap HRs.out.1 (by have:=HRs.out.2.1;omega)
     generalize zbO (rts,rep,rnw,rjr)=ab at HAz HAd
     have HAb:Hid (∀ (v:Value) (Z:World),RoD Z P17 ga gc gn gts (rep+1) gnw gjr→RoD Z P3 xa xc rn rts rep rnw rjr→(v=.agg #[.slice ga gn gc,.int .i64 (rep+1),.int .i64 gnw,.string ⟨gjr.toArray⟩]∨v=.agg #[.slice xa rn xc,.int .i64 rep,.int .i64 rnw,.string ⟨rjr.toArray⟩])→Calls Tryz.prog 12 #[v] Z fun e w'=>e=.returned (.bool ab)∧Below Z.heap.size Z w'):=fun v Z h1 h2 h3=>by
      rcases h3 with rfl | rfl
      ·
       exact HAz.out Z h1
      ·
       exact HAd.out Z h2
     have hbb:(ab==ab)=true:=by simp
     have hdr:Below X17.heap.size X17 X17.drew:=⟨rfl,rfl,rfl,Nat.le_refl _,fun _ _=>rfl⟩
     have sx:=HXg.out.below hdr
     have sg:=HG.out.below hdr
     have hB:Below w2.heap.size w2 X17.drew:=HX17.out.trans (hdr.mono HX17.out.size)
     clear x0 x1 x2 x3 y0 y1 y2 y3 hx17 ho17 hb17 hbX17 b4X17 hb18 HIz HXv HYv HG3 hdr HAz HAd
     have x0:=HXg.out.b4.c0
     have x1:=HXg.out.b4.c1
     have x2:=HXg.out.b4.c2
     have x3:=HXg.out.b4.c3
     have g0:=HG.out.b4.c0
     have g1:=HG.out.b4.c1
     have g2:=HG.out.b4.c2
     have g3:=HG.out.b4.c3
     go_wp2_with fail
     clear x0 x1 x2 x3 g0 g1 g2 g3
     have x0:=sx.b4.c0
     have x1:=sx.b4.c1
     have x2:=sx.b4.c2
     have x3:=sx.b4.c3
     have g0:=sg.b4.c0
     have g1:=sg.b4.c1
     have g2:=sg.b4.c2
     have g3:=sg.b4.c3
     go_region_held3 (fun w'=>(w'.cell? ⟨P17,0,none⟩=some (.slice ga gn gc)∧w'.cell? ⟨P17,1,none⟩=some (.int .i64 (rep+1))∧w'.cell? ⟨P17,2,none⟩=some (.int .i64 gnw)∧w'.cell? ⟨P17,3,none⟩=some (.string ⟨gjr.toArray⟩))∧w'.cell? ⟨P3,0,none⟩=some (.slice xa rn xc)∧w'.cell? ⟨P3,1,none⟩=some (.int .i64 rep)∧w'.cell? ⟨P3,2,none⟩=some (.int .i64 rnw)∧w'.cell? ⟨P3,3,none⟩=some (.string ⟨rjr.toArray⟩)) (exact ⟨⟨g0,g1,g2,g3⟩,x0,x1,x2,x3⟩) ((go_at_call 12;refine Calls.mono (HAb.out _ _ sg sx (by first | exact Or.inl rfl | exact Or.inr rfl)) ?_;rintro e wn ⟨rfl,hbn⟩;replace sx:=sx.below hbn;replace sg:=sg.below hbn;replace hB:=hB.trans (hbn.mono hB.size);clear hbn;replace x0:=sx.b4.c0;replace x1:=sx.b4.c1;replace x2:=sx.b4.c2;replace x3:=sx.b4.c3;replace g0:=sg.b4.c0;replace g1:=sg.b4.c1;replace g2:=sg.b4.c2;replace g3:=sg.b4.c3))
     all_goals (try go_wp2)
     all_goals go_ret
     all_goals exact ⟨rfl,HB2.out _ hB⟩
def sentD (text : List UInt8) : DataW Unit := .iface "*errors.errorString" (.ptr (.agg [.lit (.string text)]))
noncomputable def zhb (n:String):Bool:=((Tryz.prog.globalNamed n).bind fun g=>(Tryz.prog.globals[g]?).map (·.type))==some 127
theorem zps : "*errors.errorString" = "*" ++ "errors.errorString" := by decide
theorem errRow (u : TypeId) (h : Tryz.prog.typeName? 3 u = some "*errors.errorString") : u = 248 :=
 typeName_ptr_named (nm := "errors.errorString") (by rw [← zps]; kernel_rfl) (by kernel_rfl) (by decide) u (by rw [← zps]; exact h)
set_option maxRecDepth 100000 in
theorem zmg {W:World}:∀ (l:List (String × List UInt8)) (ps:List MemPlace),(l.all fun x=>zhb x.1)=true→DataW.LaidVars Tryz.prog W (l.map fun x=>(x.1,sentD x.2)) ps→ps.Nodup →
 (∀ b off,MemPlace.cell b off∈ps→(∃ c t,W.heap[b]?=some (.cells c t (0,0)))∧∀ u v,W.cell? ⟨b,off,none⟩=some (.iface u v)→Value.okWide Tryz.prog W .any 0 u v) →
 ∃ al : List Addr, al.length = l.length ∧ al.Nodup ∧ (∀ a ∈ al, MemPlace.cell a.block a.off ∈ ps) ∧ ∀ i, i < l.length → W.var? Tryz.prog (l.getD i ("", [])).1 = some #[zb2 (al.getD i ⟨0, 0, none⟩)] ∧ zd0 W (al.getD i ⟨0, 0, none⟩)
 | [],ps,_,_,_,_=>⟨[],rfl,List.nodup_nil,(fun a ha=>by cases ha),(fun i hi=>absurd hi (Nat.not_lt_zero _))⟩
 | x :: r,ps,hty,h,hnd,hrows=>by
  obtain ⟨g,t,cs,fuel,p,q,hg,ht,hv,hd,hr,e⟩:=h
  rw [List.all_cons,Bool.and_eq_true] at hty
  have h1:=hty.1
  unfold zhb at h1
  rw [hg,Option.bind_some,ht] at h1
  obtain rfl:t=127:=by simpa using h1
  subst e
  obtain ⟨l0⟩:=cs
  have ok:∀ u v,l0=[.iface u v]→Value.okWide Tryz.prog W .any 0 u v:=fun u v e=>by
   subst e
   exact (hrows g 0 (by simp [MemPlace.row])).2 u v (by simpa using World.var?_cell hg hv 0)
  obtain ⟨a,s,rfl,hc,hs,hz,rfl⟩:=errorString_of_trod Tryz.underlying127 errRow Tryz.underlying248 Tryz.underlying267 rfl rfl Tryz.underlying9 (by kernel_rfl) (by kernel_rfl) hd ok
  obtain ⟨al,hl,has,hin,hall⟩:=zmg r q hty.2 hr (List.Nodup.sublist (List.sublist_append_right _ _) hnd) (fun b off hm=>hrows b off (List.mem_append_right _ hm))
  have hca:MemPlace.cell a.block a.off∈MemPlace.row a 1:=by simp [MemPlace.row]
  refine ⟨a :: al,by simp [hl],List.nodup_cons.2 ⟨fun ha=>?_,has⟩,fun b hb=>?_,fun i hi=>?_⟩
  ·
   have h2:=hin a ha
   rw [List.append_assoc] at hnd
   have h3:=(List.nodup_append.1 hnd).2.1
   exact (List.nodup_append.1 h3).2.2 _ hca _ h2 rfl
  ·
   rcases List.mem_cons.1 hb with rfl | hb
   ·
    exact List.mem_append_left _ (List.mem_append_right _ hca)
   ·
    exact List.mem_append_right _ (hin b hb)
  ·
   rcases i with _ | i
   ·
    exact ⟨hv,(hrows a.block a.off (List.mem_append_left _ (List.mem_append_right _ hca))).1⟩
   ·
    have:=hall i (by simpa using hi)
    simpa using this
theorem zmq {al:List Addr} (h:al.Nodup) {i j:Nat} (hi:i<al.length) (hj:j<al.length) (hne:i≠j):al.getD i ⟨0,0,none⟩≠al.getD j ⟨0,0,none⟩:=by
 intro e
 have e1:al.getD i ⟨0,0,none⟩=al[i]:=by simp [List.getD,hi]
 have e2:al.getD j ⟨0,0,none⟩=al[j]:=by simp [List.getD,hj]
 rw [e1,e2] at e
 exact hne ((List.getElem_inj h).1 e)
theorem err4_of {W : World} {t0 t1 t2 t3 : List UInt8} {l : List (String × List UInt8)} (h : laidMet Tryz.prog ((("loop.example/g00346/impl.errNotTold", t0) :: ("loop.example/g00346/impl.errFar", t1) :: ("loop.example/g00346/impl.errFunc", t2) :: ("loop.example/g00346/impl.errCount", t3) :: l).map fun x => (x.1, sentD x.2)) W)
 (hty:(l.all fun x=>zhb x.1)=true) :
 ∃ al : List Addr, al.length = l.length + 4 ∧ al.Nodup ∧ Err4 W (fun i => al.getD i ⟨0, 0, none⟩) ∧ ∀ i, i < l.length → W.var? Tryz.prog (l.getD i ("", [])).1 = some #[zb2 (al.getD (i + 4) ⟨0, 0, none⟩)] ∧ zd0 W (al.getD (i + 4) ⟨0, 0, none⟩) := by
 obtain ⟨ps,hv,hnd,hrows⟩:=h
 have ht4 : zhb "loop.example/g00346/impl.errNotTold" = true ∧ zhb "loop.example/g00346/impl.errFar" = true ∧ zhb "loop.example/g00346/impl.errFunc" = true ∧ zhb "loop.example/g00346/impl.errCount" = true := ⟨by kernel_rfl, by kernel_rfl, by kernel_rfl, by kernel_rfl⟩
 obtain ⟨al,hl,has,_,hall⟩:=zmg _ ps (by simp only [List.all_cons,ht4,Bool.true_and,hty]) hv hnd hrows
 have hl4:al.length=l.length+4:=by simpa using hl
 have c : ∀ i g n, i < 4 → (([("loop.example/g00346/impl.errNotTold", t0), ("loop.example/g00346/impl.errFar", t1), ("loop.example/g00346/impl.errFunc", t2), ("loop.example/g00346/impl.errCount", t3)] ++ l).getD i ("", [])).1 = n → Tryz.prog.globalNamed n = some g → W.cell? ⟨g, 0, none⟩ = some (zb2 (al.getD i ⟨0, 0, none⟩)) := fun i g n hi hn hg => by
  have h1:=(hall i (by simp;omega)).1
  have h2 : (([("loop.example/g00346/impl.errNotTold", t0), ("loop.example/g00346/impl.errFar", t1), ("loop.example/g00346/impl.errFunc", t2), ("loop.example/g00346/impl.errCount", t3)] ++ l).getD i ("", [])).1 = n := hn
  simp only [List.cons_append,List.nil_append] at h2
  rw [h2] at h1
  simpa using World.var?_cell hg h1 0
 have at_:∀ i,i<4→zd0 W (al.getD i ⟨0,0,none⟩):=fun i hi=>(hall i (by simp;omega)).2
 have ne:∀ i j,i<4→j<4→i≠j→al.getD i ⟨0,0,none⟩≠al.getD j ⟨0,0,none⟩:=fun i j hi hj hne=>zmq has (by omega) (by omega) hne
 refine ⟨al,hl4,has,⟨c 0 0 _ (by decide) rfl (by kernel_rfl),c 1 6 _ (by decide) rfl (by kernel_rfl),c 2 7 _ (by decide) rfl (by kernel_rfl),c 3 8 _ (by decide) rfl (by kernel_rfl),at_ 0 (by decide),at_ 1 (by decide),at_ 2 (by decide),at_ 3 (by decide),⟨ne 0 1 (by decide) (by decide) (by decide),ne 0 2 (by decide) (by decide) (by decide),ne 0 3 (by decide) (by decide) (by decide),ne 1 2 (by decide) (by decide) (by decide),ne 1 3 (by decide) (by decide) (by decide),ne 2 3 (by decide) (by decide) (by decide)⟩⟩,fun i hi=>?_⟩
 have h1:=hall (i+4) (by simp;omega)
 simpa using h1
end Go.Proofs.YtdbljnddkbpanaaGreatDoor
