/-
  Parts of one proof, one behind the other: PackS, PackS2, PackS3, ProjS.
-/
import Derived.Test.YtdbljnddkbpanaaGreatDoorP8
import Derived.Test.YtdbljnddkbpanaaGreatDoorP4
import Derived.BigQuiet
import Derived.Deep.RegionHeld3
import Derived.Deep.Cut
import Derived.Test.YtdbljnddkbpanaaGreatDoorP5
namespace Go.Proofs.YtdbljnddkbpanaaGreatDoor
open Go.RowKit
set_option maxHeartbeats 2000000 in
set_option maxRecDepth 100000 in
theorem specRise (a:Option Addr) (len cap:Nat) (ts:List (List UInt8)) (w:World) (hin:za5 w a len ts) (hlen:len≤1048576) :
 Calls Tryz.prog 179 #[.slice a len cap] w fun e w'=>e=.returned (.bool (zfr ts))∧Below w.heap.size w w':=by
 obtain rfl:ts.length=len:=hin.1
 have HI:Hid (za5 w a ts.length ts):=hin
 clear hin
 go_enter Tryz.func179,Tryz.ntmps179
 go_wp2
 go_loopw [3] (fun iv wr=>∃ j:Nat,iv=.int .i64 ((j:Int)+1)∧j≤ts.length∧Hid (∀ i,i<j→leT (ts.getD (i+1) []) (ts.getD i [])=false)∧Hid (za5 wr a ts.length ts)∧Hid (Below w.heap.size w wr)) (fun iv _=>ts.length+1-(intOf iv).toNat)
 case atStart=>exact ⟨0,rfl,by omega,(fun i hi=>by omega),HI,Below.refl _ _⟩
 case round =>
  obtain ⟨j,rfl,hj,HA,HT,HB⟩:=hrel
  clear HI
  by_cases hlt:(j:Int)+1<(ts.length:Int)
  ·
   obtain ⟨b,off,rfl,hbl,c0⟩:=HT.out.2 j (by omega)
   obtain ⟨b',off',he,_,c1⟩:=HT.out.2 (j+1) (by omega)
   simp only [Option.some.injEq,Addr.mk.injEq,and_true] at he
   obtain ⟨rfl,rfl⟩:=he
   obtain ⟨x,hx⟩:∃ x,ts.getD j []=x:=⟨_,rfl⟩
   obtain ⟨y,hy⟩:∃ y,ts.getD (j+1) []=y:=⟨_,rfl⟩
   rw [hx] at c0
   rw [hy] at c1
   rcases hle:leT y x with _ | _
   ·
    have HA2:Hid (∀ i,i<j+1→leT (ts.getD (i+1) []) (ts.getD i [])=false):=fun i hi=>by
     rcases Nat.lt_or_ge i j with h | h
     ·
      exact HA.out i h
     ·
      obtain rfl:i=j:=by omega
      rw [hx,hy];exact hle
    have HT2:Hid (za5 wr (some ⟨b,off,none⟩) ts.length ts):=HT.out
    unfold leT at hle
    clear HA HT hx hy
    go_wp2_with fail
    go_quiet (fail)
    go_wp2
    go_roundw
    case rel=>exact ⟨j+1,by go_num,by omega,HA2,HT2,HB.out.trans ⟨rfl,rfl,rfl,Nat.le_refl _,fun _ _=>rfl⟩⟩
    case measure=>simp [intOf];omega
   ·
    have HR:Hid (zfr ts=false):=zmj (j:=j) (by omega) (by rw [hx,hy];exact hle)
    unfold leT at hle
    clear HA HT hx hy
    go_wp2_with fail
    go_quiet (fail)
    go_wp2
    go_ret
    exact ⟨by rw [HR.out];rfl,HB.out.trans ⟨rfl,rfl,rfl,Nat.le_refl _,fun _ _=>rfl⟩⟩
  ·
   have HR:Hid (zfr ts=true):=zjP (j:=j) (by omega) HA.out
   go_wp2
   go_ret
   exact ⟨by rw [HR.out];rfl,HB.out⟩
set_option maxHeartbeats 2000000 in
set_option maxRecDepth 100000 in
theorem zl7 (a:Option Addr) (len cap:Nat) (ts:List (List UInt8)) (w:World) (hin:za5 w a len ts) (hlen:len≤1048576) (hs:∀ i,(ts.getD i []).length≤1048576) :
 Calls Tryz.prog 167 #[.slice a len cap] w fun e w'=>e=.returned (.bool (zaJ ts))∧Below w.heap.size w w':=by
 obtain rfl:ts.length=len:=hin.1
 have HI:Hid (za5 w a ts.length ts):=hin
 have HS:Hid (∀ i,(ts.getD i []).length≤1048576):=hs
 clear hin hs
 go_enter Tryz.func167,Tryz.ntmps167
 go_wp2
 go_loopw [3] (fun iv wr=>∃ j:Nat,iv=.int .i64 (j:Int)∧j≤ts.length∧Hid (∀ i,i<j→zaF (ts.getD i [])=true)∧Hid (za5 wr a ts.length ts)∧Hid (Below w.heap.size w wr)) (fun iv _=>ts.length-(intOf iv).toNat)
 case atStart=>exact ⟨0,rfl,by omega,(fun i hi=>by omega),HI,Below.refl _ _⟩
 case round =>
  obtain ⟨j,rfl,hj,HA,HT,HB⟩:=hrel
  clear HI
  by_cases hlt:(j:Int)<(ts.length:Int)
  ·
   obtain ⟨b,off,rfl,hbl,c0⟩:=HT.out.2 j (by omega)
   have hxl:=HS.out j
   obtain ⟨x,hx⟩:∃ x,ts.getD j []=x:=⟨_,rfl⟩
   rw [hx] at c0 hxl
   have hC:Hid (_):=zcg x wr hxl
   rcases hnb:zaF x with _ | _
   ·
    have HR:Hid (zaJ ts=false):=zlq (j:=j) (by omega) (by rw [hx];exact hnb)
    rw [hnb] at hC
    clear HA HT hx hnb
    go_wp2_with (go_at_call 64;refine Calls.mono hC.out ?_;rintro e w1 ⟨rfl,rfl⟩)
    go_ret
    exact ⟨by rw [HR.out];rfl,HB.out⟩
   ·
    have HA2:Hid (∀ i,i<j+1→zaF (ts.getD i [])=true):=fun i hi=>by
     rcases Nat.lt_or_ge i j with h | h
     ·
      exact HA.out i h
     ·
      obtain rfl:i=j:=by omega
      rw [hx];exact hnb
    rw [hnb] at hC
    clear HA hx hnb
    go_wp2_with (go_at_call 64;refine Calls.mono hC.out ?_;rintro e w1 ⟨rfl,rfl⟩)
    go_roundw
    case rel=>exact ⟨j+1,by go_num,by omega,HA2,HT,HB⟩
    case measure=>simp [intOf];omega
  ·
   have hall:=zkd (l:=ts) (fun i hi=>HA.out i (by omega))
   by_cases h6:(ts.length:Int)≤6
   ·
    have HR:Hid (zaJ ts=zfr ts):=by
     exact (by rw [hall,decide_eq_true (show ts.length≤6 by omega)];rfl:zaJ ts=zfr ts)
    have hC:Hid (_):=specRise a ts.length cap ts wr HT.out hlen
    clear hall HA HT
    go_wp2_with (go_at_call 179;refine Calls.mono hC.out ?_;rintro e w1 ⟨rfl,hb1⟩)
    go_ret
    exact ⟨by rw [HR.out];rfl,HB.out.trans (hb1.mono HB.out.size)⟩
   ·
    have HR:Hid (zaJ ts=false):=by
     exact (by rw [hall,decide_eq_false (show ¬ts.length≤6 by omega)];rfl:zaJ ts=false)
    clear hall HA HT
    go_wp2
    go_ret
    exact ⟨by rw [HR.out];rfl,HB.out⟩
def FnVal (f:Fn) (ta:Option Addr) (tl tc:Nat):Value:=.agg #[.string ⟨f.1.toArray⟩,.int .i64 f.2.1,.slice ta tl tc]
set_option maxHeartbeats 2000000 in
set_option maxRecDepth 100000 in
theorem zfp (f:Fn) (ta:Option Addr) (tl tc:Nat) (w:World) (hin:zas w ta tl f.2.2) (hsh:zdv f.2.2) (hlen:tl≤1048576) (hn:f.1.length≤1048576) :
 Calls Tryz.prog 168 #[.agg #[.string ⟨f.1.toArray⟩,.int .i64 f.2.1,.slice ta tl tc]] w fun e w'=>e=.returned (.bool (zeL f))∧Below w.heap.size w w':=by
 obtain ⟨s,n,t⟩:=f
 simp only at hin hsh hn ⊢
 obtain ⟨W,hW⟩:∃ W,w.alloc (.cells #[.string ⟨s.toArray⟩,.int .i64 n,.slice ta tl tc] 79)=W:=⟨_,rfl⟩
 have hbW:Below w.heap.size w W:=by rw [←hW];exact (Below.refl _ _).alloc (Nat.le_refl _) _
 have hA:W.heap[w.heap.size]?=some (.cells #[.string ⟨s.toArray⟩,.int .i64 n,.slice ta tl tc] 79):=by rw [←hW];exact heap_alloc_new w _
 have c0:W.cell? ⟨w.heap.size,0,none⟩=some (.string ⟨s.toArray⟩):=by simp [World.cell?,hA]
 have c1:W.cell? ⟨w.heap.size,1,none⟩=some (.int .i64 n):=by simp [World.cell?,hA]
 have c2:W.cell? ⟨w.heap.size,2,none⟩=some (.slice ta tl tc):=by simp [World.cell?,hA]
 have hC1:Hid (_):=zcg s W hn
 have hC2:Hid (_):=zc0 n 0 3 W
 have hC3:Hid (_):=zhP ta tl tc t W (hin.below hbW) hsh hlen
 have HF:Hid (zeL (s,n,t)=(zaF s && (inB n 0 3 && zcc t))):=rfl
 generalize zaF s=nb at hC1 HF
 generalize inB n 0 3=ib at hC2 HF
 generalize zcc t=tb at hC3 HF
 clear hin hsh hA
 go_enter Tryz.func168,Tryz.ntmps168
 rcases nb with _ | _
 ·
  go_wp2_with (go_at_call 64;refine Calls.mono hC1.out ?_;rintro e w1 ⟨rfl,rfl⟩)
  go_ret
  exact ⟨by rw [HF.out];rfl,hbW⟩
 ·
  rcases ib with _ | _
  ·
   go_wp2_with (first | (go_at_call 64;refine Calls.mono hC1.out ?_;rintro e w1 ⟨rfl,rfl⟩) | (go_at_call 38;refine Calls.mono hC2.out ?_;rintro e w1 ⟨rfl,rfl⟩))
   go_ret
   exact ⟨by rw [HF.out];rfl,hbW⟩
  ·
   go_wp2_with (first | (go_at_call 64;refine Calls.mono hC1.out ?_;rintro e w1 ⟨rfl,rfl⟩) | (go_at_call 38;refine Calls.mono hC2.out ?_;rintro e w1 ⟨rfl,rfl⟩) | (go_at_call 99;refine Calls.mono hC3.out ?_;rintro e w2 ⟨rfl,hb2⟩))
   go_ret
   exact ⟨by rw [HF.out];rfl,hbW.trans (hb2.mono hbW.size)⟩
def zaD (w:World) (a:Option Addr) (len:Nat) (fs:List Fn):Prop :=
 fs.length=len∧∀ j,j<len→∃ b off,a=some ⟨b,off,none⟩∧b<w.heap.size∧w.cell? ⟨b,off+j*3,none⟩=some (.string ⟨(fs.getD j fn0).1.toArray⟩)∧w.cell? ⟨b,off+j*3+1,none⟩=some (.int .i64 (fs.getD j fn0).2.1) ∧
  ∃ ta tl tc,w.cell? ⟨b,off+j*3+2,none⟩=some (.slice ta tl tc)∧(ta=none→tc=0)∧zas w ta tl (fs.getD j fn0).2.2
theorem zaD.below {w w':World} {a:Option Addr} {len:Nat} {fs:List Fn} (h:zaD w a len fs) (hb:Below w.heap.size w w'):zaD w' a len fs:=by
 refine ⟨h.1,fun j hj=>?_⟩
 obtain ⟨b,off,e,hlt,c0,c1,ta,tl,tc,c2,hnc,hn⟩:=h.2 j hj
 exact ⟨b,off,e,Nat.lt_of_lt_of_le hlt hb.size,(hb.cell (p:=⟨b,off+j*3,none⟩) hlt).trans c0,(hb.cell (p:=⟨b,off+j*3+1,none⟩) hlt).trans c1,ta,tl,tc,(hb.cell (p:=⟨b,off+j*3+2,none⟩) hlt).trans c2,hnc,hn.below hb⟩
def zgc (fs:List Fn):Prop:=∀ j,(fs.getD j fn0).1.length≤1048576∧(fs.getD j fn0).2.2.length≤1048576∧zdv (fs.getD j fn0).2.2
set_option maxHeartbeats 2000000 in
set_option maxRecDepth 100000 in
theorem zjM (nm s:List UInt8) (ia:Option Addr) (il ic:Nat) (fa:Option Addr) (fl fc:Nat) (fs:List Fn) (w:World) (hin:zaD w fa fl fs) (hlen:fl≤1048576) :
 Calls Tryz.prog 148 #[.agg #[.string ⟨nm.toArray⟩,.slice ia il ic,.slice fa fl fc],.string ⟨s.toArray⟩] w fun e w'=>e=.returned (.int .i64 (atV fs s))∧Below w.heap.size w w':=by
 obtain rfl:fs.length=fl:=hin.1
 obtain ⟨W,hW⟩:∃ W,w.alloc (.cells #[.string ⟨nm.toArray⟩,.slice ia il ic,.slice fa fs.length fc] 75)=W:=⟨_,rfl⟩
 have hbW:Below w.heap.size w W:=by rw [←hW];exact (Below.refl _ _).alloc (Nat.le_refl _) _
 have hA:W.heap[w.heap.size]?=some (.cells #[.string ⟨nm.toArray⟩,.slice ia il ic,.slice fa fs.length fc] 75):=by rw [←hW];exact heap_alloc_new w _
 have k2:W.cell? ⟨w.heap.size,2,none⟩=some (.slice fa fs.length fc):=by simp [World.cell?,hA]
 have HI:Hid (zaD W fa fs.length fs):=hin.below hbW
 clear hin hA
 go_enter Tryz.func148,Tryz.ntmps148
 go_wp2
 go_loopw [5] (fun iv wr=>∃ j:Nat,iv=.int .i64 (j:Int)∧j≤fs.length∧Hid (atV fs s=atGo s (fs.drop j) j)∧wr=W) (fun iv _=>fs.length-(intOf iv).toNat)
 case atStart=>exact ⟨0,rfl,by omega,(rfl:atV fs s=atGo s (fs.drop 0) 0),rfl⟩
 case round =>
  obtain ⟨j,rfl,hj,HA,rfl⟩:=hrel
  by_cases hlt:(j:Int)<(fs.length:Int)
  ·
   obtain ⟨b,off,rfl,hbl,c0,_⟩:=HI.out.2 j (by omega)
   have hg:=zhl (fs:=fs) (k:=j) (by omega) s
   obtain ⟨x,hx⟩:∃ x,(fs.getD j fn0).1=x:=⟨_,rfl⟩
   rw [hx] at c0 hg
   by_cases hxs:x=s
   ·
    subst hxs
    have HR:Hid (atV fs x=(j:Int)):=by exact (by rw [HA.out,hg,if_pos rfl]:atV fs x=(j:Int))
    have hself:(x==x)=true:=by simp
    clear HA hg hx
    go_wp2
    go_ret
    exact ⟨by rw [HR.out];rfl,hbW⟩
   ·
    have HR:Hid (atV fs s=atGo s (fs.drop (j+1)) (j+1)):=by exact (by rw [HA.out,hg,if_neg hxs]:atV fs s=atGo s (fs.drop (j+1)) (j+1))
    have hne:(x==s)=false:=by rw [beq_eq_false_iff_ne];exact hxs
    clear HA hg hx
    go_wp2
    go_roundw
    case rel=>exact ⟨j+1,by go_num,by omega,HR,trivial⟩
    case measure=>simp [intOf];omega
  ·
   have HR:Hid (atV fs s=-1):=by exact (by rw [HA.out,List.drop_of_length_le (by omega)];rfl:atV fs s=-1)
   go_wp2
   go_ret
   exact ⟨by rw [HR.out];rfl,hbW⟩
structure PkIn (W:World) (D:Nat) (nm:List UInt8) (ia:Option Addr) (il ic:Nat) (fa:Option Addr) (fl fc:Nat) (ims:List (List UInt8)) (fs:List Fn):Prop where
 k0:W.cell? ⟨D,0,none⟩=some (.string ⟨nm.toArray⟩)
 k1:W.cell? ⟨D,1,none⟩=some (.slice ia il ic)
 k2:W.cell? ⟨D,2,none⟩=some (.slice fa fl fc)
 i:za5 W ia il ims
 f:zaD W fa fl fs
theorem PkIn.below {W W':World} {D:Nat} {nm:List UInt8} {ia:Option Addr} {il ic:Nat} {fa:Option Addr} {fl fc:Nat} {ims:List (List UInt8)} {fs:List Fn} (h:PkIn W D nm ia il ic fa fl fc ims fs) (hb:Below W.heap.size W W'):PkIn W' D nm ia il ic fa fl fc ims fs :=
 have hl:D<W.heap.size:=World.block_lt_of_cell? W ⟨D,0,none⟩ h.k0
 ⟨(hb.cell (p:=⟨D,0,none⟩) hl).trans h.k0,(hb.cell (p:=⟨D,1,none⟩) hl).trans h.k1,(hb.cell (p:=⟨D,2,none⟩) hl).trans h.k2,h.i.below hb,h.f.below hb⟩
theorem PkIn.drew {W:World} {D:Nat} {nm:List UInt8} {ia:Option Addr} {il ic:Nat} {fa:Option Addr} {fl fc:Nat} {ims:List (List UInt8)} {fs:List Fn} (h:PkIn W D nm ia il ic fa fl fc ims fs):PkIn W.drew D nm ia il ic fa fl fc ims fs:=⟨h.k0,h.k1,h.k2,h.i,h.f⟩
theorem PkIn.new {w:World} {nm:List UInt8} {ia:Option Addr} {il ic:Nat} {fa:Option Addr} {fl fc:Nat} {ims:List (List UInt8)} {fs:List Fn} (hi:za5 w ia il ims) (hf:zaD w fa fl fs) :
 PkIn (w.alloc (.cells #[.string ⟨nm.toArray⟩,.slice ia il ic,.slice fa fl fc] 75)) w.heap.size nm ia il ic fa fl fc ims fs∧Below w.heap.size w (w.alloc (.cells #[.string ⟨nm.toArray⟩,.slice ia il ic,.slice fa fl fc] 75)):=by
 have hb:Below w.heap.size w (w.alloc (.cells #[.string ⟨nm.toArray⟩,.slice ia il ic,.slice fa fl fc] 75)):=(Below.refl _ _).alloc (Nat.le_refl _) _
 have hA:=heap_alloc_new w (.cells #[.string ⟨nm.toArray⟩,.slice ia il ic,.slice fa fl fc] 75)
 generalize w.alloc (.cells #[.string ⟨nm.toArray⟩,.slice ia il ic,.slice fa fl fc] 75)=W at hb hA ⊢
 exact ⟨⟨by simp [World.cell?,hA],by simp [World.cell?,hA],by simp [World.cell?,hA],hi.below hb,hf.below hb⟩,hb⟩
theorem zov (p:Pk) (h:(zaF p.1 && (zaJ p.2.1 && inB (p.2.2.length:Int) 1 8))=false):pkgB p=false:=by unfold pkgB;rw [h];rfl
theorem zou (p:Pk) {j:Nat} (hj:j<p.2.2.length) (h:¬zbq p.2.2 j):pkgB p=false:=by unfold pkgB;rw [decide_eq_false (fun g=>h (g j hj)),Bool.and_false]
theorem pkgB_yes (p:Pk) (h:(zaF p.1 && (zaJ p.2.1 && inB (p.2.2.length:Int) 1 8))=true) (k:∀ i,i<p.2.2.length→zbq p.2.2 i):pkgB p=true:=by unfold pkgB;rw [h,decide_eq_true k];rfl
set_option maxHeartbeats 4000000 in
set_option maxRecDepth 100000 in
theorem zcF (nm:List UInt8) (ia:Option Addr) (il ic:Nat) (fa:Option Addr) (fl fc:Nat) (ims:List (List UInt8)) (fs:List Fn) (w:World) (hi:za5 w ia il ims) (hf:zaD w fa fl fs) (hil:il≤1048576) (hfl:fl≤1048576) (hnl:nm.length≤1048576) (his:∀ i,(ims.getD i []).length≤1048576) (hfs:zgc fs) :
 Calls Tryz.prog 145 #[.agg #[.string ⟨nm.toArray⟩,.slice ia il ic,.slice fa fl fc]] w fun e w'=>e=.returned (.bool (pkgB (nm,ims,fs)))∧Below w.heap.size w w':=by
 obtain rfl:fs.length=fl:=hf.1
 obtain ⟨W,hW⟩:∃ W,w.alloc (.cells #[.string ⟨nm.toArray⟩,.slice ia il ic,.slice fa fs.length fc] 75)=W:=⟨_,rfl⟩
 obtain ⟨st,hB⟩:=PkIn.new (w:=w) (nm:=nm) (ic:=ic) (fc:=fc) hi hf
 rw [hW] at st hB
 have HIS:Hid (∀ i,(ims.getD i []).length≤1048576):=his
 have HFS:Hid (zgc fs):=hfs
 obtain ⟨D,hD⟩:∃ D,w.heap.size=D:=⟨_,rfl⟩
 rw [hD] at st
 have k0:=st.k0
 have k1:=st.k1
 have k2:=st.k2
 have hC1:Hid (_):=zcg nm W hnl
 have hC2:Hid (_):=zl7 ia il ic ims W st.i hil his
 have hC3:Hid (_):=fun V:World=>zc0 (fs.length:Int) 1 8 V
 have HH0:Hid ((zaF nm && (zaJ ims && inB (fs.length:Int) 1 8))=false→pkgB (nm,ims,fs)=false):=zov (nm,ims,fs)
 have HH1:Hid ((zaF nm && (zaJ ims && inB (fs.length:Int) 1 8))=true→(∀ i,i<fs.length→zbq fs i)→pkgB (nm,ims,fs)=true):=pkgB_yes (nm,ims,fs)
 generalize zaF nm=nb at hC1 HH0 HH1
 generalize zaJ ims=ib at hC2 HH0 HH1
 generalize inB (fs.length:Int) 1 8=lb at hC3 HH0 HH1
 clear hi hf his hfs
 go_enter Tryz.func145,Tryz.ntmps145
 rcases nb with _ | _
 ·
  go_wp2_with (go_at_call 64;refine Calls.mono hC1.out ?_;rintro e w1 ⟨rfl,rfl⟩)
  go_ret
  exact ⟨by rw [HH0.out rfl];rfl,(by first | exact hB | (rw [←hD];exact hB))⟩
 ·
  rcases ib with _ | _
  ·
   go_wp2_with (first | (go_at_call 64;refine Calls.mono hC1.out ?_;rintro e w1 ⟨rfl,rfl⟩) | (go_at_call 167;refine Calls.mono hC2.out ?_;rintro e w1 ⟨rfl,hb1⟩))
   go_ret
   exact ⟨by rw [HH0.out rfl];rfl,hB.trans (hb1.mono hB.size)⟩
  ·
   go_wp2_with fail
   refine Calls.mono hC1.out ?_
   rintro e w1 ⟨rfl,rfl⟩
   go_wp2_with fail
   refine Calls.mono hC2.out ?_
   rintro e w1 ⟨rfl,hb1⟩
   replace st:=st.below hb1
   replace hB:=hB.trans (hb1.mono hB.size)
   replace k0:=st.k0
   replace k1:=st.k1
   replace k2:=st.k2
   clear hb1 hC1 hC2
   rcases lb with _ | _
   ·
    go_wp2_with (go_at_call 38;refine Calls.mono (hC3.out _) ?_;rintro e w1 ⟨rfl,rfl⟩)
    go_ret
    exact ⟨by rw [HH0.out rfl];rfl,(by first | exact hB | (rw [←hD];exact hB))⟩
   ·
    go_wp2_with (go_at_call 38;refine Calls.mono (hC3.out _) ?_;rintro e w1 ⟨rfl,rfl⟩)
    have ST:Hid (PkIn w1 D nm ia il ic fa fs.length fc ims fs):=st
    have HB:Hid (Below w.heap.size w w1):=hB
    clear st hB k0 k1 k2
    go_loopw [3] (fun iv wr=>∃ j:Nat,iv=.int .i64 (j:Int)∧j≤fs.length∧Hid (∀ i,i<j→zbq fs i)∧Hid (PkIn wr D nm ia il ic fa fs.length fc ims fs)∧Hid (Below w.heap.size w wr)) (fun iv _=>fs.length-(intOf iv).toNat)
    case atStart=>exact ⟨0,rfl,by omega,(fun i hi=>by omega),ST,HB⟩
    case round =>
     obtain ⟨j,rfl,hj,HA,ST2,HB2⟩:=hrel
     clear ST HB
     have st:=ST2.out
     have hB:=HB2.out
     clear ST2 HB2
     have k0:=st.k0
     have k1:=st.k1
     have k2:=st.k2
     by_cases hlt:(j:Int)<(fs.length:Int)
     ·
      obtain ⟨b,off,rfl,hbl,c0,c1,ta,tl,tc,c2,_,hin⟩:=st.f.2 j (by omega)
      have hsh:=HFS.out j
      obtain ⟨f,hfj⟩:∃ f,fs.getD j fn0=f:=⟨_,rfl⟩
      have HOK:Hid (zbq fs j↔(zeL f=true∧atV fs f.1=(j:Int))):=by exact (by unfold zbq;rw [hfj]:zbq fs j↔(zeL f=true∧atV fs f.1=(j:Int)))
      rw [hfj] at c0 c1 hin hsh
      clear hfj
      obtain ⟨s,n,t⟩:=f
      simp only at c0 c1 hin hsh
      have HSH:Hid (s.length≤1048576∧t.length≤1048576∧zdv t):=hsh
      have htl:tl≤1048576:=by rw [←hin.1];exact hsh.2.1
      clear hsh
      obtain ⟨fb,hfb⟩:∃ fb,zeL (s,n,t)=fb:=⟨_,rfl⟩
      obtain ⟨av,hav⟩:∃ av,atV fs s=av:=⟨_,rfl⟩
      have HFB:Hid (zeL (s,n,t)=fb):=hfb
      have HAT:Hid (atV fs s=av):=hav
      clear hfb hav
      replace st:=st.drew
      replace hB:Below w.heap.size w wr.drew:=hB.drew
      replace hin:zas wr.drew ta tl t:=hin
      replace hbl:b<wr.drew.heap.size:=hbl
      rcases fb with _ | _
      ·
       have HR:Hid (pkgB (nm,ims,fs)=false):=zou (nm,ims,fs) (j:=j) (by show j<fs.length;omega) (fun h=>by have:=(HOK.out.1 h).1;rw [HFB.out] at this;cases this)
       go_wp2_with fail
       refine wp_region_held_drew (S:=(fun w'=>w'.cell? ⟨D,0,none⟩=some (.string ⟨nm.toArray⟩)∧w'.cell? ⟨D,1,none⟩=some (.slice ia il ic)∧w'.cell? ⟨D,2,none⟩=some (.slice (some ⟨b,off,none⟩) fs.length fc)∧w'.cell? ⟨b,off+j*3,none⟩=some (.string ⟨s.toArray⟩)∧w'.cell? ⟨b,off+j*3+1,none⟩=some (.int .i64 n)∧w'.cell? ⟨b,off+j*3+2,none⟩=some (.slice ta tl tc))) (by kernel_rfl) ?_ (fun hHeld=>?_)
       ·
        first | (dsimp only;done) | (dsimp only;go_keep) | go_keep
       refine tkO [(0,28),(1,29),(2,30),(3,31),(4,32)] ?_
       repeat (refine tkY ?_ rfl (by rfl) ?_ ?_;rotate_left;(focus (intro wq hSw;(try dsimp only at hSw);first | (go_simp;done) | (go_simp;with_reducible rfl)));simp only [zP])
       refine tkZ ?_
       refine zR 5 rfl (fun K hK=>?_)
       go_simp
       (go_at_call 168;refine (zfp (s,n,t) ta tl tc _ hin HSH.out.2.2 (by omega) HSH.out.1).mono ?_;rintro e wn ⟨rfl,hbn⟩;replace st:=st.below hbn;replace hB:=hB.trans (hbn.mono hB.size);replace k0:=st.k0;replace k1:=st.k1;replace k2:=st.k2;replace c0:=(hbn.cell (p:=⟨b,off+j*3,none⟩) hbl).trans c0;replace c1:=(hbn.cell (p:=⟨b,off+j*3+1,none⟩) hbl).trans c1;replace c2:=(hbn.cell (p:=⟨b,off+j*3+2,none⟩) hbl).trans c2;replace hin:=hin.below hbn;replace hbl:=Nat.lt_of_lt_of_le hbl hbn.size;clear hbn;rw [HFB.out])
       refine hK.out _ _ ?_ (fun hHeld=>?_)
       ·
        first | (dsimp only;done) | (dsimp only;go_keep) | go_keep
       clear hK K
       refine tkO [(6,34),(7,35),(8,36),(9,37),(10,38),(11,39),(12,40),(13,41),(14,42),(15,43),(16,44),(17,45),(18,46)] ?_
       repeat ((first | (refine tkY ?_ rfl (by rfl) ?_ ?_;rotate_left;(focus (intro wq hSw;(try dsimp only at hSw);first | (go_simp;done) | (go_simp;with_reducible rfl)))) | refine tkN rfl (by rfl) ?_);simp only [zP])
       refine tkZ ?_
       refine wpAnyH_done (by kernel_rfl) ?_ _
       go_wp2
       go_ret
       exact ⟨by rw [HR.out];rfl,(by first | exact hB | (rw [←hD];exact hB))⟩
      ·
       by_cases hje:av=(j:Int)
       ·
        subst hje
        have HA2:Hid (∀ i,i<j+1→zbq fs i):=fun i hi=>by
         rcases Nat.lt_or_ge i j with h | h
         ·
          exact HA.out i h
         ·
          obtain rfl:i=j:=by omega
          exact HOK.out.2 ⟨HFB.out,HAT.out⟩
        go_wp2_with fail
        go_region_held3 (fun w'=>w'.cell? ⟨D,0,none⟩=some (.string ⟨nm.toArray⟩)∧w'.cell? ⟨D,1,none⟩=some (.slice ia il ic)∧w'.cell? ⟨D,2,none⟩=some (.slice (some ⟨b,off,none⟩) fs.length fc)∧w'.cell? ⟨b,off+j*3,none⟩=some (.string ⟨s.toArray⟩)∧w'.cell? ⟨b,off+j*3+1,none⟩=some (.int .i64 n)∧w'.cell? ⟨b,off+j*3+2,none⟩=some (.slice ta tl tc)) (go_keep) (first | (go_at_call 168;refine (zfp (s,n,t) ta tl tc _ hin HSH.out.2.2 (by omega) HSH.out.1).mono ?_;rintro e wn ⟨rfl,hbn⟩;replace st:=st.below hbn;replace hB:=hB.trans (hbn.mono hB.size);replace k0:=st.k0;replace k1:=st.k1;replace k2:=st.k2;replace c0:=(hbn.cell (p:=⟨b,off+j*3,none⟩) hbl).trans c0;replace c1:=(hbn.cell (p:=⟨b,off+j*3+1,none⟩) hbl).trans c1;replace c2:=(hbn.cell (p:=⟨b,off+j*3+2,none⟩) hbl).trans c2;replace hin:=hin.below hbn;replace hbl:=Nat.lt_of_lt_of_le hbl hbn.size;clear hbn;rw [HFB.out]) | (go_at_call 148;refine (zjM nm s ia il ic (some ⟨b,off,none⟩) fs.length fc fs _ st.f (by omega)).mono ?_;rintro e wn ⟨rfl,hbn⟩;replace st:=st.below hbn;replace hB:=hB.trans (hbn.mono hB.size);replace k0:=st.k0;replace k1:=st.k1;replace k2:=st.k2;replace c0:=(hbn.cell (p:=⟨b,off+j*3,none⟩) hbl).trans c0;replace c1:=(hbn.cell (p:=⟨b,off+j*3+1,none⟩) hbl).trans c1;replace c2:=(hbn.cell (p:=⟨b,off+j*3+2,none⟩) hbl).trans c2;replace hin:=hin.below hbn;replace hbl:=Nat.lt_of_lt_of_le hbl hbn.size;clear hbn;rw [HAT.out]))
        all_goals go_wp2
        all_goals go_roundw
        case rel=>exact ⟨j+1,by go_num,by omega,HA2,st,hB⟩
        case measure=>simp [intOf];omega
       ·
        have HR:Hid (pkgB (nm,ims,fs)=false):=zou (nm,ims,fs) (j:=j) (by show j<fs.length;omega) (fun h=>hje (by have:=(HOK.out.1 h).2;rw [←this];exact HAT.out.symm))
        have hjb:(av !=(j:Int))=true:=by rw [bne_iff_ne];exact hje
        have hjc:(av==(j:Int))=false:=by rw [beq_eq_false_iff_ne];exact hje
        go_wp2_with fail
        go_region_held3 (fun w'=>w'.cell? ⟨D,0,none⟩=some (.string ⟨nm.toArray⟩)∧w'.cell? ⟨D,1,none⟩=some (.slice ia il ic)∧w'.cell? ⟨D,2,none⟩=some (.slice (some ⟨b,off,none⟩) fs.length fc)∧w'.cell? ⟨b,off+j*3,none⟩=some (.string ⟨s.toArray⟩)∧w'.cell? ⟨b,off+j*3+1,none⟩=some (.int .i64 n)∧w'.cell? ⟨b,off+j*3+2,none⟩=some (.slice ta tl tc)) (go_keep) (first | (go_at_call 168;refine (zfp (s,n,t) ta tl tc _ hin HSH.out.2.2 (by omega) HSH.out.1).mono ?_;rintro e wn ⟨rfl,hbn⟩;replace st:=st.below hbn;replace hB:=hB.trans (hbn.mono hB.size);replace k0:=st.k0;replace k1:=st.k1;replace k2:=st.k2;replace c0:=(hbn.cell (p:=⟨b,off+j*3,none⟩) hbl).trans c0;replace c1:=(hbn.cell (p:=⟨b,off+j*3+1,none⟩) hbl).trans c1;replace c2:=(hbn.cell (p:=⟨b,off+j*3+2,none⟩) hbl).trans c2;replace hin:=hin.below hbn;replace hbl:=Nat.lt_of_lt_of_le hbl hbn.size;clear hbn;rw [HFB.out]) | (go_at_call 148;refine (zjM nm s ia il ic (some ⟨b,off,none⟩) fs.length fc fs _ st.f (by omega)).mono ?_;rintro e wn ⟨rfl,hbn⟩;replace st:=st.below hbn;replace hB:=hB.trans (hbn.mono hB.size);replace k0:=st.k0;replace k1:=st.k1;replace k2:=st.k2;replace c0:=(hbn.cell (p:=⟨b,off+j*3,none⟩) hbl).trans c0;replace c1:=(hbn.cell (p:=⟨b,off+j*3+1,none⟩) hbl).trans c1;replace c2:=(hbn.cell (p:=⟨b,off+j*3+2,none⟩) hbl).trans c2;replace hin:=hin.below hbn;replace hbl:=Nat.lt_of_lt_of_le hbl hbn.size;clear hbn;rw [HAT.out]))
        all_goals go_wp2
        all_goals go_ret
        all_goals exact ⟨by rw [HR.out];rfl,(by first | exact hB | (rw [←hD];exact hB))⟩
     ·
      have HR:Hid (pkgB (nm,ims,fs)=true):=HH1.out rfl (fun i hi=>HA.out i (by omega))
      go_wp2
      go_ret
      exact ⟨by rw [HR.out];rfl,(by first | exact hB | (rw [←hD];exact hB))⟩
def zat (w:World) (a:Option Addr) (len:Nat) (ps:List Pk):Prop :=
 ps.length=len∧∀ j,j<len→∃ b off,a=some ⟨b,off,none⟩∧b<w.heap.size∧w.cell? ⟨b,off+j*3,none⟩=some (.string ⟨(ps.getD j pk0).1.toArray⟩) ∧
  ∃ ia il ic fa fl fc,w.cell? ⟨b,off+j*3+1,none⟩=some (.slice ia il ic)∧w.cell? ⟨b,off+j*3+2,none⟩=some (.slice fa fl fc)∧za5 w ia il (ps.getD j pk0).2.1∧zaD w fa fl (ps.getD j pk0).2.2
theorem zat.below {w w':World} {a:Option Addr} {len:Nat} {ps:List Pk} (h:zat w a len ps) (hb:Below w.heap.size w w'):zat w' a len ps:=by
 refine ⟨h.1,fun j hj=>?_⟩
 obtain ⟨b,off,e,hlt,c0,ia,il,ic,fa,fl,fc,c1,c2,hi,hf⟩:=h.2 j hj
 exact ⟨b,off,e,Nat.lt_of_lt_of_le hlt hb.size,(hb.cell (p:=⟨b,off+j*3,none⟩) hlt).trans c0,ia,il,ic,fa,fl,fc,(hb.cell (p:=⟨b,off+j*3+1,none⟩) hlt).trans c1,(hb.cell (p:=⟨b,off+j*3+2,none⟩) hlt).trans c2,hi.below hb,hf.below hb⟩
def zbr (ps:List Pk):Prop:=∀ j,(ps.getD j pk0).1.length≤1048576∧(ps.getD j pk0).2.1.length≤1048576∧(∀ i,((ps.getD j pk0).2.1.getD i []).length≤1048576)∧(ps.getD j pk0).2.2.length≤1048576∧zgc (ps.getD j pk0).2.2
set_option maxHeartbeats 1000000 in
set_option maxRecDepth 100000 in
theorem zfq (a:Option Addr) (len cap:Nat) (ps:List Pk) (s:List UInt8) (w:World) (hin:zat w a len ps) (hlen:len≤1048576) :
 Calls Tryz.prog 92 #[.slice a len cap,.string ⟨s.toArray⟩] w fun e w'=>e=.returned (.int .i64 (at8 ps s))∧w'=w:=by
 obtain rfl:ps.length=len:=hin.1
 have HI:Hid (zat w a ps.length ps):=hin
 clear hin
 go_enter Tryz.func92,Tryz.ntmps92
 go_wp2
 go_loopw [5] (fun iv wr=>∃ j:Nat,iv=.int .i64 (j:Int)∧j≤ps.length∧Hid (at8 ps s=zca s (ps.drop j) j)∧wr=w) (fun iv _=>ps.length-(intOf iv).toNat)
 case atStart=>exact ⟨0,rfl,by omega,(rfl:at8 ps s=zca s (ps.drop 0) 0),rfl⟩
 case round =>
  obtain ⟨j,rfl,hj,HA,rfl⟩:=hrel
  by_cases hlt:(j:Int)<(ps.length:Int)
  ·
   obtain ⟨b,off,rfl,hbl,c0,_⟩:=HI.out.2 j (by omega)
   have hg:=ziq (ps:=ps) (k:=j) (by omega) s
   obtain ⟨x,hx⟩:∃ x,(ps.getD j pk0).1=x:=⟨_,rfl⟩
   rw [hx] at c0 hg
   by_cases hxs:x=s
   ·
    subst hxs
    have HR:Hid (at8 ps x=(j:Int)):=by exact (by rw [HA.out,hg,if_pos rfl]:at8 ps x=(j:Int))
    have hself:(x==x)=true:=by simp
    clear HA hg hx
    go_wp2
    go_ret
    exact ⟨by rw [HR.out];rfl,rfl⟩
   ·
    have HR:Hid (at8 ps s=zca s (ps.drop (j+1)) (j+1)):=by exact (by rw [HA.out,hg,if_neg hxs]:at8 ps s=zca s (ps.drop (j+1)) (j+1))
    have hne:(x==s)=false:=by rw [beq_eq_false_iff_ne];exact hxs
    clear HA hg hx
    go_wp2
    go_roundw
    case rel=>exact ⟨j+1,by go_num,by omega,HR,trivial⟩
    case measure=>simp [intOf];omega
  ·
   have HR:Hid (at8 ps s=-1):=by exact (by rw [HA.out,List.drop_of_length_le (by omega)];rfl:at8 ps s=-1)
   go_wp2
   go_ret
   exact ⟨by rw [HR.out];rfl,rfl⟩
end Go.Proofs.YtdbljnddkbpanaaGreatDoor
