/-
  Parts of one proof, one behind the other: PackS3, ProjS, ProjS2, ProjS3.
-/
import Derived.Test.YtponeoijfaepnaaGreatDoorP6
namespace Go.Proofs.YtponeoijfaepnaaGreatDoor
open Go.RowKit
set_option maxHeartbeats 4000000
set_option maxRecDepth 100000
structure PkIn (W:World) (D:Nat) (nm:List UInt8) (ia:Option Addr) (il ic:Nat) (fa:Option Addr) (fl fc:Nat) (ims:List (List UInt8)) (fs:List Fn):Prop where
 k0:W.cell? ⟨D,0,none⟩=some (.string ⟨nm.toArray⟩)
 k1:W.cell? ⟨D,1,none⟩=some (.slice ia il ic)
 k2:W.cell? ⟨D,2,none⟩=some (.slice fa fl fc)
 i:za7 W ia il ims
 f:zaB W fa fl fs
theorem PkIn.below {W W':World} {D:Nat} {nm:List UInt8} {ia:Option Addr} {il ic:Nat} {fa:Option Addr} {fl fc:Nat} {ims:List (List UInt8)} {fs:List Fn} (h:PkIn W D nm ia il ic fa fl fc ims fs) (hb:Below W.heap.size W W'):PkIn W' D nm ia il ic fa fl fc ims fs :=
 have hl:D<W.heap.size:=World.block_lt_of_cell? W ⟨D,0,none⟩ h.k0
 ⟨(hb.cell (p:=⟨D,0,none⟩) hl).trans h.k0,(hb.cell (p:=⟨D,1,none⟩) hl).trans h.k1,(hb.cell (p:=⟨D,2,none⟩) hl).trans h.k2,h.i.below hb,h.f.below hb⟩
theorem PkIn.drew {W:World} {D:Nat} {nm:List UInt8} {ia:Option Addr} {il ic:Nat} {fa:Option Addr} {fl fc:Nat} {ims:List (List UInt8)} {fs:List Fn} (h:PkIn W D nm ia il ic fa fl fc ims fs):PkIn W.drew D nm ia il ic fa fl fc ims fs:=⟨h.k0,h.k1,h.k2,h.i,h.f⟩
theorem PkIn.new {w:World} {nm:List UInt8} {ia:Option Addr} {il ic:Nat} {fa:Option Addr} {fl fc:Nat} {ims:List (List UInt8)} {fs:List Fn} (hi:za7 w ia il ims) (hf:zaB w fa fl fs) :
 PkIn (w.alloc (.cells #[.string ⟨nm.toArray⟩,.slice ia il ic,.slice fa fl fc] 99)) w.heap.size nm ia il ic fa fl fc ims fs∧Below w.heap.size w (w.alloc (.cells #[.string ⟨nm.toArray⟩,.slice ia il ic,.slice fa fl fc] 99)):=by
 have hb:Below w.heap.size w (w.alloc (.cells #[.string ⟨nm.toArray⟩,.slice ia il ic,.slice fa fl fc] 99)):=(Below.refl _ _).alloc (Nat.le_refl _) _;have hA:=heap_alloc_new w (.cells #[.string ⟨nm.toArray⟩,.slice ia il ic,.slice fa fl fc] 99);generalize w.alloc (.cells #[.string ⟨nm.toArray⟩,.slice ia il ic,.slice fa fl fc] 99)=W at hb hA ⊢;exact ⟨⟨by simp [World.cell?,hA],by simp [World.cell?,hA],by simp [World.cell?,hA],hi.below hb,hf.below hb⟩,hb⟩
theorem zo6 (p:Pk) (h:(zaE p.1 && (zaG p.2.1 && inB (p.2.2.length:Int) 1 8))=false):pkgB p=false:=by unfold pkgB;rw [h];rfl
theorem zo5 (p:Pk) {j:Nat} (hj:j<p.2.2.length) (h:¬zbs p.2.2 j):pkgB p=false:=by unfold pkgB;rw [decide_eq_false (fun g=>h (g j hj)),Bool.and_false]
theorem pkgB_yes (p:Pk) (h:(zaE p.1 && (zaG p.2.1 && inB (p.2.2.length:Int) 1 8))=true) (k:∀ i,i<p.2.2.length→zbs p.2.2 i):pkgB p=true:=by unfold pkgB;rw [h,decide_eq_true k];rfl
theorem zcz (nm:List UInt8) (ia:Option Addr) (il ic:Nat) (fa:Option Addr) (fl fc:Nat) (ims:List (List UInt8)) (fs:List Fn) (w:World) (hi:za7 w ia il ims) (hf:zaB w fa fl fs) (hil:il≤1048576) (hfl:fl≤1048576) (hnl:nm.length≤1048576) (his:∀ i,(ims.getD i []).length≤1048576) (hfs:zg5 fs) :
 Calls Tryz.prog 122 #[.agg #[.string ⟨nm.toArray⟩,.slice ia il ic,.slice fa fl fc]] w fun e w'=>e=.returned (.bool (pkgB (nm,ims,fs)))∧Below w.heap.size w w':=by
 obtain rfl:fs.length=fl:=hf.1;obtain ⟨W,hW⟩:∃ W,w.alloc (.cells #[.string ⟨nm.toArray⟩,.slice ia il ic,.slice fa fs.length fc] 99)=W:=⟨_,rfl⟩
 obtain ⟨st,hB⟩:=PkIn.new (w:=w) (nm:=nm) (ic:=ic) (fc:=fc) hi hf;rw [hW] at st hB;have HIS:Hid (∀ i,(ims.getD i []).length≤1048576):=his;have HFS:Hid (zg5 fs):=hfs;obtain ⟨D,hD⟩:∃ D,w.heap.size=D:=⟨_,rfl⟩
 rw [hD] at st;have k0:=st.k0;have k1:=st.k1;have k2:=st.k2;have hC1:Hid (_):=zcb nm W hnl;have hC2:Hid (_):=zkq ia il ic ims W st.i hil his;have hC3:Hid (_):=fun V:World=>zca (fs.length:Int) 1 8 V
 have HH0:Hid ((zaE nm && (zaG ims && inB (fs.length:Int) 1 8))=false→pkgB (nm,ims,fs)=false):=zo6 (nm,ims,fs);have HH1:Hid ((zaE nm && (zaG ims && inB (fs.length:Int) 1 8))=true→(∀ i,i<fs.length→zbs fs i)→pkgB (nm,ims,fs)=true):=pkgB_yes (nm,ims,fs);generalize zaE nm=nb at hC1 HH0 HH1;generalize zaG ims=ib at hC2 HH0 HH1;generalize inB (fs.length:Int) 1 8=lb at hC3 HH0 HH1;clear hi hf his hfs
 go_enter Tryz.func122,Tryz.ntmps122
 rcases nb with _ | _
 ·
  go_wp2_with (go_at_call 44;refine Calls.mono hC1.out ?_;rintro e w1 ⟨rfl,rfl⟩)
  go_ret;exact ⟨by rw [HH0.out rfl];rfl,(by first | exact hB | (rw [←hD];exact hB))⟩
 ·
  rcases ib with _ | _
  ·
   go_wp2_with (first | (go_at_call 44;refine Calls.mono hC1.out ?_;rintro e w1 ⟨rfl,rfl⟩) | (go_at_call 148;refine Calls.mono hC2.out ?_;rintro e w1 ⟨rfl,hb1⟩))
   go_ret;exact ⟨by rw [HH0.out rfl];rfl,hB.trans (hb1.mono hB.size)⟩
  ·
   go_wp2_with fail
   refine Calls.mono hC1.out ?_;rintro e w1 ⟨rfl,rfl⟩;go_wp2_with fail
   refine Calls.mono hC2.out ?_;rintro e w1 ⟨rfl,hb1⟩;replace st:=st.below hb1;replace hB:=hB.trans (hb1.mono hB.size);replace k0:=st.k0;replace k1:=st.k1;replace k2:=st.k2;clear hb1 hC1 hC2;rcases lb with _ | _
   ·
    go_wp2_with (go_at_call 42;refine Calls.mono (hC3.out _) ?_;rintro e w1 ⟨rfl,rfl⟩)
    go_ret;exact ⟨by rw [HH0.out rfl];rfl,(by first | exact hB | (rw [←hD];exact hB))⟩
   ·
    go_wp2_with (go_at_call 42;refine Calls.mono (hC3.out _) ?_;rintro e w1 ⟨rfl,rfl⟩)
    have ST:Hid (PkIn w1 D nm ia il ic fa fs.length fc ims fs):=st;have HB:Hid (Below w.heap.size w w1):=hB;clear st hB k0 k1 k2
    go_loopw [3] (fun iv wr=>∃ j:Nat,iv=.int .i64 (j:Int)∧j≤fs.length∧Hid (∀ i,i<j→zbs fs i)∧Hid (PkIn wr D nm ia il ic fa fs.length fc ims fs)∧Hid (Below w.heap.size w wr)) (fun iv _=>fs.length-(intOf iv).toNat)
    case atStart=>exact ⟨0,rfl,by omega,(fun i hi=>by omega),ST,HB⟩
    case round =>
     obtain ⟨j,rfl,hj,HA,ST2,HB2⟩:=hrel;clear ST HB;have st:=ST2.out;have hB:=HB2.out;clear ST2 HB2;have k0:=st.k0;have k1:=st.k1;have k2:=st.k2;by_cases hlt:(j:Int)<(fs.length:Int)
     ·
      obtain ⟨b,off,rfl,hbl,c0,c1,ta,tl,tc,c2,_,hin⟩:=st.f.2 j (by omega);have hsh:=HFS.out j;obtain ⟨f,hfj⟩:∃ f,fs.getD j fn0=f:=⟨_,rfl⟩
      have HOK:Hid (zbs fs j↔(zev f=true∧atV fs f.1=(j:Int))):=by exact (by unfold zbs;rw [hfj]:zbs fs j↔(zev f=true∧atV fs f.1=(j:Int)))
      rw [hfj] at c0 c1 hin hsh;clear hfj;obtain ⟨s,n,t⟩:=f;simp only at c0 c1 hin hsh;have HSH:Hid (s.length≤1048576∧t.length≤1048576∧zdo t):=hsh;have htl:tl≤1048576:=by rw [←hin.1];exact hsh.2.1
      clear hsh;obtain ⟨fb,hfb⟩:∃ fb,zev (s,n,t)=fb:=⟨_,rfl⟩
      obtain ⟨av,hav⟩:∃ av,atV fs s=av:=⟨_,rfl⟩
      have HFB:Hid (zev (s,n,t)=fb):=hfb;have HAT:Hid (atV fs s=av):=hav;clear hfb hav;replace st:=st.drew;replace hB:Below w.heap.size w wr.drew:=hB.drew;replace hin:zay wr.drew ta tl t:=hin;replace hbl:b<wr.drew.heap.size:=hbl;rcases fb with _ | _
      ·
       have HR:Hid (pkgB (nm,ims,fs)=false):=zo5 (nm,ims,fs) (j:=j) (by show j<fs.length;omega) (fun h=>by have:=(HOK.out.1 h).1;rw [HFB.out] at this;cases this);go_wp2_with fail
       refine wp_region_held_drew (S:=(fun w'=>w'.cell? ⟨D,0,none⟩=some (.string ⟨nm.toArray⟩)∧w'.cell? ⟨D,1,none⟩=some (.slice ia il ic)∧w'.cell? ⟨D,2,none⟩=some (.slice (some ⟨b,off,none⟩) fs.length fc)∧w'.cell? ⟨b,off+j*3,none⟩=some (.string ⟨s.toArray⟩)∧w'.cell? ⟨b,off+j*3+1,none⟩=some (.int .i64 n)∧w'.cell? ⟨b,off+j*3+2,none⟩=some (.slice ta tl tc))) (by kernel_rfl) ?_ (fun hHeld=>?_)
       ·first | (dsimp only;done) | (dsimp only;go_keep) | go_keep
       refine tkO [(0,28),(1,29),(2,30),(3,31),(4,32)] ?_
       repeat (refine tkY ?_ rfl (by rfl) ?_ ?_;rotate_left;(focus (intro wq hSw;(try dsimp only at hSw);first | (go_simp;done) | (go_simp;with_reducible rfl)));simp only [zP])
       refine tkZ ?_;refine zR 5 rfl (fun K hK=>?_);go_simp
       (go_at_call 149;refine (zfj (s,n,t) ta tl tc _ hin HSH.out.2.2 (by omega) HSH.out.1).mono ?_;rintro e wn ⟨rfl,hbn⟩;replace st:=st.below hbn;replace hB:=hB.trans (hbn.mono hB.size);replace k0:=st.k0;replace k1:=st.k1;replace k2:=st.k2;replace c0:=(hbn.cell (p:=⟨b,off+j*3,none⟩) hbl).trans c0;replace c1:=(hbn.cell (p:=⟨b,off+j*3+1,none⟩) hbl).trans c1;replace c2:=(hbn.cell (p:=⟨b,off+j*3+2,none⟩) hbl).trans c2;replace hin:=hin.below hbn;replace hbl:=Nat.lt_of_lt_of_le hbl hbn.size;clear hbn;rw [HFB.out])
       refine hK.out _ _ ?_ (fun hHeld=>?_)
       ·first | (dsimp only;done) | (dsimp only;go_keep) | go_keep
       clear hK K;refine tkO [(6,34),(7,35),(8,36),(9,37),(10,38),(11,39),(12,40),(13,41),(14,42),(15,43),(16,44),(17,45),(18,46)] ?_
       repeat ((first | (refine tkY ?_ rfl (by rfl) ?_ ?_;rotate_left;(focus (intro wq hSw;(try dsimp only at hSw);first | (go_simp;done) | (go_simp;with_reducible rfl)))) | refine tkN rfl (by rfl) ?_);simp only [zP])
       refine tkZ ?_;refine wpAnyH_done (by kernel_rfl) ?_ _;go_wp2;go_ret;exact ⟨by rw [HR.out];rfl,(by first | exact hB | (rw [←hD];exact hB))⟩
      ·
       by_cases hje:av=(j:Int)
       ·
        subst hje
        have HA2:Hid (∀ i,i<j+1→zbs fs i):=fun i hi=>by
         rcases Nat.lt_or_ge i j with h | h
         ·exact HA.out i h
         ·
          obtain rfl:i=j:=by omega
          exact HOK.out.2 ⟨HFB.out,HAT.out⟩
        go_wp2_with fail
        go_region_held3 (fun w'=>w'.cell? ⟨D,0,none⟩=some (.string ⟨nm.toArray⟩)∧w'.cell? ⟨D,1,none⟩=some (.slice ia il ic)∧w'.cell? ⟨D,2,none⟩=some (.slice (some ⟨b,off,none⟩) fs.length fc)∧w'.cell? ⟨b,off+j*3,none⟩=some (.string ⟨s.toArray⟩)∧w'.cell? ⟨b,off+j*3+1,none⟩=some (.int .i64 n)∧w'.cell? ⟨b,off+j*3+2,none⟩=some (.slice ta tl tc)) (go_keep) (first | (go_at_call 149;refine (zfj (s,n,t) ta tl tc _ hin HSH.out.2.2 (by omega) HSH.out.1).mono ?_;rintro e wn ⟨rfl,hbn⟩;replace st:=st.below hbn;replace hB:=hB.trans (hbn.mono hB.size);replace k0:=st.k0;replace k1:=st.k1;replace k2:=st.k2;replace c0:=(hbn.cell (p:=⟨b,off+j*3,none⟩) hbl).trans c0;replace c1:=(hbn.cell (p:=⟨b,off+j*3+1,none⟩) hbl).trans c1;replace c2:=(hbn.cell (p:=⟨b,off+j*3+2,none⟩) hbl).trans c2;replace hin:=hin.below hbn;replace hbl:=Nat.lt_of_lt_of_le hbl hbn.size;clear hbn;rw [HFB.out]) | (go_at_call 125;refine (zja nm s ia il ic (some ⟨b,off,none⟩) fs.length fc fs _ st.f (by omega)).mono ?_;rintro e wn ⟨rfl,hbn⟩;replace st:=st.below hbn;replace hB:=hB.trans (hbn.mono hB.size);replace k0:=st.k0;replace k1:=st.k1;replace k2:=st.k2;replace c0:=(hbn.cell (p:=⟨b,off+j*3,none⟩) hbl).trans c0;replace c1:=(hbn.cell (p:=⟨b,off+j*3+1,none⟩) hbl).trans c1;replace c2:=(hbn.cell (p:=⟨b,off+j*3+2,none⟩) hbl).trans c2;replace hin:=hin.below hbn;replace hbl:=Nat.lt_of_lt_of_le hbl hbn.size;clear hbn;rw [HAT.out]))
        all_goals go_wp2
        all_goals go_roundw
        case rel=>exact ⟨j+1,by go_num,by omega,HA2,st,hB⟩
        case measure=>simp [intOf];omega
       ·
        have HR:Hid (pkgB (nm,ims,fs)=false):=zo5 (nm,ims,fs) (j:=j) (by show j<fs.length;omega) (fun h=>hje (by have:=(HOK.out.1 h).2;rw [←this];exact HAT.out.symm));have hjb:(av !=(j:Int))=true:=by rw [bne_iff_ne];exact hje
        have hjc:(av==(j:Int))=false:=by rw [beq_eq_false_iff_ne];exact hje
        go_wp2_with fail
        go_region_held3 (fun w'=>w'.cell? ⟨D,0,none⟩=some (.string ⟨nm.toArray⟩)∧w'.cell? ⟨D,1,none⟩=some (.slice ia il ic)∧w'.cell? ⟨D,2,none⟩=some (.slice (some ⟨b,off,none⟩) fs.length fc)∧w'.cell? ⟨b,off+j*3,none⟩=some (.string ⟨s.toArray⟩)∧w'.cell? ⟨b,off+j*3+1,none⟩=some (.int .i64 n)∧w'.cell? ⟨b,off+j*3+2,none⟩=some (.slice ta tl tc)) (go_keep) (first | (go_at_call 149;refine (zfj (s,n,t) ta tl tc _ hin HSH.out.2.2 (by omega) HSH.out.1).mono ?_;rintro e wn ⟨rfl,hbn⟩;replace st:=st.below hbn;replace hB:=hB.trans (hbn.mono hB.size);replace k0:=st.k0;replace k1:=st.k1;replace k2:=st.k2;replace c0:=(hbn.cell (p:=⟨b,off+j*3,none⟩) hbl).trans c0;replace c1:=(hbn.cell (p:=⟨b,off+j*3+1,none⟩) hbl).trans c1;replace c2:=(hbn.cell (p:=⟨b,off+j*3+2,none⟩) hbl).trans c2;replace hin:=hin.below hbn;replace hbl:=Nat.lt_of_lt_of_le hbl hbn.size;clear hbn;rw [HFB.out]) | (go_at_call 125;refine (zja nm s ia il ic (some ⟨b,off,none⟩) fs.length fc fs _ st.f (by omega)).mono ?_;rintro e wn ⟨rfl,hbn⟩;replace st:=st.below hbn;replace hB:=hB.trans (hbn.mono hB.size);replace k0:=st.k0;replace k1:=st.k1;replace k2:=st.k2;replace c0:=(hbn.cell (p:=⟨b,off+j*3,none⟩) hbl).trans c0;replace c1:=(hbn.cell (p:=⟨b,off+j*3+1,none⟩) hbl).trans c1;replace c2:=(hbn.cell (p:=⟨b,off+j*3+2,none⟩) hbl).trans c2;replace hin:=hin.below hbn;replace hbl:=Nat.lt_of_lt_of_le hbl hbn.size;clear hbn;rw [HAT.out]))
        all_goals go_wp2
        all_goals go_ret
        all_goals exact ⟨by rw [HR.out];rfl,(by first | exact hB | (rw [←hD];exact hB))⟩
     ·have HR:Hid (pkgB (nm,ims,fs)=true):=HH1.out rfl (fun i hi=>HA.out i (by omega));go_wp2;go_ret;exact ⟨by rw [HR.out];rfl,(by first | exact hB | (rw [←hD];exact hB))⟩
def zav (w:World) (a:Option Addr) (len:Nat) (ps:List Pk):Prop :=
 ps.length=len∧∀ j,j<len→∃ b off,a=some ⟨b,off,none⟩∧b<w.heap.size∧w.cell? ⟨b,off+j*3,none⟩=some (.string ⟨(ps.getD j pk0).1.toArray⟩) ∧
  ∃ ia il ic fa fl fc,w.cell? ⟨b,off+j*3+1,none⟩=some (.slice ia il ic)∧w.cell? ⟨b,off+j*3+2,none⟩=some (.slice fa fl fc)∧za7 w ia il (ps.getD j pk0).2.1∧zaB w fa fl (ps.getD j pk0).2.2
theorem zav.below {w w':World} {a:Option Addr} {len:Nat} {ps:List Pk} (h:zav w a len ps) (hb:Below w.heap.size w w'):zav w' a len ps:=by
 refine ⟨h.1,fun j hj=>?_⟩;obtain ⟨b,off,e,hlt,c0,ia,il,ic,fa,fl,fc,c1,c2,hi,hf⟩:=h.2 j hj;exact ⟨b,off,e,Nat.lt_of_lt_of_le hlt hb.size,(hb.cell (p:=⟨b,off+j*3,none⟩) hlt).trans c0,ia,il,ic,fa,fl,fc,(hb.cell (p:=⟨b,off+j*3+1,none⟩) hlt).trans c1,(hb.cell (p:=⟨b,off+j*3+2,none⟩) hlt).trans c2,hi.below hb,hf.below hb⟩
def zby (ps:List Pk):Prop:=∀ j,(ps.getD j pk0).1.length≤1048576∧(ps.getD j pk0).2.1.length≤1048576∧(∀ i,((ps.getD j pk0).2.1.getD i []).length≤1048576)∧(ps.getD j pk0).2.2.length≤1048576∧zg5 (ps.getD j pk0).2.2
theorem zfk (a:Option Addr) (len cap:Nat) (ps:List Pk) (s:List UInt8) (w:World) (hin:zav w a len ps) (hlen:len≤1048576) :
 Calls Tryz.prog 82 #[.slice a len cap,.string ⟨s.toArray⟩] w fun e w'=>e=.returned (.int .i64 (at8 ps s))∧w'=w:=by
 obtain rfl:ps.length=len:=hin.1;have HI:Hid (zav w a ps.length ps):=hin;clear hin
 go_enter Tryz.func82,Tryz.ntmps82
 go_wp2
 go_loopw [5] (fun iv wr=>∃ j:Nat,iv=.int .i64 (j:Int)∧j≤ps.length∧Hid (at8 ps s=zc8 s (ps.drop j) j)∧wr=w) (fun iv _=>ps.length-(intOf iv).toNat)
 case atStart=>exact ⟨0,rfl,by omega,(rfl:at8 ps s=zc8 s (ps.drop 0) 0),rfl⟩
 case round =>
  obtain ⟨j,rfl,hj,HA,rfl⟩:=hrel;by_cases hlt:(j:Int)<(ps.length:Int)
  ·
   obtain ⟨b,off,rfl,hbl,c0,_⟩:=HI.out.2 j (by omega);have hg:=zhX (ps:=ps) (k:=j) (by omega) s;obtain ⟨x,hx⟩:∃ x,(ps.getD j pk0).1=x:=⟨_,rfl⟩
   rw [hx] at c0 hg;by_cases hxs:x=s
   ·
    subst hxs;have HR:Hid (at8 ps x=(j:Int)):=by exact (by rw [HA.out,hg,if_pos rfl]:at8 ps x=(j:Int))
    have hself:(x==x)=true:=by simp
    clear HA hg hx;go_wp2;go_ret;exact ⟨by rw [HR.out];rfl,rfl⟩
   ·
    have HR:Hid (at8 ps s=zc8 s (ps.drop (j+1)) (j+1)):=by exact (by rw [HA.out,hg,if_neg hxs]:at8 ps s=zc8 s (ps.drop (j+1)) (j+1))
    have hne:(x==s)=false:=by rw [beq_eq_false_iff_ne];exact hxs
    clear HA hg hx;go_wp2;go_roundw
    case rel=>exact ⟨j+1,by go_num,by omega,HR,trivial⟩
    case measure=>simp [intOf];omega
  ·
   have HR:Hid (at8 ps s=-1):=by exact (by rw [HA.out,List.drop_of_length_le (by omega)];rfl:at8 ps s=-1)
   go_wp2;go_ret;exact ⟨by rw [HR.out];rfl,rfl⟩
theorem zi9 (a:Option Addr) (len cap:Nat) (ps:List Pk) (w:World) (hin:zav w a len ps) (hlen:len≤1048576) (hsh:zby ps) :
 Calls Tryz.prog 103 #[.slice a len cap] w fun e w'=>e=.returned (.bool (zaK ps))∧Below w.heap.size w w':=by
 obtain rfl:ps.length=len:=hin.1;have HI:Hid (zav w a ps.length ps):=hin;have HS:Hid (zby ps):=hsh;clear hin hsh
 go_enter Tryz.func103,Tryz.ntmps103
 go_wp2
 go_loopw [3] (fun iv wr=>∃ j:Nat,iv=.int .i64 (j:Int)∧j≤ps.length∧Hid (∀ i,i<j→pj8 ps i)∧Hid (zav wr a ps.length ps)∧Hid (Below w.heap.size w wr)) (fun iv _=>ps.length-(intOf iv).toNat)
 case atStart=>exact ⟨0,rfl,by omega,(fun i hi=>by omega),HI,Below.refl _ _⟩
 case round =>
  obtain ⟨j,rfl,hj,HA,HP,HB⟩:=hrel;clear HI;by_cases hlt:(j:Int)<(ps.length:Int)
  ·
   have hj2:j<ps.length:=by omega
   have hin:=HP.out;have hB:=HB.out;clear HP HB;obtain ⟨b,off,rfl,hbl,c0,ia,il,ic,fa,fl,fc,c1,c2,hi,hf⟩:=hin.2 j hj2;have hsj:=HS.out j;have hpj:pj8 ps j↔(pkgB (ps.getD j pk0)=true∧(0<j→leT (ps.getD j pk0).1 (ps.getD (j-1) pk0).1=false)):=Iff.rfl;obtain ⟨p,hp⟩:∃ p,ps.getD j pk0=p:=⟨_,rfl⟩
   rw [hp] at c0 hi hf hsj hpj;clear hp;obtain ⟨x,ims,fs⟩:=p;simp only at c0 hi hf hsj hpj;obtain ⟨hx,hil,him,hfl,hfs⟩:=hsj;rw [hi.1] at hil;rw [hf.1] at hfl;have HSH:Hid (x.length≤1048576∧(∀ i,(ims.getD i []).length≤1048576)∧zg5 fs):=⟨hx,him,hfs⟩;have HPJ:Hid (pj8 ps j↔(pkgB (x,ims,fs)=true∧(0<j→leT x (ps.getD (j-1) pk0).1=false))):=hpj;obtain ⟨pb,hpb⟩:∃ pb,pkgB (x,ims,fs)=pb:=⟨_,rfl⟩
   have HPB:Hid (pkgB (x,ims,fs)=pb):=hpb;clear hx him hfs hpj hpb;replace hB:Below w.heap.size w wr.drew:=hB.drew;replace hin:zav wr.drew (some ⟨b,off,none⟩) ps.length ps:=hin;replace hi:za7 wr.drew ia il ims:=hi;replace hf:zaB wr.drew fa fl fs:=hf;replace hbl:b<wr.drew.heap.size:=hbl;rcases pb with _ | _
   ·
    have HR:Hid (zaK ps=false):=zg9 hj2 (fun h=>by have:=(HPJ.out.1 h).1;rw [HPB.out] at this;cases this);go_wp2_with fail
    refine wp_region_held_drew (S:=(fun w'=>w'.cell? ⟨b,off+j*3,none⟩=some (.string ⟨x.toArray⟩)∧w'.cell? ⟨b,off+j*3+1,none⟩=some (.slice ia il ic)∧w'.cell? ⟨b,off+j*3+2,none⟩=some (.slice fa fl fc))) (by kernel_rfl) ?_ (fun hHeld=>?_)
    ·first | (dsimp only;done) | (dsimp only;go_keep) | go_keep
    refine tkO [(0,10),(1,11),(2,12),(3,13)] ?_
    repeat (refine tkY ?_ rfl (by rfl) ?_ ?_;rotate_left;(focus (intro wq hSw;(try dsimp only at hSw);first | (go_simp;done) | (go_simp;with_reducible rfl)));simp only [zP])
    refine tkZ ?_;refine zR 4 rfl (fun K hK=>?_);go_simp
    (go_at_call 122;refine (zcz x ia il ic fa fl fc ims fs _ hi hf (by omega) (by omega) HSH.out.1 HSH.out.2.1 HSH.out.2.2).mono ?_;rintro e wn ⟨rfl,hbn⟩;rw [HPB.out];replace hB:=hB.trans (hbn.mono hB.size);replace hin:=hin.below hbn;replace c0:=(hbn.cell (p:=⟨b,off+j*3,none⟩) hbl).trans c0;replace c1:=(hbn.cell (p:=⟨b,off+j*3+1,none⟩) hbl).trans c1;replace c2:=(hbn.cell (p:=⟨b,off+j*3+2,none⟩) hbl).trans c2;replace hi:=hi.below hbn;replace hf:=hf.below hbn;replace hbl:=Nat.lt_of_lt_of_le hbl hbn.size;clear hbn)
    refine hK.out _ _ ?_ (fun hHeld=>?_)
    ·first | (dsimp only;done) | (dsimp only;go_keep) | go_keep
    clear hK K;refine tkO [(5,15),(6,16),(7,17),(8,18),(9,19),(10,20),(11,21),(12,22),(13,23),(14,24),(15,25),(16,26),(17,27),(18,28),(19,29),(20,30),(21,31),(22,32),(23,33)] ?_
    repeat ((first | (refine tkY ?_ rfl (by rfl) ?_ ?_;rotate_left;(focus (intro wq hSw;(try dsimp only at hSw);first | (go_simp;done) | (go_simp;with_reducible rfl)))) | refine tkN rfl (by rfl) ?_);simp only [zP])
    refine tkZ ?_;refine wpAnyH_done (by kernel_rfl) ?_ _;go_wp2;go_ret;exact ⟨by rw [HR.out];rfl,hB⟩
   ·
    rcases j with _ | j
    ·
     have HA2:Hid (∀ i,i<0+1→pj8 ps i):=fun i hi=>by
      obtain rfl:i=0:=by omega
      exact HPJ.out.2 ⟨HPB.out,fun h=>by omega⟩
     simp only [Nat.zero_mul,Nat.add_zero] at c0 c1 c2;have hl0:(0:Int)<(ps.length:Int):=hlt;rw [show ((0:Nat):Int)=0 from rfl];clear hlt;go_wp2_with fail
     refine wp_region_held_drew (S:=(fun w'=>w'.cell? ⟨b,off,none⟩=some (.string ⟨x.toArray⟩)∧w'.cell? ⟨b,off+1,none⟩=some (.slice ia il ic)∧w'.cell? ⟨b,off+2,none⟩=some (.slice fa fl fc))) (by kernel_rfl) ?_ (fun hHeld=>?_)
     ·first | (dsimp only;done) | (dsimp only;go_keep) | go_keep
     refine tkO [(0,10),(1,11),(2,12),(3,13)] ?_
     repeat (refine tkY ?_ rfl (by rfl) ?_ ?_;rotate_left;(focus (intro wq hSw;(try dsimp only at hSw);first | (go_simp;done) | (go_simp;with_reducible rfl)));simp only [zP])
     refine tkZ ?_;refine zR 4 rfl (fun K hK=>?_);go_simp
     (go_at_call 122;refine (zcz x ia il ic fa fl fc ims fs _ hi hf (by omega) (by omega) HSH.out.1 HSH.out.2.1 HSH.out.2.2).mono ?_;rintro e wn ⟨rfl,hbn⟩;rw [HPB.out];replace hB:=hB.trans (hbn.mono hB.size);replace hin:=hin.below hbn;replace c0:=(hbn.cell (p:=⟨b,off,none⟩) hbl).trans c0;replace c1:=(hbn.cell (p:=⟨b,off+1,none⟩) hbl).trans c1;replace c2:=(hbn.cell (p:=⟨b,off+2,none⟩) hbl).trans c2;replace hi:=hi.below hbn;replace hf:=hf.below hbn;replace hbl:=Nat.lt_of_lt_of_le hbl hbn.size;clear hbn)
     refine hK.out _ _ ?_ (fun hHeld=>?_)
     ·first | (dsimp only;done) | (dsimp only;go_keep) | go_keep
     clear hK K;refine tkO [(5,15),(6,16),(7,17),(8,18),(9,19),(10,20),(11,21),(12,22),(13,23),(14,24),(15,25),(16,26),(17,27),(18,28),(19,29),(20,30),(21,31),(22,32),(23,33)] ?_
     repeat ((first | (refine tkY ?_ rfl (by rfl) ?_ ?_;rotate_left;(focus (intro wq hSw;(try dsimp only at hSw);first | (go_simp;done) | (go_simp;with_reducible rfl)))) | refine tkN rfl (by rfl) ?_);simp only [zP])
     refine tkZ ?_;refine wpAnyH_done (by kernel_rfl) ?_ _;have HP2:Hid (zav wn (some ⟨b,off,none⟩) ps.length ps):=hin;have HB2:Hid (Below w.heap.size w wn):=hB;go_wp2;go_roundw
     case rel=>exact ⟨0+1,by go_num,by omega,HA2,HP2,HB2⟩
     case measure=>simp [intOf];omega
    ·
     obtain ⟨b',off',he,_,d0,_⟩:=hin.2 j (by omega);rw [show ((j+1:Nat):Int)=(j:Int)+1 by omega];have hl1:(j:Int)+1<(ps.length:Int):=by omega
     have hl2:(j:Int)<(ps.length:Int):=by omega
     have hl3:(0:Int)≤(j:Int)+1:=by omega
     have hl4:(0:Int)<(j:Int)+1:=by omega
     have hl5:IntKind.i64.wrap ((j:Int)+1-1)=(j:Int):=by rw [show (j:Int)+1-1=(j:Int) by omega];rw [IntKind.wrap_i64];omega
     have hl6:IntKind.i64.wrap (j:Int)=(j:Int):=by rw [IntKind.wrap_i64];omega
     clear hlt;simp only [Option.some.injEq,Addr.mk.injEq,and_true] at he;obtain ⟨rfl,rfl⟩:=he;obtain ⟨y,hy⟩:∃ y,(ps.getD j pk0).1=y:=⟨_,rfl⟩
     have hpj:=HPJ.out;rw [show j+1-1=j by omega,hy] at hpj;rw [hy] at d0;replace HPJ:Hid (pj8 ps (j+1)↔(pkgB (x,ims,fs)=true∧(0<j+1→leT x y=false))):=hpj;have d0':wr.cell? ⟨b,off+j*3,none⟩=some (.string ⟨y.toArray⟩):=d0;rcases hle:leT x y with _ | _
     ·
      have HA2:Hid (∀ i,i<j+1+1→pj8 ps i):=fun i hi=>by
       rcases Nat.lt_or_ge i (j+1) with h | h
       ·exact HA.out i h
       ·
        obtain rfl:i=j+1:=by omega
        exact HPJ.out.2 ⟨HPB.out,fun _=>hle⟩
      unfold leT at hle;clear hy hpj;go_wp2_with fail
      go_region_held3 (fun w'=>w'.cell? ⟨b,off+(j+1)*3,none⟩=some (.string ⟨x.toArray⟩)∧w'.cell? ⟨b,off+(j+1)*3+1,none⟩=some (.slice ia il ic)∧w'.cell? ⟨b,off+(j+1)*3+2,none⟩=some (.slice fa fl fc)∧w'.cell? ⟨b,off+j*3,none⟩=some (.string ⟨y.toArray⟩)) (go_keep) (first | (go_at_call 122;refine (zcz x ia il ic fa fl fc ims fs _ hi hf (by omega) (by omega) HSH.out.1 HSH.out.2.1 HSH.out.2.2).mono ?_;rintro e wn ⟨rfl,hbn⟩;rw [HPB.out];replace hB:=hB.trans (hbn.mono hB.size);replace hin:=hin.below hbn;replace c0:=(hbn.cell (p:=⟨b,off+(j+1)*3,none⟩) hbl).trans c0;replace c1:=(hbn.cell (p:=⟨b,off+(j+1)*3+1,none⟩) hbl).trans c1;replace c2:=(hbn.cell (p:=⟨b,off+(j+1)*3+2,none⟩) hbl).trans c2;replace d0:=(hbn.cell (p:=⟨b,off+j*3,none⟩) hbl).trans d0;replace hi:=hi.below hbn;replace hf:=hf.below hbn;replace hbl:=Nat.lt_of_lt_of_le hbl hbn.size;clear hbn))
      all_goals
       have HP2:Hid (zav wn (some ⟨b,off,none⟩) ps.length ps):=hin;have HB2:Hid (Below w.heap.size w wn):=hB;go_wp2;go_roundw
       case rel=>exact ⟨j+1+1,by go_num,by omega,HA2,HP2,HB2⟩
       case measure=>simp [intOf];omega
     ·
      have HR:Hid (zaK ps=false):=zg9 hj2 (fun h=>by have:=(HPJ.out.1 h).2 (by omega);rw [hle] at this;cases this);unfold leT at hle;clear hy hpj;go_wp2_with fail
      go_region_held3 (fun w'=>w'.cell? ⟨b,off+(j+1)*3,none⟩=some (.string ⟨x.toArray⟩)∧w'.cell? ⟨b,off+(j+1)*3+1,none⟩=some (.slice ia il ic)∧w'.cell? ⟨b,off+(j+1)*3+2,none⟩=some (.slice fa fl fc)∧w'.cell? ⟨b,off+j*3,none⟩=some (.string ⟨y.toArray⟩)) (go_keep) (first | (go_at_call 122;refine (zcz x ia il ic fa fl fc ims fs _ hi hf (by omega) (by omega) HSH.out.1 HSH.out.2.1 HSH.out.2.2).mono ?_;rintro e wn ⟨rfl,hbn⟩;rw [HPB.out];replace hB:=hB.trans (hbn.mono hB.size);replace hin:=hin.below hbn;replace c0:=(hbn.cell (p:=⟨b,off+(j+1)*3,none⟩) hbl).trans c0;replace c1:=(hbn.cell (p:=⟨b,off+(j+1)*3+1,none⟩) hbl).trans c1;replace c2:=(hbn.cell (p:=⟨b,off+(j+1)*3+2,none⟩) hbl).trans c2;replace d0:=(hbn.cell (p:=⟨b,off+j*3,none⟩) hbl).trans d0;replace hi:=hi.below hbn;replace hf:=hf.below hbn;replace hbl:=Nat.lt_of_lt_of_le hbl hbn.size;clear hbn))
      all_goals
       go_wp2;go_ret;exact ⟨by rw [HR.out];rfl,hB⟩
  ·
   have HR:Hid (zaK ps=inB (ps.length:Int) 1 8):=zjh (fun i hi=>HA.out i (by omega));have hC:Hid (_):=zca (ps.length:Int) 1 8 wr;generalize inB (ps.length:Int) 1 8=ib at hC HR
   go_wp2_with (go_at_call 42;refine Calls.mono hC.out ?_;rintro e w1 ⟨rfl,rfl⟩)
   go_ret;exact ⟨by rw [HR.out];rfl,HB.out⟩
def lenOf (v:Value):Nat:=match v with | .slice _ n _=>n | _=>0
theorem next8_at {ps:List Pk} {out:List (List UInt8)} {i:Nat} (hi:i<ps.length) (h:∀ j,j<i→¬zd6 ps out (ps.getD j pk0)) (hf:zd6 ps out (ps.getD i pk0)):zd3 ps out=some (ps.getD i pk0):=by
 have e:∀ j (hj:j<ps.length),ps.getD j pk0=ps[j]:=fun j hj=>by simp [List.getD,hj]
 unfold zd3;rw [List.find?_eq_some_iff_getElem];refine ⟨decide_eq_true hf,i,hi,(e i hi).symm,fun j hj=>?_⟩;have:=h j hj;rw [e j (by omega)] at this
 simpa using this
theorem zop {ps:List Pk} {out:List (List UInt8)} (h:∀ j,j<ps.length→¬zd6 ps out (ps.getD j pk0)):zd3 ps out=none:=by
 unfold zd3;rw [List.find?_eq_none];intro p hp;obtain ⟨j,hj,rfl⟩:=List.mem_iff_getElem.1 hp;have:=h j hj;rw [show ps.getD j pk0=ps[j] by simp [List.getD,hj]] at this
 simpa using this
def zdi (ps:List Pk) (out ims:List (List UInt8)) (k:Nat):Bool:=decide (∀ m∈ims.take k,m∈za4 ps→m∈out)
theorem zlj {ps:List Pk} {out ims:List (List UInt8)} {k:Nat} (hk:k<ims.length):zdi ps out ims (k+1)=(zdi ps out ims k && (decide (at8 ps (ims.getD k [])<0) || decide (ims.getD k []∈out))):=by
 unfold zdi;have e:ims.getD k []=ims[k]:=by simp [List.getD,hk]
 rw [List.take_succ_eq_append_getElem hk,e,Bool.eq_iff_iff];simp only [decide_eq_true_eq,Bool.and_eq_true,Bool.or_eq_true,List.mem_append,List.mem_singleton];have hat:=zdB ps ims[k];constructor
 ·
  intro h;refine ⟨fun m hm hn=>h m (Or.inl hm) hn,?_⟩;by_cases h0:at8 ps ims[k]<0
  ·exact Or.inl h0
  ·exact Or.inr (h _ (Or.inr rfl) (hat.1 (by omega)))
 ·
  rintro ⟨h1,h2⟩ m (hm | rfl) hn
  ·exact h1 m hm hn
  ·
   rcases h2 with h2 | h2
   ·have:=hat.2 hn;omega
   ·exact h2
structure Nx8 (ps:List Pk) (out:List (List UInt8)) (i:Nat) (nx:List UInt8):Prop where
 no:nx=[]→∀ j,j<i→¬zd6 ps out (ps.getD j pk0)
 yes:nx≠[]→∃ p,zd3 ps out=some p∧nx=p.1
theorem new_str8 (w:World) (x:List UInt8) (c:Nat):Src (w.alloc (.cells #[.string ⟨x.toArray⟩] 9)) (.slice (some ⟨w.heap.size,0,none⟩) 1 c) 1 1 (strV [x]):=by
 refine ⟨rfl,fun u hu=>?_,Or.inr ⟨_,c,rfl,fun j u hu=>?_⟩⟩
 ·simp [strV] at hu;subst hu;rfl
 ·exact cell_one_new w _ 9 j u hu
theorem zci {X:World} {B:Nat} {v:Value} {n:Nat} {ls:List (List UInt8)} (x:List UInt8) (hv:X.ownsRow B 9 1 v n (strV ls)) (hb:B≤X.heap.size) (hn:n≤1048576) :
 ∃ v' Y,(Builtin.append_ #[67,67] 67 #[v,.slice (some ⟨X.heap.size,0,none⟩) 1 1]).run Tryz.prog (X.alloc (.cells #[.string ⟨x.toArray⟩] 9))=.ok v' Y∧Y.ownsRow B 9 1 v' (n+1) (strV (ls++[x]))∧X.grownBy Y v.ownBlock:=by
 obtain ⟨i0,hi,hz0,hz1,hz2⟩:=info_parts zn1;obtain ⟨v',Y,hrun,hown,hg,_⟩:=zar (P:=Tryz.prog) (X.alloc (.cells #[.string ⟨x.toArray⟩] 9)) B 67 67 9 i0 _ 1 16 Tryz.underlying67 hi hz0 hz1 hz2 rfl (by decide) _ _ _ (hv.alloc _) _ 1 (strV [x]) (new_str8 X x 1) (by unfold maxLen;omega) (by omega) (by simp;omega);exact ⟨v',Y,hrun,by rw [←ziZ];exact hown,(World.grownBy_alloc X _ _).trans hg⟩
theorem zhv (a:Option Addr) (len cap:Nat) (ps:List Pk) (w:World) (hin:zav w a len ps) (hp:zaK ps=true) :
 Calls Tryz.prog 123 #[.slice a len cap] w fun e w'=>∃ v,e=.returned v∧w'.ownsRow w.heap.size 9 1 v (zaz ps).length (strV (zaz ps))∧Below w.heap.size w w':=by
 obtain rfl:ps.length=len:=hin.1;obtain ⟨hrise,hlen8,hpk⟩:=zaf hp;have HND:Hid ((za4 ps).Nodup):=hrise.nodup;have HPK:Hid (∀ p∈ps,pkgB p=true):=hpk;have hl8:(ps.length:Int)≤8:=by omega
 have HI:Hid (zav w a ps.length ps):=hin;have hown0:=(World.ownsRow_lit (base:=w.heap.size) (e:=9) (size:=1) w #[] 0 (Nat.le_refl _) (by decide) rfl);have hbA:Below w.heap.size w (w.alloc (.cells #[] 9)):=(Below.refl _ _).alloc (Nat.le_refl _) _;have HO0:Hid ((w.alloc (.cells #[] 9)).ownsRow w.heap.size 9 1 (.slice (some ⟨w.heap.size,0,none⟩) 0 0) 0 (strV [])):=hown0;have HB0:Hid (Below w.heap.size w (w.alloc (.cells #[] 9))):=hbA;have HR0:Hid (zaz ps=zbP ps (ps.length+1) []):=rfl;have HE:Hid (Or8 ps []):=zkC ps;generalize zaz ps=R at HR0 ⊢;clear hin hp hrise hpk hown0 hbA
 go_enter Tryz.func123,Tryz.ntmps123
 go_wp2
 go_loopw [3] (fun v wr=>∃ (oa:Option Addr) (oc:Nat) (out:List (List UInt8)) (n:Nat),v=.slice oa out.length oc∧ps.length<n+out.length∧Hid (wr.ownsRow w.heap.size 9 1 (.slice oa out.length oc) out.length (strV out))∧Hid (Below w.heap.size w wr)∧Hid (Or8 ps out)∧Hid (R=zbP ps n out)) (fun v _=>ps.length+1-lenOf v)
 case atStart=>exact ⟨some ⟨w.heap.size,0,none⟩,0,[],ps.length+1,rfl,by simp,HO0,HB0,HE,HR0⟩
 case round =>
  obtain ⟨oa,oc,out,n,rfl,hn,HO,HB,HOr,HRn⟩:=hrel;clear HO0 HB0 HE HR0;obtain ⟨W2,rfl⟩:∃ W2,W2=wr:=⟨_,rfl⟩
  have hol:=HOr.out.len;have HP:Hid (zav W2 a ps.length ps):=HI.out.below HB.out
  have HT:Hid (za7 W2 oa out.length out):=by obtain ⟨_,a',c',e,h⟩:=zaP HO.out;injection e with e1 _ _;subst e1;exact h
  go_wp2
  go_loopw [4,5] (fun nv iv wx=>∃ (i:Nat) (nx:List UInt8),nv=.string ⟨nx.toArray⟩∧iv=.int .i64 (i:Int)∧i≤ps.length∧Hid (Nx8 ps out i nx)∧W2=wx) (fun _ iv _=>ps.length-(intOf iv).toNat)
  case atStart=>exact ⟨0,[],rfl,rfl,by omega,(⟨fun _ j hj=>by omega,fun h=>absurd rfl h⟩:Nx8 ps out 0 []),rfl⟩
  case round =>
   obtain ⟨i,nx,rfl,rfl,hi,HN,rfl⟩:=hrel;by_cases hnx:nx=[]
   ·
    subst hnx;have he:(([]:List UInt8)==[])=true:=by decide
    by_cases hlt:(i:Int)<(ps.length:Int)
    ·
     have hi2:i<ps.length:=by omega
     obtain ⟨b,off,rfl,hbl,c0,ia,il,ic,fa,fl,fc,c1,c2,hii,_⟩:=HP.out.2 i hi2;have hpi:pkgB (ps.getD i pk0)=true:=HPK.out _ (by simp [List.getD,hi2]);have hfree:zd6 ps out (ps.getD i pk0)↔(¬(ps.getD i pk0).1∈out∧∀ m∈(ps.getD i pk0).2.1,m∈za4 ps→m∈out):=Iff.rfl;have hnat:=next8_at (out:=out) hi2 (HN.out.no rfl);obtain ⟨p,hp⟩:∃ p,ps.getD i pk0=p:=⟨_,rfl⟩
     have HPI:Hid (ps.getD i pk0=p):=hp;rw [hp] at c0 hii hpi hfree hnat;have HNA:Hid (zd6 ps out p→zd3 ps out=some p):=hnat;clear hp hnat;obtain ⟨x,ims,fs⟩:=p;simp only at c0 hii hfree;obtain ⟨h1,h2,h3,_,_⟩:=zdc hpi;simp only at h1 h2 h3;have hx1:=(zcl h1).1.1;obtain rfl:ims.length=il:=hii.1;have HFR:Hid (zd6 ps out (x,ims,fs)↔(¬x∈out∧∀ m∈ims,m∈za4 ps→m∈out)):=hfree;have HII:Hid (za7 W2 ia ims.length ims):=hii;clear hpi h1 h2 hii hfree;have HH:Hid (_):=zdH oa out.length oc out x W2 HT.out (by omega);by_cases hxo:x∈out
     ·
      rw [decide_eq_true hxo] at HH
      have HN2:Hid (Nx8 ps out (i+1) []):=⟨fun _ j hj=>by
       rcases Nat.lt_or_ge j i with h | h
       ·exact HN.out.no rfl j h
       ·
        obtain rfl:j=i:=by omega
        rw [HPI.out];exact fun h=>(HFR.out.1 h).1 hxo,fun h=>absurd rfl h⟩
      go_wp2_with (go_at_call 83;refine Calls.mono HH.out ?_;rintro e w1 ⟨rfl,hw1⟩;obtain rfl:=hw1.symm)
      go_roundw
      case rel=>exact ⟨i+1,[],rfl,by go_num,by omega,HN2,trivial⟩
      case measure=>simp [intOf];omega
     ·
      rw [decide_eq_false hxo] at HH;have HXO:Hid (¬x∈out):=hxo;clear hxo
      go_wp2_with (go_at_call 83;refine Calls.mono HH.out ?_;rintro e w1 ⟨rfl,hw1⟩;obtain rfl:=hw1.symm)
      go_loopw [6,7] (fun fv kv wy=>∃ (k:Nat) (fr:Bool),fv=.bool fr∧kv=.int .i64 (k:Int)∧k≤ims.length∧Hid (zdi ps out ims k=fr)∧W2=wy) (fun _ kv _=>ims.length-(intOf kv).toNat)
      case atStart=>exact ⟨0,true,rfl,rfl,by omega,(by simp [zdi]:zdi ps out ims 0=true),rfl⟩
      case round =>
       obtain ⟨k,fr,rfl,rfl,hk,HF,rfl⟩:=hrel;by_cases hkl:(k:Int)<(ims.length:Int)
       ·
        have hk2:k<ims.length:=by omega
        obtain ⟨b',off',rfl,hbl',d0⟩:=HII.out.2 k hk2;have hst:=zlj (ps:=ps) (out:=out) hk2;obtain ⟨m,hm⟩:∃ m,ims.getD k []=m:=⟨_,rfl⟩
        rw [hm,HF.out] at hst;rw [hm] at d0;have HA:Hid (_):=zfk (some ⟨b,off,none⟩) ps.length cap ps m W2 HP.out (by omega);have HM:Hid (_):=zdH oa out.length oc out m W2 HT.out (by omega);obtain ⟨z,hz⟩:∃ z,at8 ps m=z:=⟨_,rfl⟩
        obtain ⟨q,hq⟩:∃ q,decide (m∈out)=q:=⟨_,rfl⟩
        rw [hz] at HA hst;rw [hq] at HM hst;clear hz hq hm;rcases fr with _ | _
        ·
         have HF2:Hid (zdi ps out ims (k+1)=false):=by exact (by rw [hst];rfl:zdi ps out ims (k+1)=false)
         clear hst HA HM;go_wp2;go_roundw
         case rel=>exact ⟨k+1,false,rfl,by go_num,by omega,HF2,trivial⟩
         case measure=>simp [intOf];omega
        ·
         by_cases hz0:z<0
         ·
          have HF2:Hid (zdi ps out ims (k+1)=true):=by exact (by rw [hst,decide_eq_true hz0];rfl:zdi ps out ims (k+1)=true)
          clear hst HM
          go_wp2_with (go_at_call 82;refine Calls.mono HA.out ?_;rintro e w1 ⟨rfl,hw1⟩;obtain rfl:=hw1.symm)
          go_roundw
          case rel=>exact ⟨k+1,true,rfl,by go_num,by omega,HF2,trivial⟩
          case measure=>simp [intOf];omega
         ·
          have HF2:Hid (zdi ps out ims (k+1)=q):=by exact (by rw [hst,decide_eq_false hz0];cases q<;>rfl:zdi ps out ims (k+1)=q)
          clear hst
          go_wp2_with (first | (go_at_call 82;refine Calls.mono HA.out ?_;rintro e w1 ⟨rfl,hw1⟩;obtain rfl:=hw1.symm) | (go_at_call 83;refine Calls.mono HM.out ?_;rintro e w1 ⟨rfl,hw1⟩;obtain rfl:=hw1.symm))
          go_roundw
          case rel=>exact ⟨k+1,q,by rw [decide_eq_false (by omega)];cases q<;>rfl,by go_num,by omega,HF2,trivial⟩
          case measure=>simp [intOf];omega
       ·
        obtain rfl:k=ims.length:=by omega
        have hF:=HF.out;unfold zdi at hF;rw [List.take_of_length_le (Nat.le_refl _)] at hF;rcases fr with _ | _
        ·
         have HN2:Hid (Nx8 ps out (i+1) []):=⟨fun _ j hj=>by
          rcases Nat.lt_or_ge j i with h | h
          ·exact HN.out.no rfl j h
          ·
           obtain rfl:j=i:=by omega
           rw [HPI.out];exact fun h=>(of_decide_eq_false hF) (HFR.out.1 h).2,fun h=>absurd rfl h⟩
         clear hF HF;go_wp2;go_roundw
         case rel=>exact ⟨i+1,[],rfl,by go_num,by omega,HN2,trivial⟩
         case measure=>simp [intOf];omega
        ·
         have hne:x≠[]:=fun e=>by rw [e] at hx1;simp at hx1
         have HN2:Hid (Nx8 ps out (i+1) x):=⟨fun h=>absurd h hne,fun _=>⟨_,HNA.out (HFR.out.2 ⟨HXO.out,of_decide_eq_true hF⟩),rfl⟩⟩;clear hF HF hne;go_wp2;go_roundw
         case rel=>exact ⟨i+1,x,rfl,by go_num,by omega,HN2,trivial⟩
         case measure=>simp [intOf];omega
    ·
     have hnone:zd3 ps out=none:=zop (fun j hj=>HN.out.no rfl j (by omega));have HRR:Hid (R=out):=by exact (by rw [HRn.out];exact zfK n hnone:R=out)
     clear hnone;go_wp2;go_ret;exact ⟨_,rfl,by rw [HRR.out];exact HO.out,HB.out⟩
   ·
    have he:(nx==[])=false:=beq_eq_false_iff_ne.2 hnx;have he2:nx.isEmpty=false:=by rw [List.isEmpty_eq_false_iff];exact hnx
    obtain ⟨p,hp,hpn⟩:=HN.out.yes hnx;obtain ⟨n',rfl⟩:∃ n',n=n'+1:=⟨n-1,by omega⟩
    have HR2:Hid (R=zbP ps n' (out++[nx])):=by exact (by rw [HRn.out,zfJ n' hp,hpn]:R=zbP ps n' (out++[nx]))
    have HOr2:Hid (Or8 ps (out++[nx])):=by exact (by rw [hpn];exact HOr.out.step HND.out hp:Or8 ps (out++[nx]))
    obtain ⟨v',Y,hrun,hv',hg⟩:=zci nx HO.out HB.out.size (by omega)
    obtain ⟨a',c',rfl⟩:∃ a c,v'=.slice a (out.length+1) c:=by
     rcases zaR hv' with ⟨_,h0,_⟩ | ⟨g,cp,rfl⟩
     ·omega
     ·exact ⟨_,cp,rfl⟩
    have e1:(out++[nx]).length=out.length+1:=by simp
    have HO2:Hid (Y.ownsRow w.heap.size 9 1 (.slice a' (out++[nx]).length c') (out++[nx]).length (strV (out++[nx]))):=by exact (by rw [e1];exact hv':Y.ownsRow w.heap.size 9 1 (.slice a' (out++[nx]).length c') (out++[nx]).length (strV (out++[nx])))
    have HB2:Hid (Below w.heap.size w Y):=HB.out.grown hg HB.out.size (fun k e=>(HO.out.lt k e).1);have hol2:=HOr2.out.len;rw [e1] at hol2;have HE1:Hid ((out++[nx]).length=out.length+1):=e1;clear hp hpn hv' hg e1 HN;have hil:i≤ps.length:=hi
    go_wp2_with (at_builtin;refine za0 rfl (.tmp 66) (.tmp 68) 67 rfl _ _ _ rfl rfl hrun ?_;clear hrun)
    all_goals
     go_roundw
     case rel=>exact ⟨a',c',out++[nx],n',by rw [HE1.out],by rw [HE1.out];omega,HO2,HB2,HOr2,HR2⟩
     case measure=>simp only [lenOf];omega
end Go.Proofs.YtponeoijfaepnaaGreatDoor
