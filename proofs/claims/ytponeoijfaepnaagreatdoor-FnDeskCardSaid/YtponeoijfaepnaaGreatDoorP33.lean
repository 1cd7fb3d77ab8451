/-
  Parts of one proof, one behind the other: PackI, Math9I, HeapI, HasI.
-/
import Derived.Test.YtponeoijfaepnaaGreatDoorP32
namespace Go.Proofs.YtponeoijfaepnaaGreatDoor
open Go.RowKit
set_option maxHeartbeats 4000000
set_option maxRecDepth 100000
theorem zfw (f:Fn) (ta:Option Addr) (tl tc:Nat) (w:World) (hin:zay w ta tl f.2.2) (hint:IntT f.2.2) (hsh:zdo f.2.2) (hlen:tl≤1048576) (hn:f.1.length≤1048576) :
 Calls Tryz.prog 200 #[.agg #[.string ⟨f.1.toArray⟩,.int .i64 f.2.1,.slice ta tl tc]] w fun e w'=>e=.returned (.bool (zev f))∧Below w.heap.size w w':=by
 obtain ⟨s,n,t⟩:=f;simp only at hin hint hsh hn ⊢;obtain ⟨W,hW⟩:∃ W,w.alloc (.cells #[.string ⟨s.toArray⟩,.int .i64 n,.slice ta tl tc] 107)=W:=⟨_,rfl⟩
 have hbW:Below w.heap.size w W:=by rw [←hW];exact (Below.refl _ _).alloc (Nat.le_refl _) _
 have hA:W.heap[w.heap.size]?=some (.cells #[.string ⟨s.toArray⟩,.int .i64 n,.slice ta tl tc] 107):=by rw [←hW];exact heap_alloc_new w _
 have c0:W.cell? ⟨w.heap.size,0,none⟩=some (.string ⟨s.toArray⟩):=by simp [World.cell?,hA]
 have c1:W.cell? ⟨w.heap.size,1,none⟩=some (.int .i64 n):=by simp [World.cell?,hA]
 have c2:W.cell? ⟨w.heap.size,2,none⟩=some (.slice ta tl tc):=by simp [World.cell?,hA]
 have hC1:Hid (_):=zbV s W hn;have hC3:Hid (_):=zn3 ta tl tc t W (hin.below hbW) hint hsh hlen;have HF:Hid (zev (s,n,t)=(zaE s && (inB n 0 3 && zch t))):=rfl;have HN0:Hid (n<0→inB n 0 3=false):=fun h=>zcx _ _ _ (Or.inl h)
 have HN1:Hid (3<n→inB n 0 3=false):=fun h=>zcx _ _ _ (Or.inr h)
 have HN2:Hid (0≤n→n≤3→inB n 0 3=true):=fun h k=>zdO _ _ _ h k
 generalize zaE s=nb at hC1 HF;generalize inB n 0 3=ib at HF HN0 HN1 HN2;generalize zch t=tb at hC3 HF;clear hin hint hsh hA
 go_enter Tryz.func200,Tryz.ntmps200
 rcases nb with _ | _
 ·
  go_wp2_with (go_at_call 73;refine Calls.mono hC1.out ?_;rintro e w1 ⟨rfl,rfl⟩)
  go_ret;exact ⟨by rw [HF.out];rfl,hbW⟩
 ·
  by_cases h0:0≤n
  ·
   by_cases h3:n≤3
   ·
    have hi:=HN2.out h0 h3;subst hi
    go_wp2_with (first | (go_at_call 73;refine Calls.mono hC1.out ?_;rintro e w1 ⟨rfl,rfl⟩) | (go_at_call 203;refine Calls.mono hC3.out ?_;rintro e w2 ⟨rfl,hb2⟩))
    go_ret;exact ⟨by rw [HF.out];rfl,hbW.trans (hb2.mono hbW.size)⟩
   ·
    have hi:=HN1.out (by omega);subst hi
    go_wp2_with (go_at_call 73;refine Calls.mono hC1.out ?_;rintro e w1 ⟨rfl,rfl⟩)
    go_ret;exact ⟨by rw [HF.out];rfl,hbW⟩
  ·
   have hi:=HN0.out (by omega);subst hi
   go_wp2_with (go_at_call 73;refine Calls.mono hC1.out ?_;rintro e w1 ⟨rfl,rfl⟩)
   go_ret;exact ⟨by rw [HF.out];rfl,hbW⟩
theorem zeA (s:List UInt8):∀ (l r:List Fn) (k:Nat),(atGo s l k=-1∧atGo s (l++r) k=atGo s r (k+l.length))∨(0≤atGo s l k∧atGo s l k<(k:Int)+l.length∧atGo s (l++r) k=atGo s l k)
 | [],r,k=>Or.inl ⟨rfl,rfl⟩
 | f :: l,r,k=>by
  by_cases h:f.1=s
  ·refine Or.inr ?_;simp only [List.cons_append,atGo,if_pos h,List.length_cons];exact ⟨by omega,by omega,trivial⟩
  ·
   simp only [List.cons_append,atGo,if_neg h,List.length_cons];rcases zeA s l r (k+1) with ⟨a,b⟩ | ⟨a,b,c⟩
   ·exact Or.inl ⟨a,by rw [b,show k+1+l.length=k+(l.length+1) by omega]⟩
   ·exact Or.inr ⟨a,by omega,c⟩
theorem at_first {fs:List Fn} {i:Nat} (hi:i<fs.length) {s:List UInt8} (hs:(fs.getD i fn0).1=s):atV (fs.take i) s=-1↔atV fs s=(i:Int):=by
 have h:=zeA s (fs.take i) (fs.drop i) 0;rw [List.take_append_drop,List.length_take,Nat.min_eq_left (by omega),Nat.zero_add,zh0 hi,if_pos hs] at h;unfold atV;rcases h with ⟨a,b⟩ | ⟨a,b,c⟩
 ·exact ⟨fun _=>b,fun _=>a⟩
 ·exact ⟨fun e=>by omega,fun e=>by omega⟩
def fnsB (fs:List Fn):Bool:=inB (fs.length:Int) 1 8 && decide (∀ i,i<fs.length→zbs fs i)
theorem pkgB_fns (p:Pk):pkgB p=(zaE p.1 && (zaG p.2.1 && fnsB p.2.2)):=by
 unfold pkgB fnsB;cases zaE p.1<;>cases zaG p.2.1<;>cases inB (p.2.2.length:Int) 1 8<;>rfl
theorem zm6 {fs:List Fn} (h:(fs.length:Int)<1∨8<(fs.length:Int)):fnsB fs=false:=by unfold fnsB;rw [zcx _ _ _ h];rfl
theorem zoU {fs:List Fn} {j:Nat} (hj:j<fs.length) (h:¬zbs fs j):fnsB fs=false:=by unfold fnsB;rw [decide_eq_false (fun g=>h (g j hj)),Bool.and_false]
theorem fnsB_yes {fs:List Fn} (h1:1≤(fs.length:Int)) (h8:(fs.length:Int)≤8) (h:∀ i,i<fs.length→zbs fs i):fnsB fs=true:=by unfold fnsB;rw [zdO _ _ _ h1 h8,decide_eq_true h];rfl
theorem zaB.take {w:World} {a:Option Addr} {len:Nat} {fs:List Fn} (h:zaB w a len fs) {i:Nat} (hi:i≤len):zaB w a i (fs.take i):=by
 refine ⟨by rw [List.length_take,h.1];omega,fun j hj=>?_⟩;have e:(fs.take i).getD j fn0=fs.getD j fn0:=by rw [List.getD_eq_getElem?_getD,List.getD_eq_getElem?_getD,List.getElem?_take,if_pos hj]
 rw [e];exact h.2 j (by omega)
theorem zcO (fa:Option Addr) (fl fc:Nat) (fs:List Fn) (s:List UInt8) (w:World) (hin:zaB w fa fl fs) (hlen:fl≤1048576) :
 Calls Tryz.prog 184 #[.slice fa fl fc,.string ⟨s.toArray⟩] w fun e w'=>e=.returned (.int .i64 (atV fs s))∧Below w.heap.size w w':=by
 obtain rfl:fs.length=fl:=hin.1;have HI:Hid (zaB w fa fs.length fs):=hin;clear hin
 go_enter Tryz.func184,Tryz.ntmps184
 go_wp2
 go_loopw [9] (fun iv wr=>∃ j:Nat,iv=.int .i64 (j:Int)∧j≤fs.length∧Hid (atV fs s=atGo s (fs.drop j) j)∧Hid (Below w.heap.size w wr)) (fun iv _=>fs.length-(intOf iv).toNat)
 case atStart=>exact ⟨0,rfl,by omega,(rfl:atV fs s=atGo s (fs.drop 0) 0),Below.refl _ _⟩
 case round =>
  obtain ⟨j,rfl,hj,HA,HB⟩:=hrel;by_cases hlt:(j:Int)<(fs.length:Int)
  ·
   obtain ⟨b,off,rfl,hbl,c0,c1,ta,tl,tc,c2,_,_⟩:=(HI.out.below HB.out).2 j (by omega);have hg:=zh0 (fs:=fs) (k:=j) (by omega) s;obtain ⟨x,hx⟩:∃ x,(fs.getD j fn0).1=x:=⟨_,rfl⟩
   obtain ⟨n,hn⟩:∃ n,(fs.getD j fn0).2.1=n:=⟨_,rfl⟩
   rw [hx] at c0 hg;rw [hn] at c1;obtain ⟨bx,hbx⟩:=Box3.new wr (.string ⟨x.toArray⟩) (.int .i64 n) (.slice ta tl tc) 107;obtain ⟨X,hX⟩:∃ X,wr.alloc (.cells #[.string ⟨x.toArray⟩,.int .i64 n,.slice ta tl tc] 107)=X:=⟨_,rfl⟩
   rw [hX] at bx hbx;have d0:=bx.c0;have d1:=bx.c1;have d2:=bx.c2;have HB2:Hid (Below w.heap.size w X):=HB.out.trans (hbx.mono HB.out.size);clear bx hbx;by_cases hxs:x=s
   ·
    subst hxs;have HR:Hid (atV fs x=(j:Int)):=by exact (by rw [HA.out,hg,if_pos rfl]:atV fs x=(j:Int))
    have hself:(x==x)=true:=by simp
    clear HA hg hx hn;go_wp2;go_ret;exact ⟨by rw [HR.out];rfl,HB2.out⟩
   ·
    have HR:Hid (atV fs s=atGo s (fs.drop (j+1)) (j+1)):=by exact (by rw [HA.out,hg,if_neg hxs]:atV fs s=atGo s (fs.drop (j+1)) (j+1))
    have hne:(x==s)=false:=by rw [beq_eq_false_iff_ne];exact hxs
    clear HA hg hx hn;go_wp2;go_roundw
    case rel=>exact ⟨j+1,by go_num,by omega,HR,HB2⟩
    case measure=>simp [intOf];omega
  ·
   have HR:Hid (atV fs s=-1):=by exact (by rw [HA.out,List.drop_of_length_le (by omega)];rfl:atV fs s=-1)
   go_wp2;go_ret;exact ⟨by rw [HR.out];rfl,HB.out⟩
structure FkSt (w X:World) (E:Nat) (fa:Option Addr) (fl:Nat) (fs:List Fn) (s:List UInt8) (n:Int) (ta:Option Addr) (tl tc:Nat) (t:List Nd):Prop where
 b:Box3 X E (.string ⟨s.toArray⟩) (.int .i64 n) (.slice ta tl tc)
 n:zay X ta tl t
 f:zaB X fa fl fs
 h:Below w.heap.size w X
theorem FkSt.below {w X Y:World} {E:Nat} {fa:Option Addr} {fl:Nat} {fs:List Fn} {s:List UInt8} {n:Int} {ta:Option Addr} {tl tc:Nat} {t:List Nd} (g:FkSt w X E fa fl fs s n ta tl tc t) (hb:Below X.heap.size X Y):FkSt w Y E fa fl fs s n ta tl tc t :=
 ⟨g.b.below hb,g.n.below hb,g.f.below hb,g.h.trans (hb.mono g.h.size)⟩
theorem FkSt.drew {w X:World} {E:Nat} {fa:Option Addr} {fl:Nat} {fs:List Fn} {s:List UInt8} {n:Int} {ta:Option Addr} {tl tc:Nat} {t:List Nd} (g:FkSt w X E fa fl fs s n ta tl tc t):FkSt w X.drew E fa fl fs s n ta tl tc t :=
 g.below ((Below.refl _ _).grown (zap X none) (Nat.le_refl _) (fun k e=>by cases e))
theorem zl6 (fa:Option Addr) (fl fc:Nat) (fs:List Fn) (w:World) (hin:zaB w fa fl fs) (hlen:fl≤1048576) (hfc:fl≤fc) (hint:IntF fs) (hsh:zg5 fs) :
 Calls Tryz.prog 194 #[.slice fa fl fc] w fun e w'=>e=.returned (.bool (fnsB fs))∧Below w.heap.size w w':=by
 obtain rfl:fs.length=fl:=hin.1;have HI:Hid (zaB w fa fs.length fs):=hin;have HIF:Hid (IntF fs):=hint;have HSF:Hid (zg5 fs):=hsh;clear hin hint hsh;by_cases h1:(fs.length:Int)<1
 ·
  have HR:Hid (fnsB fs=false):=zm6 (Or.inl h1)
  go_enter Tryz.func194,Tryz.ntmps194
  go_wp2;go_ret;exact ⟨by rw [HR.out];rfl,Below.refl _ _⟩
 by_cases h8:8<(fs.length:Int)
 ·
  have HR:Hid (fnsB fs=false):=zm6 (Or.inr h8)
  go_enter Tryz.func194,Tryz.ntmps194
  go_wp2;go_ret;exact ⟨by rw [HR.out];rfl,Below.refl _ _⟩
 go_enter Tryz.func194,Tryz.ntmps194
 go_wp2
 go_loopw [15] (fun iv wr=>∃ j:Nat,iv=.int .i64 (j:Int)∧j≤fs.length∧Hid (∀ i,i<j→zbs fs i)∧Hid (Below w.heap.size w wr)) (fun iv _=>fs.length-(intOf iv).toNat)
 case atStart=>exact ⟨0,rfl,by omega,(fun i hi=>by omega),Below.refl _ _⟩
 case round =>
  obtain ⟨j,rfl,hj,HA,HB⟩:=hrel;by_cases hlt:(j:Int)<(fs.length:Int)
  ·
   have hin:=HI.out.below HB.out;obtain ⟨b,off,rfl,hbl,c0,c1,ta,tl,tc,c2,_,hnd⟩:=hin.2 j (by omega);have hsh:=HSF.out j;have hit:=(HIF.out j).2;have haf:=at_first (fs:=fs) (i:=j) (by omega) rfl;obtain ⟨f,hfj⟩:∃ f,fs.getD j fn0=f:=⟨_,rfl⟩
   have HOK:Hid (zbs fs j↔(zev f=true∧atV fs f.1=(j:Int))):=by exact (by unfold zbs;rw [hfj]:zbs fs j↔(zev f=true∧atV fs f.1=(j:Int)))
   rw [hfj] at c0 c1 hnd hsh hit haf;clear hfj;obtain ⟨s,n,t⟩:=f;simp only at c0 c1 hnd hsh hit haf;have HSH:Hid (s.length≤1048576∧t.length≤1048576∧zdo t):=hsh;have HIT:Hid (IntT t):=hit;have htl:tl≤1048576:=by rw [←hnd.1];exact hsh.2.1
   obtain ⟨bx,hbx⟩:=Box3.new wr (.string ⟨s.toArray⟩) (.int .i64 n) (.slice ta tl tc) 107;obtain ⟨X,hX⟩:∃ X,wr.alloc (.cells #[.string ⟨s.toArray⟩,.int .i64 n,.slice ta tl tc] 107)=X:=⟨_,rfl⟩
   obtain ⟨E,hE⟩:∃ E,wr.heap.size=E:=⟨_,rfl⟩
   rw [hX] at bx hbx;rw [hE] at bx;have st:FkSt w X E (some ⟨b,off,none⟩) fs.length fs s n ta tl tc t:=⟨bx,hnd.below hbx,hin.below hbx,HB.out.trans (hbx.mono HB.out.size)⟩;obtain ⟨fb,hfb⟩:∃ fb,zev (s,n,t)=fb:=⟨_,rfl⟩
   obtain ⟨av,hav⟩:∃ av,atV (fs.take j) s=av:=⟨_,rfl⟩
   have HFB:Hid (zev (s,n,t)=fb):=hfb;have HAT:Hid (atV (fs.take j) s=av):=hav;have HAF:Hid (av=-1↔atV fs s=(j:Int)):=by rw [hav] at haf;exact haf
   have hjc:(j:Int)≤(fc:Int):=by omega
   have hjc2:j≤fc:=by omega
   clear hsh hit hnd hbx bx hfb hav haf hin HB;have d0:=st.b.c0;have d1:=st.b.c1;have d2:=st.b.c2
   go_upto_region 6 with fail
   replace st:=st.drew;replace d0:=st.b.c0;replace d1:=st.b.c1;replace d2:=st.b.c2;rcases fb with _ | _
   ·
    have HR:Hid (fnsB fs=false):=zoU (j:=j) (by omega) (fun h=>by have:=(HOK.out.1 h).1;rw [HFB.out] at this;cases this);refine wp_region_held_drew (S:=(fun w'=>w'.cell? ⟨E,0,none⟩=some (.string ⟨s.toArray⟩)∧w'.cell? ⟨E,1,none⟩=some (.int .i64 n)∧w'.cell? ⟨E,2,none⟩=some (.slice ta tl tc))) (by kernel_rfl) ?_ (fun hHeld=>?_)
    ·first | (dsimp only;done) | (dsimp only;go_keep) | go_keep
    refine tkO [(0,20)] ?_
    repeat (refine tkY ?_ rfl (by rfl) ?_ ?_;rotate_left;(focus (intro wq hSw;(try dsimp only at hSw);first | (go_simp;done) | (go_simp;with_reducible rfl)));simp only [zP])
    refine tkZ ?_;refine zR 1 rfl (fun K hK=>?_);go_simp
    (go_at_call 200;refine (zfw (s,n,t) ta tl tc _ st.n HIT.out HSH.out.2.2 htl HSH.out.1).mono ?_;rintro e wn ⟨rfl,hbn⟩;replace st:=st.below hbn;clear hbn;replace d0:=st.b.c0;replace d1:=st.b.c1;replace d2:=st.b.c2;rw [HFB.out])
    refine hK.out _ _ ?_ (fun hHeld=>?_)
    ·first | (dsimp only;done) | (dsimp only;go_keep) | go_keep
    clear hK K;refine tkO [(2,22),(3,23),(4,24),(5,25),(6,26),(7,27),(8,28),(9,29),(10,30),(11,31)] ?_
    repeat ((first | (refine tkY ?_ rfl (by rfl) ?_ ?_;rotate_left;(focus (intro wq hSw;(try dsimp only at hSw);first | (go_simp;done) | (go_simp;with_reducible rfl)))) | refine tkN rfl (by rfl) ?_);simp only [zP])
    refine tkZ ?_;refine wpAnyH_done (by kernel_rfl) ?_ _;go_wp2;go_ret;exact ⟨by rw [HR.out];rfl,st.h⟩
   ·
    by_cases hje:av=-1
    ·
     subst hje
     have HA2:Hid (∀ i,i<j+1→zbs fs i):=fun i hi=>by
      rcases Nat.lt_or_ge i j with h | h
      ·exact HA.out i h
      ·
       obtain rfl:i=j:=by omega
       exact HOK.out.2 ⟨HFB.out,HAF.out.1 rfl⟩
     go_region_held3 (fun w'=>w'.cell? ⟨E,0,none⟩=some (.string ⟨s.toArray⟩)∧w'.cell? ⟨E,1,none⟩=some (.int .i64 n)∧w'.cell? ⟨E,2,none⟩=some (.slice ta tl tc)) (go_keep) (first | (go_at_call 184;refine (zcO (some ⟨b,off,none⟩) j fc (fs.take j) s _ (st.f.take (by omega)) (by omega)).mono ?_;rintro e wn ⟨rfl,hbn⟩;replace st:=st.below hbn;clear hbn;replace d0:=st.b.c0;replace d1:=st.b.c1;replace d2:=st.b.c2;rw [HAT.out]) | (go_at_call 200;refine (zfw (s,n,t) ta tl tc _ st.n HIT.out HSH.out.2.2 htl HSH.out.1).mono ?_;rintro e wn ⟨rfl,hbn⟩;replace st:=st.below hbn;clear hbn;replace d0:=st.b.c0;replace d1:=st.b.c1;replace d2:=st.b.c2;rw [HFB.out]))
     all_goals go_wp2
     all_goals go_roundw
     case rel=>exact ⟨j+1,by go_num,by omega,HA2,st.h⟩
     case measure=>simp [intOf];omega
    ·
     have HR:Hid (fnsB fs=false):=zoU (j:=j) (by omega) (fun h=>hje (HAF.out.2 (HOK.out.1 h).2));have hjb:(av !=-1)=true:=by rw [bne_iff_ne];exact hje
     have hjd:(av==-1)=false:=by rw [beq_eq_false_iff_ne];exact hje
     go_region_held3 (fun w'=>w'.cell? ⟨E,0,none⟩=some (.string ⟨s.toArray⟩)∧w'.cell? ⟨E,1,none⟩=some (.int .i64 n)∧w'.cell? ⟨E,2,none⟩=some (.slice ta tl tc)) (go_keep) (first | (go_at_call 184;refine (zcO (some ⟨b,off,none⟩) j fc (fs.take j) s _ (st.f.take (by omega)) (by omega)).mono ?_;rintro e wn ⟨rfl,hbn⟩;replace st:=st.below hbn;clear hbn;replace d0:=st.b.c0;replace d1:=st.b.c1;replace d2:=st.b.c2;rw [HAT.out]) | (go_at_call 200;refine (zfw (s,n,t) ta tl tc _ st.n HIT.out HSH.out.2.2 htl HSH.out.1).mono ?_;rintro e wn ⟨rfl,hbn⟩;replace st:=st.below hbn;clear hbn;replace d0:=st.b.c0;replace d1:=st.b.c1;replace d2:=st.b.c2;rw [HFB.out]))
     all_goals go_wp2
     all_goals go_ret
     all_goals exact ⟨by rw [HR.out];rfl,st.h⟩
  ·have HR:Hid (fnsB fs=true):=fnsB_yes (by omega) (by omega) (fun i hi=>HA.out i (by omega));go_wp2;go_ret;exact ⟨by rw [HR.out];rfl,HB.out⟩
theorem ziw (nm:List UInt8) (ia:Option Addr) (il ic:Nat) (fa:Option Addr) (fl fc:Nat) (ims:List (List UInt8)) (fs:List Fn) (w:World) (h:PkOk w nm ia il ic fa fl fc ims fs) :
 Calls Tryz.prog 181 #[.agg #[.string ⟨nm.toArray⟩,.slice ia il ic,.slice fa fl fc]] w fun e w'=>e=.returned (.bool (pkgB (nm,ims,fs)))∧Below w.heap.size w w':=by
 obtain ⟨W,hW⟩:∃ W,w.alloc (.cells #[.string ⟨nm.toArray⟩,.slice ia il ic,.slice fa fl fc] 99)=W:=⟨_,rfl⟩
 obtain ⟨st,hB⟩:=PkIn.new (w:=w) (nm:=nm) (ic:=ic) (fc:=fc) h.i h.f;rw [hW] at st hB;have k0:=st.k0;have k1:=st.k1;have k2:=st.k2;have hC1:Hid (_):=zbV nm W h.nm;have hC2:Hid (_):=ziy ia il ic ims W st.i h.il h.is;have hC3:Hid (_):=zl6 fa fl fc fs W st.f h.fl h.fc.2 h.int h.fs;have HP:Hid (pkgB (nm,ims,fs)=(zaE nm && (zaG ims && fnsB fs))):=pkgB_fns (nm,ims,fs);generalize zaE nm=nb at hC1 HP;generalize zaG ims=ib at hC2 HP;generalize fnsB fs=fb at hC3 HP;clear h st
 go_enter Tryz.func181,Tryz.ntmps181
 rcases nb with _ | _
 ·
  go_wp2_with (go_at_call 73;refine Calls.mono hC1.out ?_;rintro e w1 ⟨rfl,rfl⟩)
  go_ret;exact ⟨by rw [HP.out];rfl,hB⟩
 ·
  rcases ib with _ | _
  ·
   go_wp2_with (first | (go_at_call 73;refine Calls.mono hC1.out ?_;rintro e w1 ⟨rfl,rfl⟩) | (go_at_call 193;refine Calls.mono hC2.out ?_;rintro e w1 ⟨rfl,rfl⟩))
   go_ret;exact ⟨by rw [HP.out];rfl,hB⟩
  ·
   go_wp2_with (first | (go_at_call 73;refine Calls.mono hC1.out ?_;rintro e w1 ⟨rfl,rfl⟩) | (go_at_call 193;refine Calls.mono hC2.out ?_;rintro e w1 ⟨rfl,rfl⟩) | (go_at_call 194;refine Calls.mono hC3.out ?_;rintro e w2 ⟨rfl,hb2⟩))
   go_ret;exact ⟨by rw [HP.out];rfl,hB.trans (hb2.mono hB.size)⟩
def toV (ps:List Pk) (f:Nat) (q:List UInt8):Int:=if q=nmAt ps f then (f:Int) else if q∈zbe ps f then at8 ps q else -1
theorem toV_ways {ps:List Pk} {f:Nat} (hf:f<ps.length) (q:List UInt8) :
 (toV ps f q=-1∧farB ps (ps.getD f pk0) q=true)∨∃ t,t<ps.length∧toV ps f q=(t:Int)∧farB ps (ps.getD f pk0) q=false∧ofPk ps (ps.getD f pk0) q=ps.getD t pk0∧(q=(ps.getD f pk0).1↔t=f):=by
 unfold toV;by_cases h1:q=nmAt ps f
 ·rw [if_pos h1];refine Or.inr ⟨f,hf,rfl,decide_eq_false fun h=>h.1 h1,if_pos h1,fun _=>rfl,fun _=>h1⟩
 ·
  rw [if_neg h1];by_cases h2:q∈zbe ps f
  ·
   rw [if_pos h2];rcases zdm ps q with ⟨e,_⟩ | ⟨t,ht,e,hn,_⟩
   ·exact Or.inl ⟨e,decide_eq_true ⟨h1,Or.inr (by omega)⟩⟩
   ·
    refine Or.inr ⟨t,ht,e,decide_eq_false fun h=>?_,?_,fun h=>absurd h h1,fun h=>?_⟩
    ·
     rcases h.2 with h3 | h3
     ·exact h3 h2
     ·omega
    ·unfold ofPk;rw [if_neg (show ¬q=(ps.getD f pk0).1 from h1),e,Int.toNat_natCast]
    ·subst h;exact absurd hn.symm h1
  ·rw [if_neg h2];exact Or.inl ⟨rfl,decide_eq_true ⟨h1,Or.inl h2⟩⟩
def fsTo (ps:List Pk) (f t i:Nat):List Fn:=if t=f then (ps.getD t pk0).2.2.take i else (ps.getD t pk0).2.2
theorem zpe {ps:List Pk} {f i:Nat} {n:Nd} (h:farB ps (ps.getD f pk0) n.2.2.1=true):zb7 ps (ps.getD f pk0) (i:Int) n=1:=by
 unfold zb7;rw [if_pos h]
theorem atV_take (fs:List Fn) (i:Nat) (s:List UInt8):(atV (fs.take i) s=-1∧(atV fs s<0∨(i:Int)≤atV fs s))∨(0≤atV (fs.take i) s∧atV fs s=atV (fs.take i) s∧atV fs s<(i:Int)):=by
 have h:=zeA s (fs.take i) (fs.drop i) 0;rw [List.take_append_drop,List.length_take,Nat.zero_add] at h;have hd:=ziS s (fs.drop i) (min i fs.length);have hl:(min i fs.length)≤i:=Nat.min_le_left _ _;rw [List.length_drop] at hd;unfold atV;rcases h with ⟨a,b⟩ | ⟨a,b,c⟩
 ·
  refine Or.inl ⟨a,?_⟩;rcases hd with e | ⟨j,hj,e,_⟩
  ·exact Or.inl (by omega)
  ·exact Or.inr (by omega)
 ·exact Or.inr ⟨a,c,by omega⟩
theorem zno {ps:List Pk} {f i t:Nat} {n:Nd} (hfar:farB ps (ps.getD f pk0) n.2.2.1=false) (hof:ofPk ps (ps.getD f pk0) n.2.2.1=ps.getD t pk0) (hiff:n.2.2.1=(ps.getD f pk0).1↔t=f) :
 (atV (fsTo ps f t i) n.2.2.2=-1∧zb7 ps (ps.getD f pk0) (i:Int) n=2)∨∃ c,c<(fsTo ps f t i).length∧atV (fsTo ps f t i) n.2.2.2=(c:Int) ∧
  ((((fsTo ps f t i).getD c fn0).2.1≠n.2.1∧zb7 ps (ps.getD f pk0) (i:Int) n=3)∨(((fsTo ps f t i).getD c fn0).2.1=n.2.1∧zb7 ps (ps.getD f pk0) (i:Int) n=0)):=by
 unfold zb7;rw [if_neg (by rw [hfar];decide),hof]
 have hcase:∀ m:List Fn,m=fsTo ps f t i→(atV m n.2.2.2=-1↔(atV (ps.getD t pk0).2.2 n.2.2.2<0∨(n.2.2.1=(ps.getD f pk0).1∧(i:Int)≤atV (ps.getD t pk0).2.2 n.2.2.2)))∧(0≤atV m n.2.2.2→atV (ps.getD t pk0).2.2 n.2.2.2=atV m n.2.2.2∧∀ c:Nat,c<m.length→m.getD c fn0=(ps.getD t pk0).2.2.getD c fn0):=fun m hm=>by
  unfold fsTo at hm;by_cases htf:t=f
  ·
   rw [if_pos htf] at hm;subst hm;have h:=atV_take (ps.getD t pk0).2.2 i n.2.2.2;refine ⟨⟨fun e=>?_,fun e=>?_⟩,fun e=>⟨?_,fun c hc=>?_⟩⟩
   ·
    rcases h with ⟨_,h | h⟩ | ⟨h,_,_⟩
    ·exact Or.inl h
    ·exact Or.inr ⟨hiff.2 htf,h⟩
    ·omega
   ·
    rcases h with ⟨h,_⟩ | ⟨h,h2,h3⟩
    ·exact h
    ·rcases e with e | ⟨_,e⟩<;>omega
   ·
    rcases h with ⟨h,_⟩ | ⟨_,h,_⟩
    ·omega
    ·exact h
   ·rw [List.length_take] at hc;rw [List.getD_eq_getElem?_getD,List.getElem?_take_of_lt (by omega),←List.getD_eq_getElem?_getD]
  ·
   rw [if_neg htf] at hm;subst hm;refine ⟨⟨fun e=>Or.inl (by omega),fun e=>?_⟩,fun _=>⟨rfl,fun _ _=>rfl⟩⟩;rcases zhY (ps.getD t pk0).2.2 n.2.2.2 with h | ⟨j,_,h,_⟩
   ·exact h
   ·
    rcases e with e | ⟨e,_⟩
    ·omega
    ·exact absurd (hiff.1 e) htf
 obtain ⟨h1,h2⟩:=hcase _ rfl;generalize fsTo ps f t i=m at h1 h2 ⊢;rcases zhY m n.2.2.2 with e | ⟨c,hc,e,_⟩
 ·exact Or.inl ⟨e,if_pos (h1.1 e)⟩
 ·
  obtain ⟨h3,h4⟩:=h2 (by omega);refine Or.inr ⟨c,hc,e,?_⟩;rw [if_neg (fun h=>by have:=h1.2 h;omega),h3,e,Int.toNat_natCast,←h4 c hc];by_cases h5:(m.getD c fn0).2.1=n.2.1
  ·exact Or.inr ⟨h5,if_neg (fun h=>h h5)⟩
  ·exact Or.inl ⟨h5,if_pos h5⟩
theorem fsTo_len {ps:List Pk} {f t i:Nat} (h:t=f→i≤(ps.getD t pk0).2.2.length):(fsTo ps f t i).length=if t=f then i else (ps.getD t pk0).2.2.length:=by
 unfold fsTo;by_cases e:t=f
 ·rw [if_pos e,if_pos e,List.length_take,Nat.min_eq_left (h e)]
 ·rw [if_neg e,if_neg e]
theorem znd (ps:List Pk) (p:Pk) (i:Nat):((∃ n∈(p.2.2.getD i fn0).2.2,arg9 (p.2.2.getD i fn0) n)∧func9 ps p i=3) ∨
 ((∀ n∈(p.2.2.getD i fn0).2.2,¬arg9 (p.2.2.getD i fn0) n)∧(((∃ n∈(p.2.2.getD i fn0).2.2,bad9 ps p i n)∧func9 ps p i=4)∨((∀ n∈(p.2.2.getD i fn0).2.2,¬bad9 ps p i n)∧func9 ps p i=0))):=by
 unfold func9;generalize p.2.2.getD i fn0=f
 have hgo:∀ (t:List Nd) (c:Int),((∃ n∈t,arg9 f n)∧fnGo ps p i f t c=3)∨((∀ n∈t,¬arg9 f n)∧(((∃ n∈t,bad9 ps p i n)∧fnGo ps p i f t c=4)∨((∀ n∈t,¬bad9 ps p i n)∧fnGo ps p i f t c=c))):=by
  intro t
  induction t with
  | nil=>intro c;exact Or.inr ⟨(fun n h=>by cases h),Or.inr ⟨(fun n h=>by cases h),rfl⟩⟩
  | cons x r ih =>
   intro c;rw [fnGo];by_cases ha:arg9 f x
   ·rw [if_pos ha];exact Or.inl ⟨⟨x,List.mem_cons_self,ha⟩,rfl⟩
   ·
    rw [if_neg ha];by_cases hb:bad9 ps p i x
    ·
     rw [if_pos hb];rcases ih 4 with ⟨⟨n,hn,h⟩,e⟩ | ⟨h,⟨_,e⟩ | ⟨_,e⟩⟩
     ·exact Or.inl ⟨⟨n,List.mem_cons_of_mem _ hn,h⟩,e⟩
     ·exact Or.inr ⟨fun n hn=>by rcases List.mem_cons.1 hn with rfl | hn;exact ha;exact h n hn,Or.inl ⟨⟨x,List.mem_cons_self,hb⟩,e⟩⟩
     ·exact Or.inr ⟨fun n hn=>by rcases List.mem_cons.1 hn with rfl | hn;exact ha;exact h n hn,Or.inl ⟨⟨x,List.mem_cons_self,hb⟩,e⟩⟩
    ·
     rw [if_neg hb];rcases ih c with ⟨⟨n,hn,h⟩,e⟩ | ⟨h,⟨⟨n,hn,h2⟩,e⟩ | ⟨h2,e⟩⟩
     ·exact Or.inl ⟨⟨n,List.mem_cons_of_mem _ hn,h⟩,e⟩
     ·exact Or.inr ⟨fun n hn=>by rcases List.mem_cons.1 hn with rfl | hn;exact ha;exact h n hn,Or.inl ⟨⟨n,List.mem_cons_of_mem _ hn,h2⟩,e⟩⟩
     ·exact Or.inr ⟨fun n hn=>by rcases List.mem_cons.1 hn with rfl | hn;exact ha;exact h n hn,Or.inr ⟨fun n hn=>by rcases List.mem_cons.1 hn with rfl | hn;exact hb;exact h2 n hn,e⟩⟩
 exact hgo f.2.2 0
theorem zos {ps:List Pk} {i:Nat}:zhi ps (ps.getD i pk0)↔(plc ps (zbe ps i)).length<(zbe ps i).length:=by
 have hgo:∀ ms:List (List UInt8),(∃ m∈ms,at8 ps m<0)↔(plc ps ms).length<ms.length:=by
  intro ms
  induction ms with
  | nil=>exact ⟨(fun ⟨m,h,_⟩=>by cases h),(fun h=>absurd h (Nat.not_lt_zero _))⟩
  | cons x r ih =>
   have hle:=zo4 ps r;by_cases hx:0≤at8 ps x
   ·
    have e:plc ps (x :: r)=(at8 ps x).toNat :: plc ps r:=by simp [plc,hx]
    rw [e,List.length_cons,List.length_cons];refine ⟨fun ⟨m,hm,h⟩=>?_,fun h=>?_⟩
    ·
     rcases List.mem_cons.1 hm with rfl | hm
     ·omega
     ·have:=ih.1 ⟨m,hm,h⟩;omega
    ·obtain ⟨m,hm,h⟩:=ih.2 (by omega);exact ⟨m,List.mem_cons_of_mem _ hm,h⟩
   ·
    have e:plc ps (x :: r)=plc ps r:=by simp [plc,hx]
    rw [e,List.length_cons];exact ⟨fun _=>by omega,fun _=>⟨x,List.mem_cons_self,by omega⟩⟩
 exact hgo _
def all9 (out:List Nat) (n:Nat):List Nat:=out++(List.range n).filter (fun i=>decide (¬i∈out))
theorem zpn (out:List Nat) (n:Nat):all9 out (n+1)=if n∈out then all9 out n else all9 out n++[n]:=by
 unfold all9;rw [List.range_succ,List.filter_append];by_cases h:n∈out
 ·rw [if_pos h];simp [h]
 ·rw [if_neg h];simp [h]
theorem all9_lt {out:List Nat} {n:Nat} (h:∀ x∈out,x<n):∀ x∈all9 out n,x<n:=fun x hx=>by
 rcases List.mem_append.1 hx with h1 | h1
 ·exact h x h1
 ·exact List.mem_range.1 (List.mem_filter.1 h1).1
theorem zmk (out:List Nat) (n:Nat):(all9 out n).length≤out.length+n:=by
 unfold all9;rw [List.length_append];have:=List.length_filter_le (fun i=>decide (¬i∈out)) (List.range n);rw [List.length_range] at this;omega
theorem zjx (ps:List Pk):za4 ps=(List.range ps.length).map (nmAt ps):=by
 refine List.ext_getElem (by simp [za4]) fun i h1 h2=>?_
 have hi:i<ps.length:=by simpa [za4] using h1
 rw [zgC hi];simp
theorem znp {ps:List Pk} (hpj:zaK ps=true) {out:List Nat} (ho:zaJ ps out=zaz ps) (hol:∀ x∈out,x<ps.length):zaJ ps (all9 out ps.length)=ord9 ps:=by
 have hn:(za4 ps).Nodup:=(zaf hpj).1.nodup;unfold all9 ord9 zaJ;rw [List.map_append];have ho2:List.map (nmAt ps) out=zaz ps:=ho;rw [ho2];refine congrArg _ ?_;rw [zjx,List.filter_map];refine congrArg _ (List.filter_congr fun i hi=>?_);rw [←ho2];exact decide_eq_decide.2 (not_congr (nm_in hn hol (List.mem_range.1 hi)).symm)
def natV (l:List Nat):List Value:=l.map (fun x:Nat=>Value.int .i64 (x:Int))
theorem natV_at (l:List Nat) (j:Nat) (h:j<l.length):(natV l)[j]?=some (.int .i64 ((l.getD j 0:Nat):Int)):=by
 simp [natV,List.getD,List.getElem?_eq_getElem h]
theorem zor (l:List Nat) (x:Nat):natV l++[.int .i64 (x:Int)]=natV (l++[x]):=by simp [natV]
theorem zga (l:List Nat) (i x:Nat):(natV l).set i (.int .i64 (x:Int))=natV (l.set i x):=by simp [natV,List.map_set]
theorem zoq (l:List Nat) (m:Nat):(natV l).take m=natV (l.take m):=by simp [natV,List.map_take]
theorem zbS {w:World} {B g cp n:Nat} {l:List Nat} (h:w.ownsRow B 3 1 (.slice (some ⟨g,0,none⟩) n cp) n (natV l)) (hn:l.length=n) (j:Nat) (hj:j<n):w.cell? ⟨g,j,none⟩=some (.int .i64 ((l.getD j 0:Nat):Int)):=by
 rw [h.cellAt j (by omega),natV_at l j (by omega)]
theorem upLen (a:Option Addr) (n c:Nat) (w:World):Calls Tryz.prog 172 #[.slice a n c] w fun e w'=>e=.returned (.int .i64 (n:Int))∧w'=w:=by
 go_enter Tryz.func172,Tryz.ntmps172
 go_wp2;go_ret;exact ⟨rfl,rfl⟩
theorem ziW (B g cp n:Nat) (l:List Nat) (i j:Nat) (w:World) (h:w.ownsRow B 3 1 (.slice (some ⟨g,0,none⟩) n cp) n (natV l)) (hn:l.length=n) (hi:i<n) (hj:j<n) :
 Calls Tryz.prog 235 #[.slice (some ⟨g,0,none⟩) n cp,.int .i64 (i:Int),.int .i64 (j:Int)] w fun e w'=>e=.returned (.bool (decide (l.getD i 0<l.getD j 0)))∧Below w.heap.size w w':=by
 have c1:=zbS h hn i hi;have c2:=zbS h hn j hj;obtain ⟨x,hx⟩:∃ x,l.getD i 0=x:=⟨_,rfl⟩
 obtain ⟨y,hy⟩:∃ y,l.getD j 0=y:=⟨_,rfl⟩
 rw [hx] at c1 ⊢;rw [hy] at c2 ⊢;have hi2:(i:Int)<(n:Int):=by omega
 have hj2:(j:Int)<(n:Int):=by omega
 clear h hn hi hj hx hy
 go_enter Tryz.func235,Tryz.ntmps235
 go_wp2_with fail
 go_quiet (fail)
 go_wp2;go_ret;exact ⟨rfl,⟨rfl,rfl,rfl,Nat.le_refl _,fun _ _=>rfl⟩⟩
theorem ziV (B g cp n:Nat) (l:List Nat) (i j:Nat) (w:World) (h:w.ownsRow B 3 1 (.slice (some ⟨g,0,none⟩) n cp) n (natV l)) (hn:l.length=n) (hi:i<n) (hj:j<n) :
 Calls Tryz.prog 238 #[.slice (some ⟨g,0,none⟩) n cp,.int .i64 (i:Int),.int .i64 (j:Int)] w fun e w'=>e=.returned (.tuple #[])∧w'.ownsRow B 3 1 (.slice (some ⟨g,0,none⟩) n cp) n (natV (sw l i j))∧w.grownBy w' (some g):=by
 have c1:=zbS h hn i hi;have c2:=zbS h hn j hj;obtain ⟨s1,g1⟩:=h.stored i (.int .i64 ((l.getD j 0:Nat):Int));obtain ⟨s2,g2⟩:=s1.stored j (.int .i64 ((l.getD i 0:Nat):Int));have hg:=g1.trans g2;rw [zga,zga] at s2;have HS:Hid (((w.setCell ⟨g,i,none⟩ (.int .i64 ((l.getD j 0:Nat):Int))).setCell ⟨g,j,none⟩ (.int .i64 ((l.getD i 0:Nat):Int))).ownsRow B 3 1 (.slice (some ⟨g,0,none⟩) n cp) n (natV (sw l i j))):=s2;have HG:Hid (w.grownBy ((w.setCell ⟨g,i,none⟩ (.int .i64 ((l.getD j 0:Nat):Int))).setCell ⟨g,j,none⟩ (.int .i64 ((l.getD i 0:Nat):Int))) (some g)):=hg;obtain ⟨x,hx⟩:∃ x,l.getD i 0=x:=⟨_,rfl⟩
 obtain ⟨y,hy⟩:∃ y,l.getD j 0=y:=⟨_,rfl⟩
 rw [hx] at c1 HS HG;rw [hy] at c2 HS HG;have hi2:(i:Int)<(n:Int):=by omega
 have hj2:(j:Int)<(n:Int):=by omega
 have f1:=h.frozenAt i;have f2:=s1.frozenAt j
 have d2:(w.setCell ⟨g,i,none⟩ (.int .i64 ((l.getD j 0:Nat):Int))).cell? ⟨g,j,none⟩=some (.int .i64 ((l.getD j 0:Nat):Int)):=by
  have s1':=s1;rw [zga] at s1';rw [zbS s1' (by rw [List.length_set];exact hn) j hj,zcC (by omega)]
  split<;>rfl
 rw [hy] at f2 d2;clear h hn hi hj hx hy s1 g1 s2 g2 hg
 go_enter Tryz.func238,Tryz.ntmps238
 go_wp2_with fail
 go_region
 go_wp2
 go_end0
 exact ⟨rfl,zcX HS.out ⟨rfl,rfl,rfl,Nat.le_refl _,fun _ _ _=>rfl⟩,HG.out.trans ⟨rfl,rfl,rfl,Nat.le_refl _,fun _ _ _=>rfl⟩⟩
theorem info3:(Tryz.prog.info? 3).map (fun i=>(i.zero,i.size,i.bytes))=some (some (.int .i64 0),1,8):=by kernel_rfl
theorem zeL {X:World} {B:Nat} {v:Value} {n:Nat} {l:List Nat} (T:TypeId) (hT:Tryz.prog.underlying T=some (.slice 3)) (x:Nat) (hv:X.ownsRow B 3 1 v n (natV l)) (hb:B≤X.heap.size) (hn:n≤1048576) :
 ∃ v' Y,(Builtin.append_ #[T,T] T #[v,.slice (some ⟨X.heap.size,0,none⟩) 1 1]).run Tryz.prog (X.alloc (.cells #[.int .i64 (x:Int)] 3))=.ok v' Y∧Y.ownsRow B 3 1 v' (n+1) (natV (l++[x]))∧X.grownBy Y v.ownBlock∧(v'.ownBlock=v.ownBlock∨v'.ownBlock=some (X.heap.size+1)):=by
 obtain ⟨i0,hi,hz0,hz1,hz2⟩:=info_parts info3;obtain ⟨v',Y,hrun,hown,hg,_,hat⟩:=run_append_own_at (P:=Tryz.prog) (X.alloc (.cells #[.int .i64 (x:Int)] 3)) B T T 3 i0 _ 1 8 hT hi hz0 hz1 hz2 rfl (by decide) _ _ _ (hv.alloc _) ⟨X.heap.size,0,none⟩ 1 1 (natV [x]) rfl (fun j u hu=>cell_one_new X _ 3 j u hu) (fun u hu=>by simp [natV] at hu;subst hu;rfl) (by unfold maxLen;omega) (by omega) (by simp;omega);exact ⟨v',Y,hrun,by rw [←zor];exact hown,(World.grownBy_alloc X _ _).trans hg,by simpa using hat⟩
structure HpIn (w:World) (B nb:Nat) (v:Value) (l:List Nat):Prop where
 box:w.ownsRow B 198 1 (.slice (some ⟨nb,0,none⟩) 1 1) 1 [v]
 row:w.ownsRow B 3 1 v l.length (natV l)
theorem HpIn.cell {w:World} {B nb:Nat} {v:Value} {l:List Nat} (h:HpIn w B nb v l):w.cell? ⟨nb,0,none⟩=some v:=by rw [h.box.cellAt 0 (by decide)];rfl
theorem HpIn.ne {w:World} {B nb:Nat} {v:Value} {l:List Nat} (h:HpIn w B nb v l):v.ownBlock≠some nb:=by
 rcases zam h.box h.row (by decide) with e | e
 ·cases e
 ·exact fun e2=>e e2.symm
theorem HpIn.lt {w:World} {B nb:Nat} {v:Value} {l:List Nat} (h:HpIn w B nb v l):B≤nb∧nb<w.heap.size:=h.box.lt nb rfl
theorem HpIn.idle {w w':World} {B nb:Nat} {v:Value} {l:List Nat} (h:HpIn w B nb v l) (hg:w.grownBy w' none):HpIn w' B nb v l:=⟨zcX h.box hg,zcX h.row hg⟩
theorem HpIn.below {w w':World} {B nb:Nat} {v:Value} {l:List Nat} (h:HpIn w B nb v l) (hg:Below w.heap.size w w'):HpIn w' B nb v l:=⟨za5 h.box hg,za5 h.row hg⟩
theorem HpIn.wrote {w w':World} {B nb:Nat} {v:Value} {l:List Nat} {S:Nat→Prop} (h:HpIn w B nb v l) (hg:zaZ w w' S) (hb:¬S nb) (hv:∀ k,v.ownBlock=some k→¬S k):HpIn w' B nb v l :=
 ⟨zbR h.box hg (fun k e=>by injection e with e;rw [←e];exact hb),zbR h.row hg hv⟩
theorem HpIn.swapped {w w':World} {B nb g n cp:Nat} {l l':List Nat} (h:HpIn w B nb (.slice (some ⟨g,0,none⟩) n cp) l) (hr:w'.ownsRow B 3 1 (.slice (some ⟨g,0,none⟩) n cp) n (natV l')) (hl:l'.length=n) (hg:w.grownBy w' (some g)):HpIn w' B nb (.slice (some ⟨g,0,none⟩) n cp) l' :=
 ⟨h.box.kept hg (Or.inr (fun e=>h.ne e.symm)),by rw [hl];exact hr⟩
def zpp (w:World) (v v':Value):Prop:=∀ k,v'.ownBlock=some k→v.ownBlock=some k∨w.heap.size≤k
theorem asInt (x:Nat) (W:World):(Instr.typeAssert (.iface 3 (.int .i64 (x:Int))) 20 3 false).run Tryz.prog W=.ok (.int .i64 (x:Int)) W:=by kernel_rfl
theorem upPush (B nb:Nat) (v:Value) (l:List Nat) (x:Nat) (w:World) (h:HpIn w B nb v l) (hl:l.length≤1000) :
 Calls Tryz.prog 237 #[.pointer (some ⟨nb,0,none⟩),.iface 3 (.int .i64 (x:Int))] w fun e w'=>e=.returned (.tuple #[])∧∃ v',HpIn w' B nb v' (l++[x])∧zaZ w w' (fun k=>k=nb∨v.ownBlock=some k)∧zpp w v v':=by
 have hlt:=h.lt;obtain ⟨v',Y,hrun,hown,hg,hat⟩:=zeL 198 Tryz.underlying198 x (h.idle (zap w none)).row (by simp;omega) (by omega);have hne:some nb≠v.ownBlock:=fun e=>h.ne e.symm
 obtain ⟨g',c',rfl⟩:=zaw hown (by omega);have hboxY:Y.ownsRow B 198 1 (.slice (some ⟨nb,0,none⟩) 1 1) 1 [v]:=(h.idle (zap w none)).box.kept hg (Or.inr hne);obtain ⟨hst,hgs⟩:=hboxY.stored 0 (.slice (some ⟨g',0,none⟩) (l.length+1) c')
 have HE:Hid (HpIn (Y.setCell ⟨nb,0,none⟩ (.slice (some ⟨g',0,none⟩) (l.length+1) c')) B nb (.slice (some ⟨g',0,none⟩) (l.length+1) c') (l++[x])):=⟨hst,by
  have:=hown.kept hgs (zam hown hboxY (by decide));rw [List.length_append,List.length_singleton];exact this⟩
 have HW:Hid (zaZ w (Y.setCell ⟨nb,0,none⟩ (.slice (some ⟨g',0,none⟩) (l.length+1) c')) (fun k=>k=nb∨v.ownBlock=some k)):=((zaZ.of_grown (zap w none) (fun k e=>by cases e)).trans (zaZ.of_grown hg (fun k e=>Or.inr e))).trans (zaZ.of_grown hgs (fun k e=>by injection e with e;exact Or.inl e.symm))
 have HN:Hid (zpp w v (.slice (some ⟨g',0,none⟩) (l.length+1) c')):=fun k e=>by
  rcases hat with h1 | h1
  ·exact Or.inl (by rw [←h1];exact e)
  ·rw [h1] at e;injection e with e;right;rw [←e];simp
 have c0:=h.cell;have c1:(w.alloc (.cells #[.int .i64 (x:Int)] 3)).cell? ⟨nb,0,none⟩=some v:=by rw [(h.box.alloc _).cellAt 0 (by decide)];rfl
 have cY:Y.cell? ⟨nb,0,none⟩=some v:=by rw [hboxY.cellAt 0 (by decide)];rfl
 have fY:=hboxY.frozenAt 0;have hta:∀ W:World,(Instr.typeAssert (.iface 3 (.int .i64 (x:Int))) 20 3 false).run Tryz.prog W=.ok (.int .i64 (x:Int)) W:=asInt x
 change (Builtin.append_ _ _ _).run Tryz.prog (w.alloc (.cells #[.int .i64 (x:Int)] 3)).drew=_ at hrun
 clear h hlt hown hg hat hne hboxY hst hgs
 go_enter Tryz.func237,Tryz.ntmps237
 go_wp2_with fail
 go_region_law (first | (refine zcI (by rfl) (.tmp 7) (.tmp 10) 198 (by rfl) _ _ _ (by rfl) (by rfl) hrun ?_))
 all_goals
  go_wp2
  go_end0
  exact ⟨rfl,_,HE.out,HW.out,HN.out⟩
theorem zoi {l:List (List UInt8)} {x:List UInt8} (h:∀ i,i<l.length→l.getD i []≠x):¬x∈l:=fun hm=>by
 obtain ⟨i,hi,e⟩:=List.mem_iff_getElem.1 hm;exact h i hi (by simp [List.getD,hi,e])
theorem indexStr (a:Option Addr) (n c:Nat) (l:List (List UInt8)) (x:List UInt8) (w:World) (hin:za7 w a n l) (hn:n≤1048576) :
 Calls Tryz.prog 144 #[.slice a n c,.string ⟨x.toArray⟩] w fun e w'=>∃ y:Int,e=.returned (.int .i64 y)∧Hid (0≤y↔x∈l)∧w'=w:=by
 obtain rfl:l.length=n:=hin.1;have HI:Hid (za7 w a l.length l):=hin;clear hin
 go_enter Tryz.func144,Tryz.ntmps144
 go_wp2
 go_loopw [8] (fun iv wr=>∃ k:Nat,iv=.int .i64 (k:Int)∧k≤l.length∧Hid (∀ i,i<k→l.getD i []≠x)∧wr=w) (fun iv _=>l.length-(intOf iv).toNat)
 case atStart=>exact ⟨0,rfl,by omega,(fun i hi=>by omega),rfl⟩
 case round =>
  obtain ⟨k,rfl,hk,HA,hwr⟩:=hrel;obtain rfl:=hwr.symm;by_cases hlt:(k:Int)<(l.length:Int)
  ·
   have hk2:k<l.length:=by omega
   obtain ⟨b,off,rfl,hbl,c0⟩:=HI.out.2 k hk2;have hmem:l.getD k []∈l:=by simp [List.getD,hk2]
   obtain ⟨y,hy⟩:∃ y,l.getD k []=y:=⟨_,rfl⟩
   rw [hy] at c0 hmem;by_cases hxy:x=y
   ·
    subst hxy;have HM:Hid (0≤(k:Int)↔x∈l):=⟨fun _=>hmem,fun _=>by omega⟩;have hself:(x==x)=true:=by simp
    clear HA hy hmem;go_wp2;go_ret;exact ⟨_,rfl,HM,rfl⟩
   ·
    have HA2:Hid (∀ i,i<k+1→l.getD i []≠x):=fun i hi=>by
     rcases Nat.lt_or_ge i k with h | h
     ·exact HA.out i h
     ·
      obtain rfl:i=k:=by omega
      rw [hy];exact fun e=>hxy e.symm
    have hne:(x==y)=false:=beq_eq_false_iff_ne.2 hxy;clear HA hy hmem;go_wp2;go_roundw
    case rel=>exact ⟨k+1,by go_num,by omega,HA2,trivial⟩
    case measure=>simp [intOf];omega
  ·have HM:Hid (0≤(-1:Int)↔x∈l):=⟨fun h=>by omega,fun h=>absurd h (zoi (fun i hi=>HA.out i (by omega)))⟩;go_wp2;go_ret;exact ⟨_,rfl,HM,rfl⟩
theorem zey (a:Option Addr) (n c:Nat) (l:List (List UInt8)) (x:List UInt8) (w:World) (hin:za7 w a n l) (hn:n≤1048576) :
 Calls Tryz.prog 116 #[.slice a n c,.string ⟨x.toArray⟩] w fun e w'=>e=.returned (.bool (decide (x∈l)))∧w'=w:=by
 have hI:=indexStr a n c l x w hin hn
 go_enter Tryz.func116,Tryz.ntmps116
 go_wp2_with fail
 refine hI.mono ?_;rintro e w1 ⟨y,rfl,HM,hw⟩;obtain rfl:=hw.symm;clear hI;go_wp2;go_ret;exact ⟨by rw [decide_eq_decide.2 HM.out.symm];rfl,rfl⟩
end Go.Proofs.YtponeoijfaepnaaGreatDoor
