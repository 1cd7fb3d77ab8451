/-
  Parts of one proof, one behind the other: ProjS2, ProjS3, ProjS4.
-/
import Derived.Test.YtdbljnddkbpanaaGreatDoorP9
namespace Go.Proofs.YtdbljnddkbpanaaGreatDoor
open Go.RowKit
set_option maxHeartbeats 4000000 in
set_option maxRecDepth 100000 in
theorem ziD (a:Option Addr) (len cap:Nat) (ps:List Pk) (w:World) (hin:zat w a len ps) (hlen:len≤1048576) (hsh:zbr ps) :
 Calls Tryz.prog 117 #[.slice a len cap] w fun e w'=>e=.returned (.bool (zaL ps))∧Below w.heap.size w w':=by
 obtain rfl:ps.length=len:=hin.1
 have HI:Hid (zat w a ps.length ps):=hin
 have HS:Hid (zbr ps):=hsh
 clear hin hsh
 go_enter Tryz.func117,Tryz.ntmps117
 go_wp2
 go_loopw [3] (fun iv wr=>∃ j:Nat,iv=.int .i64 (j:Int)∧j≤ps.length∧Hid (∀ i,i<j→pj8 ps i)∧Hid (zat wr a ps.length ps)∧Hid (Below w.heap.size w wr)) (fun iv _=>ps.length-(intOf iv).toNat)
 case atStart=>exact ⟨0,rfl,by omega,(fun i hi=>by omega),HI,Below.refl _ _⟩
 case round =>
  obtain ⟨j,rfl,hj,HA,HP,HB⟩:=hrel
  clear HI
  by_cases hlt:(j:Int)<(ps.length:Int)
  ·
   have hj2:j<ps.length:=by omega
   have hin:=HP.out
   have hB:=HB.out
   clear HP HB
   obtain ⟨b,off,rfl,hbl,c0,ia,il,ic,fa,fl,fc,c1,c2,hi,hf⟩:=hin.2 j hj2
   have hsj:=HS.out j
   have hpj:pj8 ps j↔(pkgB (ps.getD j pk0)=true∧(0<j→leT (ps.getD j pk0).1 (ps.getD (j-1) pk0).1=false)):=Iff.rfl
   obtain ⟨p,hp⟩:∃ p,ps.getD j pk0=p:=⟨_,rfl⟩
   rw [hp] at c0 hi hf hsj hpj
   clear hp
   obtain ⟨x,ims,fs⟩:=p
   simp only at c0 hi hf hsj hpj
   obtain ⟨hx,hil,him,hfl,hfs⟩:=hsj
   rw [hi.1] at hil
   rw [hf.1] at hfl
   have HSH:Hid (x.length≤1048576∧(∀ i,(ims.getD i []).length≤1048576)∧zgc fs):=⟨hx,him,hfs⟩
   have HPJ:Hid (pj8 ps j↔(pkgB (x,ims,fs)=true∧(0<j→leT x (ps.getD (j-1) pk0).1=false))):=hpj
   obtain ⟨pb,hpb⟩:∃ pb,pkgB (x,ims,fs)=pb:=⟨_,rfl⟩
   have HPB:Hid (pkgB (x,ims,fs)=pb):=hpb
   clear hx him hfs hpj hpb
   replace hB:Below w.heap.size w wr.drew:=hB.drew
   replace hin:zat wr.drew (some ⟨b,off,none⟩) ps.length ps:=hin
   replace hi:za5 wr.drew ia il ims:=hi
   replace hf:zaD wr.drew fa fl fs:=hf
   replace hbl:b<wr.drew.heap.size:=hbl
   rcases pb with _ | _
   ·
    have HR:Hid (zaL ps=false):=zgg hj2 (fun h=>by have:=(HPJ.out.1 h).1;rw [HPB.out] at this;cases this)
    go_wp2_with fail
    refine wp_region_held_drew (S:=(fun w'=>w'.cell? ⟨b,off+j*3,none⟩=some (.string ⟨x.toArray⟩)∧w'.cell? ⟨b,off+j*3+1,none⟩=some (.slice ia il ic)∧w'.cell? ⟨b,off+j*3+2,none⟩=some (.slice fa fl fc))) (by kernel_rfl) ?_ (fun hHeld=>?_)
    ·
     first | (dsimp only;done) | (dsimp only;go_keep) | go_keep
    refine tkO [(0,10),(1,11),(2,12),(3,13)] ?_
    repeat (refine tkY ?_ rfl (by rfl) ?_ ?_;rotate_left;(focus (intro wq hSw;(try dsimp only at hSw);first | (go_simp;done) | (go_simp;with_reducible rfl)));simp only [zP])
    refine tkZ ?_
    refine zR 4 rfl (fun K hK=>?_)
    go_simp
    (go_at_call 145;refine (zcF x ia il ic fa fl fc ims fs _ hi hf (by omega) (by omega) HSH.out.1 HSH.out.2.1 HSH.out.2.2).mono ?_;rintro e wn ⟨rfl,hbn⟩;rw [HPB.out];replace hB:=hB.trans (hbn.mono hB.size);replace hin:=hin.below hbn;replace c0:=(hbn.cell (p:=⟨b,off+j*3,none⟩) hbl).trans c0;replace c1:=(hbn.cell (p:=⟨b,off+j*3+1,none⟩) hbl).trans c1;replace c2:=(hbn.cell (p:=⟨b,off+j*3+2,none⟩) hbl).trans c2;replace hi:=hi.below hbn;replace hf:=hf.below hbn;replace hbl:=Nat.lt_of_lt_of_le hbl hbn.size;clear hbn)
    refine hK.out _ _ ?_ (fun hHeld=>?_)
    ·
     first | (dsimp only;done) | (dsimp only;go_keep) | go_keep
    clear hK K
    refine tkO [(5,15),(6,16),(7,17),(8,18),(9,19),(10,20),(11,21),(12,22),(13,23),(14,24),(15,25),(16,26),(17,27),(18,28),(19,29),(20,30),(21,31),(22,32),(23,33)] ?_
    repeat ((first | (refine tkY ?_ rfl (by rfl) ?_ ?_;rotate_left;(focus (intro wq hSw;(try dsimp only at hSw);first | (go_simp;done) | (go_simp;with_reducible rfl)))) | refine tkN rfl (by rfl) ?_);simp only [zP])
    refine tkZ ?_
    refine wpAnyH_done (by kernel_rfl) ?_ _
    go_wp2
    go_ret
    exact ⟨by rw [HR.out];rfl,hB⟩
   ·
    rcases j with _ | j
    ·
     have HA2:Hid (∀ i,i<0+1→pj8 ps i):=fun i hi=>by
      obtain rfl:i=0:=by omega
      exact HPJ.out.2 ⟨HPB.out,fun h=>by omega⟩
     simp only [Nat.zero_mul,Nat.add_zero] at c0 c1 c2
     have hl0:(0:Int)<(ps.length:Int):=hlt
     rw [show ((0:Nat):Int)=0 from rfl]
     clear hlt
     go_wp2_with fail
     refine wp_region_held_drew (S:=(fun w'=>w'.cell? ⟨b,off,none⟩=some (.string ⟨x.toArray⟩)∧w'.cell? ⟨b,off+1,none⟩=some (.slice ia il ic)∧w'.cell? ⟨b,off+2,none⟩=some (.slice fa fl fc))) (by kernel_rfl) ?_ (fun hHeld=>?_)
     ·
      first | (dsimp only;done) | (dsimp only;go_keep) | go_keep
     refine tkO [(0,10),(1,11),(2,12),(3,13)] ?_
     repeat (refine tkY ?_ rfl (by rfl) ?_ ?_;rotate_left;(focus (intro wq hSw;(try dsimp only at hSw);first | (go_simp;done) | (go_simp;with_reducible rfl)));simp only [zP])
     refine tkZ ?_
     refine zR 4 rfl (fun K hK=>?_)
     go_simp
     (go_at_call 145;refine (zcF x ia il ic fa fl fc ims fs _ hi hf (by omega) (by omega) HSH.out.1 HSH.out.2.1 HSH.out.2.2).mono ?_;rintro e wn ⟨rfl,hbn⟩;rw [HPB.out];replace hB:=hB.trans (hbn.mono hB.size);replace hin:=hin.below hbn;replace c0:=(hbn.cell (p:=⟨b,off,none⟩) hbl).trans c0;replace c1:=(hbn.cell (p:=⟨b,off+1,none⟩) hbl).trans c1;replace c2:=(hbn.cell (p:=⟨b,off+2,none⟩) hbl).trans c2;replace hi:=hi.below hbn;replace hf:=hf.below hbn;replace hbl:=Nat.lt_of_lt_of_le hbl hbn.size;clear hbn)
     refine hK.out _ _ ?_ (fun hHeld=>?_)
     ·
      first | (dsimp only;done) | (dsimp only;go_keep) | go_keep
     clear hK K
     refine tkO [(5,15),(6,16),(7,17),(8,18),(9,19),(10,20),(11,21),(12,22),(13,23),(14,24),(15,25),(16,26),(17,27),(18,28),(19,29),(20,30),(21,31),(22,32),(23,33)] ?_
     repeat ((first | (refine tkY ?_ rfl (by rfl) ?_ ?_;rotate_left;(focus (intro wq hSw;(try dsimp only at hSw);first | (go_simp;done) | (go_simp;with_reducible rfl)))) | refine tkN rfl (by rfl) ?_);simp only [zP])
     refine tkZ ?_
     refine wpAnyH_done (by kernel_rfl) ?_ _
     have HP2:Hid (zat wn (some ⟨b,off,none⟩) ps.length ps):=hin
     have HB2:Hid (Below w.heap.size w wn):=hB
     go_wp2
     go_roundw
     case rel=>exact ⟨0+1,by go_num,by omega,HA2,HP2,HB2⟩
     case measure=>simp [intOf];omega
    ·
     obtain ⟨b',off',he,_,d0,_⟩:=hin.2 j (by omega)
     rw [show ((j+1:Nat):Int)=(j:Int)+1 by omega]
     have hl1:(j:Int)+1<(ps.length:Int):=by omega
     have hl2:(j:Int)<(ps.length:Int):=by omega
     have hl3:(0:Int)≤(j:Int)+1:=by omega
     have hl4:(0:Int)<(j:Int)+1:=by omega
     have hl5:IntKind.i64.wrap ((j:Int)+1-1)=(j:Int):=by rw [show (j:Int)+1-1=(j:Int) by omega];rw [IntKind.wrap_i64];omega
     have hl6:IntKind.i64.wrap (j:Int)=(j:Int):=by rw [IntKind.wrap_i64];omega
     clear hlt
     simp only [Option.some.injEq,Addr.mk.injEq,and_true] at he
     obtain ⟨rfl,rfl⟩:=he
     obtain ⟨y,hy⟩:∃ y,(ps.getD j pk0).1=y:=⟨_,rfl⟩
     have hpj:=HPJ.out
     rw [show j+1-1=j by omega,hy] at hpj
     rw [hy] at d0
     replace HPJ:Hid (pj8 ps (j+1)↔(pkgB (x,ims,fs)=true∧(0<j+1→leT x y=false))):=hpj
     have d0':wr.cell? ⟨b,off+j*3,none⟩=some (.string ⟨y.toArray⟩):=d0
     rcases hle:leT x y with _ | _
     ·
      have HA2:Hid (∀ i,i<j+1+1→pj8 ps i):=fun i hi=>by
       rcases Nat.lt_or_ge i (j+1) with h | h
       ·
        exact HA.out i h
       ·
        obtain rfl:i=j+1:=by omega
        exact HPJ.out.2 ⟨HPB.out,fun _=>hle⟩
      unfold leT at hle
      clear hy hpj
      go_wp2_with fail
      go_region_held3 (fun w'=>w'.cell? ⟨b,off+(j+1)*3,none⟩=some (.string ⟨x.toArray⟩)∧w'.cell? ⟨b,off+(j+1)*3+1,none⟩=some (.slice ia il ic)∧w'.cell? ⟨b,off+(j+1)*3+2,none⟩=some (.slice fa fl fc)∧w'.cell? ⟨b,off+j*3,none⟩=some (.string ⟨y.toArray⟩)) (go_keep) (first | (go_at_call 145;refine (zcF x ia il ic fa fl fc ims fs _ hi hf (by omega) (by omega) HSH.out.1 HSH.out.2.1 HSH.out.2.2).mono ?_;rintro e wn ⟨rfl,hbn⟩;rw [HPB.out];replace hB:=hB.trans (hbn.mono hB.size);replace hin:=hin.below hbn;replace c0:=(hbn.cell (p:=⟨b,off+(j+1)*3,none⟩) hbl).trans c0;replace c1:=(hbn.cell (p:=⟨b,off+(j+1)*3+1,none⟩) hbl).trans c1;replace c2:=(hbn.cell (p:=⟨b,off+(j+1)*3+2,none⟩) hbl).trans c2;replace d0:=(hbn.cell (p:=⟨b,off+j*3,none⟩) hbl).trans d0;replace hi:=hi.below hbn;replace hf:=hf.below hbn;replace hbl:=Nat.lt_of_lt_of_le hbl hbn.size;clear hbn))
      all_goals
       have HP2:Hid (zat wn (some ⟨b,off,none⟩) ps.length ps):=hin
       have HB2:Hid (Below w.heap.size w wn):=hB
       go_wp2
       go_roundw
       case rel=>exact ⟨j+1+1,by go_num,by omega,HA2,HP2,HB2⟩
       case measure=>simp [intOf];omega
     ·
      have HR:Hid (zaL ps=false):=zgg hj2 (fun h=>by have:=(HPJ.out.1 h).2 (by omega);rw [hle] at this;cases this)
      unfold leT at hle
      clear hy hpj
      go_wp2_with fail
      go_region_held3 (fun w'=>w'.cell? ⟨b,off+(j+1)*3,none⟩=some (.string ⟨x.toArray⟩)∧w'.cell? ⟨b,off+(j+1)*3+1,none⟩=some (.slice ia il ic)∧w'.cell? ⟨b,off+(j+1)*3+2,none⟩=some (.slice fa fl fc)∧w'.cell? ⟨b,off+j*3,none⟩=some (.string ⟨y.toArray⟩)) (go_keep) (first | (go_at_call 145;refine (zcF x ia il ic fa fl fc ims fs _ hi hf (by omega) (by omega) HSH.out.1 HSH.out.2.1 HSH.out.2.2).mono ?_;rintro e wn ⟨rfl,hbn⟩;rw [HPB.out];replace hB:=hB.trans (hbn.mono hB.size);replace hin:=hin.below hbn;replace c0:=(hbn.cell (p:=⟨b,off+(j+1)*3,none⟩) hbl).trans c0;replace c1:=(hbn.cell (p:=⟨b,off+(j+1)*3+1,none⟩) hbl).trans c1;replace c2:=(hbn.cell (p:=⟨b,off+(j+1)*3+2,none⟩) hbl).trans c2;replace d0:=(hbn.cell (p:=⟨b,off+j*3,none⟩) hbl).trans d0;replace hi:=hi.below hbn;replace hf:=hf.below hbn;replace hbl:=Nat.lt_of_lt_of_le hbl hbn.size;clear hbn))
      all_goals
       go_wp2
       go_ret
       exact ⟨by rw [HR.out];rfl,hB⟩
  ·
   have HR:Hid (zaL ps=inB (ps.length:Int) 1 8):=zjT (fun i hi=>HA.out i (by omega))
   have hC:Hid (_):=zc0 (ps.length:Int) 1 8 wr
   generalize inB (ps.length:Int) 1 8=ib at hC HR
   go_wp2_with (go_at_call 38;refine Calls.mono hC.out ?_;rintro e w1 ⟨rfl,rfl⟩)
   go_ret
   exact ⟨by rw [HR.out];rfl,HB.out⟩
def lenOf (v:Value):Nat:=match v with | .slice _ n _=>n | _=>0
theorem next8_at {ps:List Pk} {out:List (List UInt8)} {i:Nat} (hi:i<ps.length) (h:∀ j,j<i→¬zdd ps out (ps.getD j pk0)) (hf:zdd ps out (ps.getD i pk0)):zdb ps out=some (ps.getD i pk0):=by
 have e:∀ j (hj:j<ps.length),ps.getD j pk0=ps[j]:=fun j hj=>by simp [List.getD,hj]
 unfold zdb
 rw [List.find?_eq_some_iff_getElem]
 refine ⟨decide_eq_true hf,i,hi,(e i hi).symm,fun j hj=>?_⟩
 have:=h j hj
 rw [e j (by omega)] at this
 simpa using this
theorem zoO {ps:List Pk} {out:List (List UInt8)} (h:∀ j,j<ps.length→¬zdd ps out (ps.getD j pk0)):zdb ps out=none:=by
 unfold zdb
 rw [List.find?_eq_none]
 intro p hp
 obtain ⟨j,hj,rfl⟩:=List.mem_iff_getElem.1 hp
 have:=h j hj
 rw [show ps.getD j pk0=ps[j] by simp [List.getD,hj]] at this
 simpa using this
def zdp (ps:List Pk) (out ims:List (List UInt8)) (k:Nat):Bool:=decide (∀ m∈ims.take k,m∈za4 ps→m∈out)
theorem zlS {ps:List Pk} {out ims:List (List UInt8)} {k:Nat} (hk:k<ims.length):zdp ps out ims (k+1)=(zdp ps out ims k && (decide (at8 ps (ims.getD k [])<0) || decide (ims.getD k []∈out))):=by
 unfold zdp
 have e:ims.getD k []=ims[k]:=by simp [List.getD,hk]
 rw [List.take_succ_eq_append_getElem hk,e,Bool.eq_iff_iff]
 simp only [decide_eq_true_eq,Bool.and_eq_true,Bool.or_eq_true,List.mem_append,List.mem_singleton]
 have hat:=zdK ps ims[k]
 constructor
 ·
  intro h
  refine ⟨fun m hm hn=>h m (Or.inl hm) hn,?_⟩
  by_cases h0:at8 ps ims[k]<0
  ·
   exact Or.inl h0
  ·
   exact Or.inr (h _ (Or.inr rfl) (hat.1 (by omega)))
 ·
  rintro ⟨h1,h2⟩ m (hm | rfl) hn
  ·
   exact h1 m hm hn
  ·
   rcases h2 with h2 | h2
   ·
    have:=hat.2 hn;omega
   ·
    exact h2
structure Nx8 (ps:List Pk) (out:List (List UInt8)) (i:Nat) (nx:List UInt8):Prop where
 no:nx=[]→∀ j,j<i→¬zdd ps out (ps.getD j pk0)
 yes:nx≠[]→∃ p,zdb ps out=some p∧nx=p.1
theorem new_str8 (w:World) (x:List UInt8) (c:Nat):Src (w.alloc (.cells #[.string ⟨x.toArray⟩] 9)) (.slice (some ⟨w.heap.size,0,none⟩) 1 c) 1 1 (strV [x]):=by
 refine ⟨rfl,fun u hu=>?_,Or.inr ⟨_,c,rfl,fun j u hu=>?_⟩⟩
 ·
  simp [strV] at hu;subst hu;rfl
 ·
  exact cell_one_new w _ 9 j u hu
theorem zcp {X:World} {B:Nat} {v:Value} {n:Nat} {ls:List (List UInt8)} (x:List UInt8) (hv:X.ownsRow B 9 1 v n (strV ls)) (hb:B≤X.heap.size) (hn:n≤1048576) :
 ∃ v' Y,(Builtin.append_ #[35,35] 35 #[v,.slice (some ⟨X.heap.size,0,none⟩) 1 1]).run Tryz.prog (X.alloc (.cells #[.string ⟨x.toArray⟩] 9))=.ok v' Y∧Y.ownsRow B 9 1 v' (n+1) (strV (ls++[x]))∧X.grownBy Y v.ownBlock:=by
 obtain ⟨i0,hi,hz0,hz1,hz2⟩:=info_parts zlp
 obtain ⟨v',Y,hrun,hown,hg,_⟩:=zaE (P:=Tryz.prog) (X.alloc (.cells #[.string ⟨x.toArray⟩] 9)) B 35 35 9 i0 _ 1 16 Tryz.underlying35 hi hz0 hz1 hz2 rfl (by decide) _ _ _ (hv.alloc _) _ 1 (strV [x]) (new_str8 X x 1) (by unfold maxLen;omega) (by omega) (by simp;omega)
 exact ⟨v',Y,hrun,by rw [←zjB];exact hown,(World.grownBy_alloc X _ _).trans hg⟩
set_option maxHeartbeats 4000000 in
set_option maxRecDepth 100000 in
theorem zhS (a:Option Addr) (len cap:Nat) (ps:List Pk) (w:World) (hin:zat w a len ps) (hp:zaL ps=true) :
 Calls Tryz.prog 146 #[.slice a len cap] w fun e w'=>∃ v,e=.returned v∧w'.ownsRow w.heap.size 9 1 v (zax ps).length (strV (zax ps))∧Below w.heap.size w w':=by
 obtain rfl:ps.length=len:=hin.1
 obtain ⟨hrise,hlen8,hpk⟩:=zac hp
 have HND:Hid ((za4 ps).Nodup):=hrise.nodup
 have HPK:Hid (∀ p∈ps,pkgB p=true):=hpk
 have hl8:(ps.length:Int)≤8:=by omega
 have HI:Hid (zat w a ps.length ps):=hin
 have hown0:=(World.ownsRow_lit (base:=w.heap.size) (e:=9) (size:=1) w #[] 0 (Nat.le_refl _) (by decide) rfl)
 have hbA:Below w.heap.size w (w.alloc (.cells #[] 9)):=(Below.refl _ _).alloc (Nat.le_refl _) _
 have HO0:Hid ((w.alloc (.cells #[] 9)).ownsRow w.heap.size 9 1 (.slice (some ⟨w.heap.size,0,none⟩) 0 0) 0 (strV [])):=hown0
 have HB0:Hid (Below w.heap.size w (w.alloc (.cells #[] 9))):=hbA
 have HR0:Hid (zax ps=zbP ps (ps.length+1) []):=rfl
 have HE:Hid (Or8 ps []):=zlf ps
 generalize zax ps=R at HR0 ⊢
 clear hin hp hrise hpk hown0 hbA
 go_enter Tryz.func146,Tryz.ntmps146
 go_wp2
 go_loopw [3] (fun v wr=>∃ (oa:Option Addr) (oc:Nat) (out:List (List UInt8)) (n:Nat),v=.slice oa out.length oc∧ps.length<n+out.length∧Hid (wr.ownsRow w.heap.size 9 1 (.slice oa out.length oc) out.length (strV out))∧Hid (Below w.heap.size w wr)∧Hid (Or8 ps out)∧Hid (R=zbP ps n out)) (fun v _=>ps.length+1-lenOf v)
 case atStart=>exact ⟨some ⟨w.heap.size,0,none⟩,0,[],ps.length+1,rfl,by simp,HO0,HB0,HE,HR0⟩
 case round =>
  obtain ⟨oa,oc,out,n,rfl,hn,HO,HB,HOr,HRn⟩:=hrel
  clear HO0 HB0 HE HR0
  obtain ⟨W2,rfl⟩:∃ W2,W2=wr:=⟨_,rfl⟩
  have hol:=HOr.out.len
  have HP:Hid (zat W2 a ps.length ps):=HI.out.below HB.out
  have HT:Hid (za5 W2 oa out.length out):=by
   obtain ⟨_,a',c',e,h⟩:=zaC HO.out
   injection e with e1 _ _
   subst e1
   exact h
  go_wp2
  go_loopw [4,5] (fun nv iv wx=>∃ (i:Nat) (nx:List UInt8),nv=.string ⟨nx.toArray⟩∧iv=.int .i64 (i:Int)∧i≤ps.length∧Hid (Nx8 ps out i nx)∧W2=wx) (fun _ iv _=>ps.length-(intOf iv).toNat)
  case atStart=>exact ⟨0,[],rfl,rfl,by omega,(⟨fun _ j hj=>by omega,fun h=>absurd rfl h⟩:Nx8 ps out 0 []),rfl⟩
  case round =>
   obtain ⟨i,nx,rfl,rfl,hi,HN,rfl⟩:=hrel
   by_cases hnx:nx=[]
   ·
    subst hnx
    have he:(([]:List UInt8)==[])=true:=by decide
    by_cases hlt:(i:Int)<(ps.length:Int)
    ·
     have hi2:i<ps.length:=by omega
     obtain ⟨b,off,rfl,hbl,c0,ia,il,ic,fa,fl,fc,c1,c2,hii,_⟩:=HP.out.2 i hi2
     have hpi:pkgB (ps.getD i pk0)=true:=HPK.out _ (by simp [List.getD,hi2])
     have hfree:zdd ps out (ps.getD i pk0)↔(¬(ps.getD i pk0).1∈out∧∀ m∈(ps.getD i pk0).2.1,m∈za4 ps→m∈out):=Iff.rfl
     have hnat:=next8_at (out:=out) hi2 (HN.out.no rfl)
     obtain ⟨p,hp⟩:∃ p,ps.getD i pk0=p:=⟨_,rfl⟩
     have HPI:Hid (ps.getD i pk0=p):=hp
     rw [hp] at c0 hii hpi hfree hnat
     have HNA:Hid (zdd ps out p→zdb ps out=some p):=hnat
     clear hp hnat
     obtain ⟨x,ims,fs⟩:=p
     simp only at c0 hii hfree
     obtain ⟨h1,h2,h3,_,_⟩:=zdj hpi
     simp only at h1 h2 h3
     have hx1:=(zcr h1).1.1
     obtain rfl:ims.length=il:=hii.1
     have HFR:Hid (zdd ps out (x,ims,fs)↔(¬x∈out∧∀ m∈ims,m∈za4 ps→m∈out)):=hfree
     have HII:Hid (za5 W2 ia ims.length ims):=hii
     clear hpi h1 h2 hii hfree
     have HH:Hid (_):=zdU oa out.length oc out x W2 HT.out (by omega)
     by_cases hxo:x∈out
     ·
      rw [decide_eq_true hxo] at HH
      have HN2:Hid (Nx8 ps out (i+1) []):=⟨fun _ j hj=>by
       rcases Nat.lt_or_ge j i with h | h
       ·
        exact HN.out.no rfl j h
       ·
        obtain rfl:j=i:=by omega
        rw [HPI.out]
        exact fun h=>(HFR.out.1 h).1 hxo,fun h=>absurd rfl h⟩
      go_wp2_with (go_at_call 93;refine Calls.mono HH.out ?_;rintro e w1 ⟨rfl,hw1⟩;obtain rfl:=hw1.symm)
      go_roundw
      case rel=>exact ⟨i+1,[],rfl,by go_num,by omega,HN2,trivial⟩
      case measure=>simp [intOf];omega
     ·
      rw [decide_eq_false hxo] at HH
      have HXO:Hid (¬x∈out):=hxo
      clear hxo
      go_wp2_with (go_at_call 93;refine Calls.mono HH.out ?_;rintro e w1 ⟨rfl,hw1⟩;obtain rfl:=hw1.symm)
      go_loopw [6,7] (fun fv kv wy=>∃ (k:Nat) (fr:Bool),fv=.bool fr∧kv=.int .i64 (k:Int)∧k≤ims.length∧Hid (zdp ps out ims k=fr)∧W2=wy) (fun _ kv _=>ims.length-(intOf kv).toNat)
      case atStart=>exact ⟨0,true,rfl,rfl,by omega,(by simp [zdp]:zdp ps out ims 0=true),rfl⟩
      case round =>
       obtain ⟨k,fr,rfl,rfl,hk,HF,rfl⟩:=hrel
       by_cases hkl:(k:Int)<(ims.length:Int)
       ·
        have hk2:k<ims.length:=by omega
        obtain ⟨b',off',rfl,hbl',d0⟩:=HII.out.2 k hk2
        have hst:=zlS (ps:=ps) (out:=out) hk2
        obtain ⟨m,hm⟩:∃ m,ims.getD k []=m:=⟨_,rfl⟩
        rw [hm,HF.out] at hst
        rw [hm] at d0
        have HA:Hid (_):=zfq (some ⟨b,off,none⟩) ps.length cap ps m W2 HP.out (by omega)
        have HM:Hid (_):=zdU oa out.length oc out m W2 HT.out (by omega)
        obtain ⟨z,hz⟩:∃ z,at8 ps m=z:=⟨_,rfl⟩
        obtain ⟨q,hq⟩:∃ q,decide (m∈out)=q:=⟨_,rfl⟩
        rw [hz] at HA hst
        rw [hq] at HM hst
        clear hz hq hm
        rcases fr with _ | _
        ·
         have HF2:Hid (zdp ps out ims (k+1)=false):=by exact (by rw [hst];rfl:zdp ps out ims (k+1)=false)
         clear hst HA HM
         go_wp2
         go_roundw
         case rel=>exact ⟨k+1,false,rfl,by go_num,by omega,HF2,trivial⟩
         case measure=>simp [intOf];omega
        ·
         by_cases hz0:z<0
         ·
          have HF2:Hid (zdp ps out ims (k+1)=true):=by exact (by rw [hst,decide_eq_true hz0];rfl:zdp ps out ims (k+1)=true)
          clear hst HM
          go_wp2_with (go_at_call 92;refine Calls.mono HA.out ?_;rintro e w1 ⟨rfl,hw1⟩;obtain rfl:=hw1.symm)
          go_roundw
          case rel=>exact ⟨k+1,true,rfl,by go_num,by omega,HF2,trivial⟩
          case measure=>simp [intOf];omega
         ·
          have HF2:Hid (zdp ps out ims (k+1)=q):=by exact (by rw [hst,decide_eq_false hz0];cases q<;>rfl:zdp ps out ims (k+1)=q)
          clear hst
          go_wp2_with (first | (go_at_call 92;refine Calls.mono HA.out ?_;rintro e w1 ⟨rfl,hw1⟩;obtain rfl:=hw1.symm) | (go_at_call 93;refine Calls.mono HM.out ?_;rintro e w1 ⟨rfl,hw1⟩;obtain rfl:=hw1.symm))
          go_roundw
          case rel=>exact ⟨k+1,q,by rw [decide_eq_false (by omega)];cases q<;>rfl,by go_num,by omega,HF2,trivial⟩
          case measure=>simp [intOf];omega
       ·
        obtain rfl:k=ims.length:=by omega
        have hF:=HF.out
        unfold zdp at hF
        rw [List.take_of_length_le (Nat.le_refl _)] at hF
        rcases fr with _ | _
        ·
         have HN2:Hid (Nx8 ps out (i+1) []):=⟨fun _ j hj=>by
          rcases Nat.lt_or_ge j i with h | h
          ·
           exact HN.out.no rfl j h
          ·
           obtain rfl:j=i:=by omega
           rw [HPI.out]
           exact fun h=>(of_decide_eq_false hF) (HFR.out.1 h).2,fun h=>absurd rfl h⟩
         clear hF HF
         go_wp2
         go_roundw
         case rel=>exact ⟨i+1,[],rfl,by go_num,by omega,HN2,trivial⟩
         case measure=>simp [intOf];omega
        ·
         have hne:x≠[]:=fun e=>by rw [e] at hx1;simp at hx1
         have HN2:Hid (Nx8 ps out (i+1) x):=⟨fun h=>absurd h hne,fun _=>⟨_,HNA.out (HFR.out.2 ⟨HXO.out,of_decide_eq_true hF⟩),rfl⟩⟩
         clear hF HF hne
         go_wp2
         go_roundw
         case rel=>exact ⟨i+1,x,rfl,by go_num,by omega,HN2,trivial⟩
         case measure=>simp [intOf];omega
    ·
     have hnone:zdb ps out=none:=zoO (fun j hj=>HN.out.no rfl j (by omega))
     have HRR:Hid (R=out):=by exact (by rw [HRn.out];exact zfO n hnone:R=out)
     clear hnone
     go_wp2
     go_ret
     exact ⟨_,rfl,by rw [HRR.out];exact HO.out,HB.out⟩
   ·
    have he:(nx==[])=false:=beq_eq_false_iff_ne.2 hnx
    have he2:nx.isEmpty=false:=by rw [List.isEmpty_eq_false_iff];exact hnx
    obtain ⟨p,hp,hpn⟩:=HN.out.yes hnx
    obtain ⟨n',rfl⟩:∃ n',n=n'+1:=⟨n-1,by omega⟩
    have HR2:Hid (R=zbP ps n' (out++[nx])):=by exact (by rw [HRn.out,zfN n' hp,hpn]:R=zbP ps n' (out++[nx]))
    have HOr2:Hid (Or8 ps (out++[nx])):=by exact (by rw [hpn];exact HOr.out.step HND.out hp:Or8 ps (out++[nx]))
    obtain ⟨v',Y,hrun,hv',hg⟩:=zcp nx HO.out HB.out.size (by omega)
    obtain ⟨a',c',rfl⟩:∃ a c,v'=.slice a (out.length+1) c:=by
     rcases zb4 hv' with ⟨_,h0,_⟩ | ⟨g,cp,rfl⟩
     ·
      omega
     ·
      exact ⟨_,cp,rfl⟩
    have e1:(out++[nx]).length=out.length+1:=by simp
    have HO2:Hid (Y.ownsRow w.heap.size 9 1 (.slice a' (out++[nx]).length c') (out++[nx]).length (strV (out++[nx]))):=by exact (by rw [e1];exact hv':Y.ownsRow w.heap.size 9 1 (.slice a' (out++[nx]).length c') (out++[nx]).length (strV (out++[nx])))
    have HB2:Hid (Below w.heap.size w Y):=HB.out.grown hg HB.out.size (fun k e=>(HO.out.lt k e).1)
    have hol2:=HOr2.out.len
    rw [e1] at hol2
    have HE1:Hid ((out++[nx]).length=out.length+1):=e1
    clear hp hpn hv' hg e1 HN
    have hil:i≤ps.length:=hi
    go_wp2_with (at_builtin;refine za0 rfl (.tmp 66) (.tmp 68) 35 rfl _ _ _ rfl rfl hrun ?_;clear hrun)
    all_goals
     go_roundw
     case rel=>exact ⟨a',c',out++[nx],n',by rw [HE1.out],by rw [HE1.out];omega,HO2,HB2,HOr2,HR2⟩
     case measure=>simp only [lenOf];omega
theorem app8 {X:World} {B:Nat} {v x:Value} {n m:Nat} {ls ms:List (List UInt8)} (hv:X.ownsRow B 9 1 v n (strV ls)) (hb:B≤X.heap.size) (hs:Src X x m 1 (strV ms)) (hn:n+m≤4194304) :
 ∃ v' Y,(Builtin.append_ #[35,35] 35 #[v,x]).run Tryz.prog X=.ok v' Y∧Y.ownsRow B 9 1 v' (n+m) (strV (ls++ms))∧X.grownBy Y v.ownBlock:=by
 obtain ⟨i0,hi,hz0,hz1,hz2⟩:=info_parts zlp
 obtain ⟨v',Y,hrun,hown,hg,_⟩:=zaE (P:=Tryz.prog) X B 35 35 9 i0 _ 1 16 Tryz.underlying35 hi hz0 hz1 hz2 rfl (by decide) _ _ _ hv x m (strV ms) hs (by unfold maxLen;omega) (by omega) hb
 have e:strV (ls++ms)=strV ls++strV ms:=by simp [strV]
 exact ⟨v',Y,hrun,by rw [e];exact hown,hg⟩
theorem za5.src8 {w:World} {a:Option Addr} {len cap:Nat} {ts:List (List UInt8)} (h:za5 w a len ts) (hc:a=none→cap=0):Src w (.slice a len cap) len 1 (strV ts):=by
 have hl:(strV ts).length=len:=by simp [strV,h.1]
 refine ⟨by omega,fun u hu=>?_,?_⟩
 ·
  simp only [strV,List.mem_map] at hu
  obtain ⟨l,_,rfl⟩:=hu
  rfl
 ·
  rcases Nat.eq_zero_or_pos len with h0 | h0
  ·
   cases a with
   | none=>left;rw [hc rfl,h0];exact ⟨rfl,rfl⟩
   | some ad=>right;exact ⟨ad,cap,rfl,fun j u hu=>by rw [List.getElem?_eq_none (by omega)] at hu;cases hu⟩
  ·
   obtain ⟨b,off,rfl,_,hcell⟩:=h.at h0
   right
   refine ⟨_,cap,rfl,fun j u hu=>?_⟩
   have hj:j<len:=by have:=(List.getElem?_eq_some_iff.1 hu).1;omega
   have e:(⟨b,off,none⟩:Addr).add j=⟨b,off+j,none⟩:=by unfold Addr.add;split<;>simp_all
   rw [e,hcell j hj]
   have h2:(strV ts)[j]?=some (.string ⟨(ts.getD j []).toArray⟩):=by simp [strV,List.getD,List.getElem?_eq_getElem (show j<ts.length by rw [h.1];exact hj)]
   rw [←h2];exact hu
theorem src_take {w:World} {B g cap:Nat} {ts:List (List UInt8)} (h:w.ownsRow B 9 1 (.slice (some ⟨g,0,none⟩) ts.length cap) ts.length (strV ts)) {k:Nat} (hk:k≤ts.length):Src w (.slice (some ⟨g,0,none⟩) k cap) k 1 (strV (ts.take k)):=by
 refine ⟨by simp [strV];omega,fun u hu=>?_,Or.inr ⟨_,cap,rfl,fun j u hu=>?_⟩⟩
 ·
  simp only [strV,List.mem_map] at hu
  obtain ⟨l,_,rfl⟩:=hu
  rfl
 ·
  have hj:j<k:=by
   have:=(List.getElem?_eq_some_iff.1 hu).1
   simp [strV] at this
   omega
  have e:(⟨g,0,none⟩:Addr).add j=⟨g,j,none⟩:=by unfold Addr.add;split<;>simp_all
  rw [e,World.ownsRow.cellAt h j (by omega)]
  rw [←zo6,List.getElem?_take,if_pos hj] at hu
  exact hu
theorem src_drop {w:World} {B g cap:Nat} {ts:List (List UInt8)} (h:w.ownsRow B 9 1 (.slice (some ⟨g,0,none⟩) ts.length cap) ts.length (strV ts)) {k:Nat} (hk:k≤ts.length):Src w (.slice (if cap=k then some ⟨g,0,none⟩ else some ⟨g,k,none⟩) (ts.length-k) (cap-k)) (ts.length-k) 1 (strV (ts.drop k)):=by
 have hcap:=zle h
 have hone:∀ u∈strV (ts.drop k),u.oneCell'=true:=fun u hu=>by
  simp only [strV,List.mem_map] at hu
  obtain ⟨l,_,rfl⟩:=hu
  rfl
 by_cases hc:cap=k
 ·
  rw [if_pos hc]
  have hd:ts.drop k=[]:=List.drop_eq_nil_of_le (by omega)
  rw [hd]
  exact ⟨by simp [strV];omega,fun u hu=>by simp [strV] at hu,Or.inr ⟨_,_,rfl,fun j u hu=>by simp [strV] at hu⟩⟩
 ·
  rw [if_neg hc]
  refine ⟨by simp [strV],hone,Or.inr ⟨_,cap-k,rfl,fun j u hu=>?_⟩⟩
  have hj:j<ts.length-k:=by
   have:=(List.getElem?_eq_some_iff.1 hu).1
   simpa [strV] using this
  have e:(⟨g,k,none⟩:Addr).add j=⟨g,k+j,none⟩:=by unfold Addr.add;split<;>simp_all
  rw [e,World.ownsRow.cellAt h (k+j) (by omega)]
  have e2:(strV (ts.drop k))[j]?=(strV ts)[k+j]?:=by simp [strV,List.getElem?_drop]
  rw [←e2]
  exact hu
set_option maxHeartbeats 1000000 in
set_option maxRecDepth 100000 in
theorem zob (B g cap:Nat) (ts:List (List UInt8)) (s:List UInt8) (w:World) (h:w.ownsRow B 9 1 (.slice (some ⟨g,0,none⟩) ts.length cap) ts.length (strV ts)) (hB:B≤w.heap.size) (hlen:ts.length≤1048576) :
 Calls Tryz.prog 41 #[.slice (some ⟨g,0,none⟩) ts.length cap,.string ⟨s.toArray⟩] w fun e w'=>∃ g' c',e=.returned (.slice (some ⟨g',0,none⟩) (put8 ts s).length c')∧w'.ownsRow B 9 1 (.slice (some ⟨g',0,none⟩) (put8 ts s).length c') (put8 ts s).length (strV (put8 ts s))∧Below w.heap.size w w':=by
 have hcap:=zle h
 have HO:Hid (w.ownsRow B 9 1 (.slice (some ⟨g,0,none⟩) ts.length cap) ts.length (strV ts)):=h
 have hc1:(ts.length:Int)≤(cap:Int):=by omega
 go_enter Tryz.func41,Tryz.ntmps41
 go_wp2
 go_loopw [5] (fun iv wr=>∃ k:Nat,iv=.int .i64 (k:Int)∧k≤ts.length∧Hid (∀ i,i<k→Op.bytesLess (ts.getD i []) s=true)∧w=wr) (fun iv _=>ts.length-(intOf iv).toNat)
 case atStart=>exact ⟨0,rfl,by omega,(fun i hi=>by omega),rfl⟩
 case round =>
  obtain ⟨k,rfl,hk,HA,rfl⟩:=hrel
  -- the way on where the text is not there
  have HW:Hid (low8 s ts=k→ts[k]?≠some s→∃ v1 Y1 v2 Y2 v3 Y3 g' c' Y4,(Builtin.append_ #[35,35] 35 #[.slice (some ⟨w.heap.size,0,none⟩) 0 0,.slice (if cap=k then some ⟨g,0,none⟩ else some ⟨g,k,none⟩) (ts.length-k) (cap-k)]).run Tryz.prog (w.alloc (.cells #[] 9))=.ok v1 Y1 ∧
   (Builtin.append_ #[35,35] 35 #[.slice (some ⟨Y1.heap.size,0,none⟩) 0 0,.slice (some ⟨g,0,none⟩) k cap]).run Tryz.prog (Y1.alloc (.cells #[] 9))=.ok v2 Y2 ∧
   (Builtin.append_ #[35,35] 35 #[v2,.slice (some ⟨Y2.heap.size,0,none⟩) 1 1]).run Tryz.prog (Y2.alloc (.cells #[.string ⟨s.toArray⟩] 9))=.ok v3 Y3 ∧
   (Builtin.append_ #[35,35] 35 #[v3,v1]).run Tryz.prog Y3=.ok (.slice (some ⟨g',0,none⟩) (put8 ts s).length c') Y4∧Y4.ownsRow B 9 1 (.slice (some ⟨g',0,none⟩) (put8 ts s).length c') (put8 ts s).length (strV (put8 ts s))∧Below w.heap.size w Y4):=fun hlow hno=>by
   have hput:put8 ts s=ts.take k++s :: ts.drop k:=by unfold put8;rw [hlow,if_neg hno]
   have hb1:Below w.heap.size w (w.alloc (.cells #[] 9)):=(Below.refl _ _).alloc (Nat.le_refl _) _
   have ho1:=(World.ownsRow_lit (base:=w.heap.size) (e:=9) (size:=1) w #[] 0 (Nat.le_refl _) (by decide) rfl)
   obtain ⟨v1,Y1,hr1,hv1,hg1⟩:=app8 (ls:=[]) ho1 hb1.size (src_drop (za6 HO.out hb1) hk) (by omega)
   have hbY1:Below w.heap.size w Y1:=hb1.grown hg1 hb1.size (fun q e=>by simp [Value.ownBlock] at e;omega)
   have hb2:Below Y1.heap.size Y1 (Y1.alloc (.cells #[] 9)):=(Below.refl _ _).alloc (Nat.le_refl _) _
   have ho2:=(World.ownsRow_lit (base:=Y1.heap.size) (e:=9) (size:=1) Y1 #[] 0 (Nat.le_refl _) (by decide) rfl)
   obtain ⟨v2,Y2,hr2,hv2,hg2⟩:=app8 (ls:=[]) ho2 hb2.size (src_take (za6 (za6 HO.out hbY1) hb2) hk) (by omega)
   have hbY2:Below Y1.heap.size Y1 Y2:=hb2.grown hg2 hb2.size (fun q e=>by simp [Value.ownBlock] at e;omega)
   obtain ⟨v3,Y3,hr3,hv3,hg3⟩:=zcp s hv2 hbY2.size (by simp;omega)
   have hbY3:Below Y1.heap.size Y1 Y3:=hbY2.grown hg3 hbY2.size (fun q e=>(hv2.lt q e).1)
   have hv1Y3:=za6 hv1 hbY3
   obtain ⟨_,a1,c1,rfl,hin1⟩:=zaC hv1
   have hsrc1:Src Y3 (.slice a1 (0+(ts.length-k)) c1) (0+(ts.length-k)) 1 (strV ([]++ts.drop k)):=by
    obtain ⟨_,a2,c2,e2,hin2⟩:=zaC hv1Y3
    injection e2 with e2a _ e2c
    subst e2a e2c
    refine hin2.src8 (fun e=>?_)
    rcases zb4 hv1Y3 with ⟨e3,_,_⟩ | ⟨g3,cp3,e3⟩
    ·
     injection e3
    ·
     injection e3 with e3;rw [e] at e3;cases e3
   obtain ⟨v4,Y4,hr4,hv4,hg4⟩:=app8 hv3 hbY3.size hsrc1 (by omega)
   have e4:[]++ts.take k++[s]++([]++ts.drop k)=put8 ts s:=by rw [hput];simp
   have e5:0+k+1+(0+(ts.length-k))=(put8 ts s).length:=by rw [hput];simp;omega
   rw [e4,e5] at hv4
   obtain ⟨g',c',rfl⟩:=zaw hv4 (by rw [←e5];omega)
   exact ⟨_,Y1,v2,Y2,v3,Y3,g',c',Y4,hr1,hr2,hr3,hr4,zaI hv4 (Nat.le_trans hB hbY1.size),hbY1.trans ((hbY3.grown hg4 hbY3.size (fun q e=>(hv3.lt q e).1)).mono hbY1.size)⟩
  by_cases hkl:(k:Int)<(ts.length:Int)
  ·
   have hk2:k<ts.length:=by omega
   have c0:=zfn HO.out rfl k hk2
   have hat:ts[k]?=some (ts.getD k []):=by simp [List.getD,hk2]
   have hlow:=zlk s ts k HA.out hk
   obtain ⟨x,hx⟩:∃ x,ts.getD k []=x:=⟨_,rfl⟩
   rw [hx] at c0 hat hlow
   rcases hb:Op.bytesLess x s with _ | _
   ·
    have hl:=hlow (Or.inr hb)
    by_cases hxs:x=s
    ·
     subst hxs
     have HPt:Hid (put8 ts x=ts):=by exact (by unfold put8;rw [hl,if_pos hat]:put8 ts x=ts)
     have hself:(x==x)=true:=by simp
     clear HW HA hat hlow hx hl
     go_wp2
     go_ret
     exact ⟨g,cap,by rw [HPt.out];rfl,by rw [HPt.out];exact HO.out,Below.refl _ _⟩
    ·
     obtain ⟨v1,Y1,v2,Y2,v3,Y3,g',c',Y4,hr1,hr2,hr3,hr4,hv4,hbY4⟩:=HW.out hl (by rw [hat];intro e;injection e with e;exact hxs e)
     have hne:(x==s)=false:=by rw [beq_eq_false_iff_ne];exact hxs
     have HV4:Hid (Y4.ownsRow B 9 1 (.slice (some ⟨g',0,none⟩) (put8 ts s).length c') (put8 ts s).length (strV (put8 ts s))):=hv4
     rw [if_neg (show ¬cap=k by omega)] at hr1
     clear HW HA hat hlow hx hl hv4 h
     have hkc:(k:Int)≤(cap:Int):=by omega
     go_wp2_with (at_builtin;first | (refine za0 rfl (.tmp 34) (.tmp 37) 35 rfl _ _ _ rfl rfl hr1 ?_;clear hr1) | (refine za0 rfl (.tmp 39) (.tmp 42) 35 rfl _ _ _ rfl rfl hr2 ?_;clear hr2) | (refine za0 rfl (.tmp 43) (.tmp 45) 35 rfl _ _ _ rfl rfl hr3 ?_;clear hr3) | (refine za0 rfl (.tmp 46) (.tmp 47) 35 rfl _ _ _ rfl rfl hr4 ?_;clear hr4))
     go_ret
     exact ⟨g',c',rfl,HV4.out,hbY4⟩
   ·
    have HA2:Hid (∀ i,i<k+1→Op.bytesLess (ts.getD i []) s=true):=fun i hi=>by
     rcases Nat.lt_or_ge i k with h | h
     ·
      exact HA.out i h
     ·
      obtain rfl:i=k:=by omega
      rw [hx];exact hb
    clear HW HA hat hlow hx
    go_wp2
    go_roundw
    case rel=>exact ⟨k+1,by go_num,by omega,HA2,trivial⟩
    case measure=>simp [intOf];omega
  ·
   obtain rfl:k=ts.length:=by omega
   obtain ⟨v1,Y1,v2,Y2,v3,Y3,g',c',Y4,hr1,hr2,hr3,hr4,hv4,hbY4⟩:=HW.out (zlk s ts _ HA.out hk (Or.inl rfl)) (by simp)
   have HV4:Hid (Y4.ownsRow B 9 1 (.slice (some ⟨g',0,none⟩) (put8 ts s).length c') (put8 ts s).length (strV (put8 ts s))):=hv4
   clear HW HA hv4
   by_cases hcl:cap=ts.length
   ·
    subst hcl
    rw [if_pos rfl] at hr1
    simp only [Nat.sub_self] at hr1
    clear h
    go_wp2_with (at_builtin;first | (refine za0 rfl (.tmp 34) (.tmp 37) 35 rfl _ _ _ rfl rfl hr1 ?_;clear hr1) | (refine za0 rfl (.tmp 39) (.tmp 42) 35 rfl _ _ _ rfl rfl hr2 ?_;clear hr2) | (refine za0 rfl (.tmp 43) (.tmp 45) 35 rfl _ _ _ rfl rfl hr3 ?_;clear hr3) | (refine za0 rfl (.tmp 46) (.tmp 47) 35 rfl _ _ _ rfl rfl hr4 ?_;clear hr4))
    go_ret
    exact ⟨g',c',rfl,HV4.out,hbY4⟩
   ·
    rw [if_neg hcl,Nat.sub_self] at hr1
    clear h
    have hcl2:¬(cap:Int)=(ts.length:Int):=by omega
    go_wp2_with (at_builtin;first | (refine za0 rfl (.tmp 34) (.tmp 37) 35 rfl _ _ _ rfl rfl hr1 ?_;clear hr1) | (refine za0 rfl (.tmp 39) (.tmp 42) 35 rfl _ _ _ rfl rfl hr2 ?_;clear hr2) | (refine za0 rfl (.tmp 43) (.tmp 45) 35 rfl _ _ _ rfl rfl hr3 ?_;clear hr3) | (refine za0 rfl (.tmp 46) (.tmp 47) 35 rfl _ _ _ rfl rfl hr4 ?_;clear hr4))
    go_ret
    exact ⟨g',c',rfl,HV4.out,hbY4⟩
end Go.Proofs.YtdbljnddkbpanaaGreatDoor
