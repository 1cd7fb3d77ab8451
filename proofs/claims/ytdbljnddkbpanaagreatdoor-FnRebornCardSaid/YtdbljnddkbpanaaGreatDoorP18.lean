/-
  Parts of one proof, one behind the other: NewS2, Math18C, Math18D, NewP, TkM, TkM2.
-/
import Derived.Test.YtdbljnddkbpanaaGreatDoorP17
import Derived.Test.YtdbljnddkbpanaaGreatDoorP16
import Derived.Test.YtdbljnddkbpanaaGreatDoorP3
import Derived.Test.YtdbljnddkbpanaaGreatDoorP8
import Derived.Test.YtdbljnddkbpanaaGreatDoorP15
import Derived.Test.YtdbljnddkbpanaaGreatDoorP12
import Derived.Deep.RegionWith
namespace Go.Proofs.YtdbljnddkbpanaaGreatDoor
open Go.RowKit
theorem zfz {n:Int} (h0:-9223372036854775808≤n) (h1:n≤9223372036854775807):(intL n).length≤21:=by
 have h:=zer 19 n.natAbs (by omega)
 unfold intL
 split
 ·
  simp only [List.length_cons];omega
 ·
  omega
def zaX (n:Int):List UInt8:=115 :: 116 :: 97 :: 114 :: 116 :: 32 :: intL n
theorem zcL {n:Int} (h0:-9223372036854775808≤n) (h1:n≤9223372036854775807):(zaX n).length≤27:=by
 have:=zfz h0 h1
 unfold zaX
 simp only [List.length_cons]
 omega
theorem zcE {n:Int} (h0:-9223372036854775808≤n) (h1:n≤9223372036854775807):zaB n=zaj (zaX n):=by
 have:=zcL h0 h1
 exact zbY (zaX n) (by omega)
set_option maxHeartbeats 1000000 in
set_option maxRecDepth 100000 in
theorem zgw (n:Int) (w:World) (h0:-9223372036854775808≤n) (h1:n≤9223372036854775807) :
 Calls Tryz.prog 26 #[.int .i64 n] w fun e w'=>e=.returned (.string ⟨(zaB n).toArray⟩)∧Below w.heap.size w w':=by
 have HI:Hid (_):=zl6 n w h0 h1
 have HF:Hid (∀ Z,_):=fun Z=>zdT (zaX n) Z (by have:=zcL h0 h1;omega)
 have HT:Hid (zaX n=115 :: 116 :: 97 :: 114 :: 116 :: 32 :: intL n):=rfl
 rw [zcE h0 h1]
 generalize zaj (zaX n)=r at HF ⊢
 rw [HT.out] at HF
 have hcat:=zbU
 have hi:=zfz h0 h1
 have hd6:(⟨#[115,116,97,114,116,32]⟩:ByteArray)=⟨([115,116,97,114,116,32]:List UInt8).toArray⟩:=rfl
 clear HT
 go_enter Tryz.func26,Tryz.ntmps26
 go_wp2_with fail
 refine Calls.mono HI.out ?_
 rintro e w1 ⟨rfl,hb1⟩
 have HB1:Hid (Below w.heap.size w w1):=hb1
 clear hb1
 go_wp2_with fail
 refine Calls.mono (HF.out _) ?_
 rintro e w2 ⟨rfl,hb2⟩
 have HB2:Hid (Below w.heap.size w w2):=HB1.out.trans (hb2.mono HB1.out.size)
 clear hb2
 go_wp2
 go_ret
 exact ⟨rfl,HB2.out⟩
set_option maxHeartbeats 4000000 in
set_option maxRecDepth 100000 in
theorem zgx (a:Option Addr) (len cap:Nat) (ps:List Pk) (w:World) (hin:zat w a len ps) (hlen:len≤1048576) (hsh:zbr ps) :
 Calls Tryz.prog 24 #[.slice a len cap] w fun e w'=>∃ v,e=.returned (.tuple #[v,.bool (newV ps).2])∧ze9 w w' v (newV ps).1:=by
 obtain ⟨D,hD⟩:∃ D,w.heap.size=D:=⟨_,rfl⟩
 obtain ⟨W1,hW1⟩:∃ W,w.alloc (.cells #[.slice none 0 0,.int .i64 0,.int .i64 0,.string ⟨#[]⟩] 29)=W:=⟨_,rfl⟩
 have hs1:W1.heap.size=D+1:=by rw [←hW1,←hD];simp
 have hb1:Below D w W1:=by rw [←hW1,←hD];exact (Below.refl _ _).alloc (Nat.le_refl _) _
 have bR:=B4.new w (.slice none 0 0) (.int .i64 0) (.int .i64 0) (.string ⟨#[]⟩) 29
 rw [hW1,hD] at bR
 have HD:Hid (∀ Z,Below W1.heap.size W1 Z→B4 Z D (.slice none 0 0) (.int .i64 0) (.int .i64 0) (.string ⟨#[]⟩)∧zat Z a len ps∧Below D w Z):=fun Z hz =>
  ⟨bR.below hz,(hin.below (by rw [hD];exact hb1)).below hz,hb1.trans (hz.mono (by omega))⟩
 have HP:Hid (_):=specPrt a len cap ps W1 (HD.out W1 (Below.refl _ _)).2.1 hlen hsh
 clear hin bR hb1
 by_cases h0:(zaY ps).1=0
 ·
  have hV:newV ps=((zaP ps,1,0,zaB 1),true):=if_pos h0
  have hpv:prtV ps=zae ps:=(zeH h0).1
  have HL:Hid ((zaP ps).length=(zae ps).length):=by exact (by unfold zaP;simp:(zaP ps).length=(zae ps).length)
  have hpl:=(zdz (zds h0)).1
  have HT:Hid (∀ Z,zat Z a len ps→_):=fun Z hz=>zl4 a len cap ps Z hz hlen hsh h0
  have HS:Hid (∀ Z,_):=fun Z=>zgw 1 Z (by omega) (by omega)
  rw [hV]
  rw [hpv] at HP
  generalize zaP ps=ts at HL HT ⊢
  generalize zaB 1=sl at HS ⊢
  generalize zae ps=os at HP HL hpl
  obtain ⟨n,hn⟩:∃ n,os.length=n:=⟨_,rfl⟩
  rw [hn] at HP hpl
  have hn0:¬n=0:=by omega
  have hn1:¬(n:Int)=0:=by omega
  have hn2:((n:Int)==0)=false:=beq_eq_false_iff_ne.2 hn1
  clear hV hpv h0 hn HL hsh
  go_enter Tryz.func24,Tryz.ntmps24
  go_wp2_with fail
  refine Calls.mono HP.out ?_
  rintro e w2 ⟨v2,rfl,ho2,hb2⟩
  obtain ⟨a2,c2,rfl⟩:=zb3 ho2
  have HB2:Hid (Below W1.heap.size W1 w2):=hb2
  have HT2:Hid (_):=HT.out w2 (HD.out w2 hb2).2.1
  clear ho2 hb2 HP HT
  go_wp2_with fail
  refine Calls.mono HT2.out ?_
  rintro e w3 ⟨v3,xs,rfl,hx,ho3,hap,hb3⟩
  have hxl:xs.length=ts.length:=by rw [←hx,List.length_map]
  obtain ⟨va,vc,rfl⟩:=zb3 ho3.row
  rw [hxl] at ho3
  have HB3:Hid (Below W1.heap.size W1 w3):=HB2.out.trans (hb3.mono HB2.out.size)
  have HO3:Hid (za9 w3 w2.heap.size (.slice va ts.length vc) xs∧xs.map (·.1)=ts∧zao (xs.map tvT)):=⟨ho3,hx,hap⟩
  rw [hxl]
  clear ho3 hx hap hb3 HT2 hxl
  go_wp2_with fail
  refine Calls.mono (HS.out _) ?_
  rintro e w4 ⟨rfl,hb4⟩
  have HB4:Hid (Below W1.heap.size W1 w4):=HB3.out.trans (hb4.mono HB3.out.size)
  have HO4:Hid (za9 w4 w2.heap.size (.slice va ts.length vc) xs):=HO3.out.1.below hb4
  obtain ⟨br,_,hbD⟩:=HD.out w4 HB4.out
  have r0:=br.c0
  have r1:=br.c1
  have r2:=br.c2
  have r3:=br.c3
  have f0:=br.fr 0
  have f1:=br.fr 1
  have f2:=br.fr 2
  have f3:=br.fr 3
  have HBD:Hid (Below D w w4):=hbD
  clear hbD br hb4
  have hw2:D+1≤w2.heap.size:=by have:=HB2.out.size;omega
  go_wp2
  obtain ⟨X,hX,y0,y1,y2,y3,hg⟩:=set4 (.slice va ts.length vc) (.int .i64 1) (.int .i64 0) (.string ⟨sl.toArray⟩) r0 r1 r2 r3
  rw [hX]
  refine bodyPost_ret (v:=.tuple #[.agg #[.slice va ts.length vc,.int .i64 1,.int .i64 0,.string ⟨sl.toArray⟩],.bool true]) (by simp [results,Tryz.results24,go_sem,y0,y1,y2,y3]) rfl ?_
  have hk:=HO4.out.kept hg (zcl HO4.out.row (by omega)) (fun y hy=>zcl (HO4.out.trees y hy) (by omega))
  exact ⟨_,rfl,va,vc,xs,rfl,HO3.out.2.1,hk.base (by omega),HO3.out.2.2,by rw [hD];exact HBD.out.grown hg (by have:=HBD.out.size;omega) (fun k e=>by injection e with e;omega)⟩
 ·
  have hV:newV ps=(dk0,false):=if_neg h0
  have hpv:prtV ps=[]:=if_neg h0
  rw [hV]
  rw [hpv] at HP
  clear hV hpv h0 hsh
  go_enter Tryz.func24,Tryz.ntmps24
  go_wp2_with fail
  refine Calls.mono HP.out ?_
  rintro e w2 ⟨v2,rfl,ho2,hb2⟩
  obtain ⟨a2,c2,rfl⟩:=zb3 ho2
  obtain ⟨br,_,hbD⟩:=HD.out w2 hb2
  have r0:=br.c0
  have r1:=br.c1
  have r2:=br.c2
  have r3:=br.c3
  have f0:=br.fr 0
  have f1:=br.fr 1
  have f2:=br.fr 2
  have f3:=br.fr 3
  have HBD:Hid (Below D w w2):=hbD
  clear ho2 hb2 hbD br HP
  go_wp2
  obtain ⟨X,hX,y0,y1,y2,y3,hg⟩:=set4 (.slice none 0 0) (.int .i64 0) (.int .i64 0) (.string ⟨#[]⟩) r0 r1 r2 r3
  rw [hX]
  refine bodyPost_ret (v:=.tuple #[.agg #[.slice none 0 0,.int .i64 0,.int .i64 0,.string ⟨#[]⟩],.bool false]) (by simp [results,Tryz.results24,go_sem,y0,y1,y2,y3]) rfl ?_
  exact ⟨_,rfl,ze9.zero (by rw [hD];exact HBD.out.grown hg (by have:=HBD.out.size;omega) (fun k e=>by injection e with e;omega))⟩
section
def zd5 (ts:List Ta) (f:List UInt8) (k key:Int):Prop :=
 f=zcA k key∧(0≤k∧k<(ts.length:Int))∧zbA key=true∧(ts.getD k.toNat ta0).2.2.1≠2∧zbj ts (ts.getD k.toNat ta0)=true
instance (ts:List Ta) (f:List UInt8) (k key:Int):Decidable (zd5 ts f k key):=by unfold zd5;infer_instance
noncomputable def zdY (f:List UInt8) (i:Nat):Int:=zah ((za3 32 f).getD i [])
noncomputable def zb1 (ts:List Ta) (last:Int) (f:List UInt8):Option (List Ta × Int) :=
 if f=zaX (last+1) then some (ts,last+1)
 else if zd5 ts f (zdY f 1) (zdY f 2) then some (ts.set (zdY f 1).toNat (zbR (ts.getD (zdY f 1).toNat ta0) (zdY f 2)),last)
 else none
theorem zbZ (k key:Int):zcA k key=zde++32 :: (intL k++32 :: intL key):=by unfold zcA zde;simp
theorem zfK (n:Int):zaX n=zcR++32 :: intL n:=by unfold zaX zcR;simp
theorem zeJ {ts:List Ta} {f:List UInt8} {k key:Int} (hl:ts.length≤8) (h:zd5 ts f k key):zdY f 1=k∧zdY f 2=key:=by
 obtain ⟨h1,h2,h3,_⟩:=h
 have hk:0≤key∧key≤2147483646:=by unfold zbA inB at h3;exact of_decide_eq_true h3
 obtain ⟨w,u,hs,⟨_,hv⟩,⟨_,hu⟩⟩:=(zeg (f:=f) (k:=k) (key:=key) (by omega) (by omega) (by omega) (by omega)).2 (by rw [h1,zbZ])
 unfold zdY
 rw [hs]
 exact ⟨hv,hu⟩
theorem zez {n k key:Int}:zaX n≠zcA k key:=by
 rw [zbZ]
 unfold zaX zde
 intro e
 simp at e
theorem zd3 {ts:List Ta} {last:Int} {f:List UInt8} (h:f=zaX (last+1)):zb1 ts last f=some (ts,last+1):=if_pos h
theorem zeF {ts:List Ta} {last k key:Int} {f:List UInt8} (hl:ts.length≤8) (h:zd5 ts f k key):zb1 ts last f=some (ts.set k.toNat (zbR (ts.getD k.toNat ta0) key),last):=by
 obtain ⟨e1,e2⟩:=zeJ hl h
 unfold zb1
 rw [if_neg (by rw [h.1];exact fun e=>zez e.symm),e1,e2,if_pos h]
theorem zgv {ts:List Ta} {last:Int} {f:List UInt8} (h1:f≠zaX (last+1)) (h2:∀ k key,¬zd5 ts f k key):zb1 ts last f=none:=by
 unfold zb1
 rw [if_neg h1,if_neg (h2 _ _)]
noncomputable def zag:List (List UInt8)→List Ta→Int→Nat→List Ta × Int × Nat
 | [],ts,last,u=>(ts,last,u)
 | f :: r,ts,last,u =>
  match zb1 ts last f with
  | some p=>zag r p.1 p.2 (u+(16+f.length))
  | none=>(ts,last,u)
theorem zm4 {fs:List (List UInt8)} {ts:List Ta} {last:Int} {u i:Nat} (hi:fs.length≤i):zag (fs.drop i) ts last u=(ts,last,u):=by
 rw [List.drop_of_length_le hi];rfl
theorem zhy {fs:List (List UInt8)} {ts ts':List Ta} {last last':Int} {i:Nat} (hi:i<fs.length) (h:zb1 ts last (fs.getD i [])=some (ts',last')) :
 zag (fs.drop i) ts last (za1 (fs.take i))=zag (fs.drop (i+1)) ts' last' (za1 (fs.take (i+1))):=by
 have hg:fs.getD i []=fs[i]:=by simp [List.getD,hi]
 rw [hg] at h
 rw [List.drop_eq_getElem_cons hi,zag,h,List.take_succ_eq_append_getElem hi,zbF]
theorem znU {fs:List (List UInt8)} {ts:List Ta} {last:Int} {u i:Nat} (hi:i<fs.length) (h:zb1 ts last (fs.getD i [])=none):zag (fs.drop i) ts last u=(ts,last,u):=by
 have hg:fs.getD i []=fs[i]:=by simp [List.getD,hi]
 rw [hg] at h
 rw [List.drop_eq_getElem_cons hi,zag,h]
noncomputable def rebD (ps:List Pk) (jr:List UInt8):Dk :=
 let r:=zag (za2 jr) (newV ps).1.1 0 0
 (r.1,r.2.1+1,0,jr.take r.2.2++zaB (r.2.1+1))
noncomputable def rebV (ps:List Pk) (jr:List UInt8):Dk × Bool:=if (newV ps).2=true∧zay (rebD ps jr)=true then (rebD ps jr,true) else (dk0,false)
theorem zn3 {ts ts':List Ta} {last last':Int} {f:List UInt8} (h:zb1 ts last f=some (ts',last')):ts'.length=ts.length∧last≤last'∧last'≤last+1:=by
 unfold zb1 at h
 split at h
 ·
  injection h with h;injection h with h1 h2;subst h1;subst h2;exact ⟨rfl,by omega,by omega⟩
 ·
  split at h
  ·
   injection h with h;injection h with h1 h2;subst h1;subst h2;exact ⟨by simp,by omega,by omega⟩
  ·
   cases h
theorem zdL:∀ (fs:List (List UInt8)) (ts:List Ta) (last:Int) (u:Nat),(zag fs ts last u).1.length=ts.length∧last≤(zag fs ts last u).2.1∧(zag fs ts last u).2.1≤last+fs.length
 | [],ts,last,u=>by simp [zag]
 | f :: r,ts,last,u=>by
  rcases hs:zb1 ts last f with _ | ⟨ts',l'⟩
  ·
   rw [zag,hs]
   refine ⟨rfl,Int.le_refl _,by simp only [List.length_cons];omega⟩
  ·
   have e:zag (f :: r) ts last u=zag r ts' l' (u+(16+f.length)):=by rw [zag,hs]
   rw [e]
   obtain ⟨h1,h2,h3⟩:=zn3 hs
   obtain ⟨g1,g2,g3⟩:=zdL r ts' l' (u+(16+f.length))
   exact ⟨g1.trans h1,by omega,by simp only [List.length_cons];omega⟩
end
section
theorem zn6 (c:UInt8) (l:List UInt8):1≤(za3 c l).length:=by
 have:∀ (l acc:List UInt8),1≤(zan c acc l).length:=by
  intro l
  induction l with
  | nil=>intro acc;simp [zan]
  | cons a r ih =>
   intro acc
   unfold zan
   split
   ·
    simp
   ·
    exact ih _
 exact this l []
theorem zl2 (c:UInt8) (l:List UInt8) (i:Nat):((za3 c l).getD i []).length≤l.length:=by
 by_cases hi:i<(za3 c l).length
 ·
  have hg:(za3 c l).getD i []=(za3 c l)[i]:=by simp [List.getD,hi]
  rw [hg]
  have h1:((za3 c l)[i]).length≤(za3 c l).flatten.length:=by
   have hm:=List.getElem_mem hi
   generalize (za3 c l)[i]=x at hm ⊢
   generalize za3 c l=ws at hm ⊢
   clear hi hg
   induction ws with
   | nil=>cases hm
   | cons a r ih =>
    rw [List.flatten_cons,List.length_append]
    rcases List.mem_cons.1 hm with e | h
    ·
     subst e;omega
    ·
     have:=ih h;omega
  have h2:=zfL c l []
  have h3:(za3 c l).flatten.length≤l.length:=by simpa [za3] using h2
  omega
 ·
  rw [List.getD_eq_getElem?_getD,List.getElem?_eq_none (by omega)]
  simp
theorem zjG (c:UInt8) (l:List UInt8):(za3 c l).length≤l.length+1:=by
 have:∀ (l acc:List UInt8),(zan c acc l).length≤l.length+1:=by
  intro l
  induction l with
  | nil=>intro acc;simp [zan]
  | cons a r ih =>
   intro acc
   unfold zan
   split
   ·
    have:=ih []
    simp only [List.length_cons]
    omega
   ·
    have:=ih (acc++[a])
    simp only [List.length_cons]
    first | omega | exact Nat.le_succ_of_le (ih _)
 exact this l []
theorem zn4 {f:List UInt8} {n:Int} (h0:-2147483648≤n) (h1:n≤2147483647) (h:f=zaX n):∃ w,za3 32 f=[zcR,w]∧zaH w=true∧zah w=n :=
 (zgV h0 h1).2 (by rw [h,zfK])
theorem zpB {f:List UInt8} {k key:Int} (h0:-2147483648≤k) (h1:k≤2147483647) (h2:-2147483648≤key) (h3:key≤2147483647) (h:f=zcA k key):∃ w u,za3 32 f=[zde,w,u]∧(zaH w=true∧zah w=k)∧(zaH u=true∧zah u=key) :=
 (zeg h0 h1 h2 h3).2 (by rw [h,zbZ])
theorem zgj {key:Int} (h:zbA key=true):0≤key∧key≤2147483646:=by unfold zbA inB at h;exact of_decide_eq_true h
theorem zm3 {f:List UInt8} {last:Int} {ws:List (List UInt8)} (hw:za3 32 f=ws) (h2:ws.length=2) (h0:ws.getD 0 []=zcR) (hb:zaH (ws.getD 1 [])=true) (hl0:0≤last) (hl1:last≤1000) (hv:zah (ws.getD 1 [])=last+1):f=zaX (last+1):=by
 rw [zfK]
 refine (zgV (by omega) (by omega)).1 ⟨ws.getD 1 [],?_,hb,hv⟩
 rw [hw]
 match ws,h2,h0 with
 | [a,b],_,h0=>simp at h0;rw [h0];rfl
theorem znT {ts:List Ta} {f:List UInt8} {ws:List (List UInt8)} {k key:Int} (hw:za3 32 f=ws) (h3:ws.length=3) (h0:ws.getD 0 []=zde) (hb:zaH (ws.getD 1 [])=true) (hc:zaH (ws.getD 2 [])=true) (hk:zah (ws.getD 1 [])=k) (hy:zah (ws.getD 2 [])=key)
 (hi:0≤k∧k<(ts.length:Int)) (h8:ts.length≤8) (hkey:zbA key=true) (hst:(ts.getD k.toNat ta0).2.2.1≠2) (hfr:zbj ts (ts.getD k.toNat ta0)=true):zd5 ts f k key:=by
 have hkb:=zgj hkey
 refine ⟨?_,hi,hkey,hst,hfr⟩
 rw [zbZ]
 refine (zeg (by omega) (by omega) (by omega) (by omega)).1 ⟨ws.getD 1 [],ws.getD 2 [],?_,⟨hb,hk⟩,⟨hc,hy⟩⟩
 rw [hw]
 match ws,h3,h0 with
 | [a,b,c],_,h0=>simp at h0;rw [h0];rfl
structure zev (ts:List Ta) (last:Int) (ws:List (List UInt8)):Prop where
 st:∀ w,ws=[zcR,w]→zaH w=true→zah w=last+1→False
 dn:∀ w u,ws=[zde,w,u]→zaH w=true→zaH u=true→0≤zah w∧zah w<(ts.length:Int)→zbA (zah u)=true→(ts.getD (zah w).toNat ta0).2.2.1≠2→zbj ts (ts.getD (zah w).toNat ta0)=true→False
theorem znS {ts:List Ta} {f:List UInt8} {last:Int} {ws:List (List UInt8)} (hw:za3 32 f=ws) (h8:ts.length≤8) (hl0:0≤last) (hl1:last≤1000) (h:zev ts last ws):zb1 ts last f=none:=by
 refine zgv (fun e=>?_) (fun k key hd=>?_)
 ·
  obtain ⟨w,h1,h2,h3⟩:=zn4 (by omega) (by omega) e
  exact h.st w (hw.symm.trans h1) h2 h3
 ·
  obtain ⟨h1,h2,h3,h4,h5⟩:=hd
  have hkb:=zgj h3
  obtain ⟨w,u,g1,⟨g2,g3⟩,⟨g4,g5⟩⟩:=zpB (by omega) (by omega) (by omega) (by omega) h1
  subst g3 g5
  exact h.dn w u (hw.symm.trans g1) g2 g4 h2 h3 h4 h5
theorem zk0 {ts:List Ta} {last:Int} {ws:List (List UInt8)} {i:Nat} (h1:1≤i) (hi:i<ws.length) (hb:zaH (ws.getD i [])=false):zev ts last ws:=by
 refine ⟨fun w e h _=>?_,fun w u e h h' _ _ _ _=>?_⟩
 ·
  subst e
  obtain rfl:i=1:=by simp at hi;omega
  simp at hb
  rw [h] at hb;cases hb
 ·
  subst e
  simp only [List.length_cons,List.length_nil] at hi
  obtain rfl | rfl:i=1∨i=2:=by omega
  ·
   simp at hb;rw [h] at hb;cases hb
  ·
   simp at hb;rw [h'] at hb;cases hb
theorem zjD:zcR≠zde:=by decide
theorem zeA {ts:List Ta} {last:Int} {ws:List (List UInt8)} (h0:ws.getD 0 []=zcR) (h:ws.length=2→zah (ws.getD 1 [])≠last+1):zev ts last ws:=by
 refine ⟨fun w e _ hv=>?_,fun w u e _ _ _ _ _ _=>?_⟩
 ·
  subst e
  exact h rfl hv
 ·
  subst e
  exact zjD h0.symm
theorem zf1 {ts:List Ta} {last:Int} {ws:List (List UInt8)} (h0:ws.getD 0 []=zde) (h:ws.length=3→0≤zah (ws.getD 1 [])∧zah (ws.getD 1 [])<(ts.length:Int)→zbA (zah (ws.getD 2 []))=true→(ts.getD (zah (ws.getD 1 [])).toNat ta0).2.2.1≠2→zbj ts (ts.getD (zah (ws.getD 1 [])).toNat ta0)=true→False):zev ts last ws:=by
 refine ⟨fun w e _ hv=>?_,fun w u e _ _ h2 h3 h4 h5=>?_⟩
 ·
  subst e
  exact zjD h0
 ·
  subst e
  exact h rfl h2 h3 h4 h5
theorem ziO {ts:List Ta} {last:Int} {ws:List (List UInt8)} (h0:ws.getD 0 []≠zcR) (h1:ws.getD 0 []≠zde):zev ts last ws:=by
 refine ⟨fun w e _ _=>?_,fun w u e _ _ _ _ _ _=>?_⟩
 ·
  subst e;exact h0 rfl
 ·
  subst e;exact h1 rfl
noncomputable def zcS (ws:List (List UInt8)) (m:Nat):List Int:=(List.range m).map fun j=>zah (ws.getD (j+1) [])
theorem zf0 (ws:List (List UInt8)) (m:Nat):(zcS ws m).length=m:=by simp [zcS]
theorem znm (ws:List (List UInt8)) (m:Nat):zcS ws (m+1)=zcS ws m++[zah (ws.getD (m+1) [])]:=by
 unfold zcS
 rw [List.range_succ,List.map_append]
 rfl
theorem numsW_at (ws:List (List UInt8)) {m j:Nat} (h:j<m):(zcS ws m).getD j 0=zah (ws.getD (j+1) []):=by
 unfold zcS
 rw [List.getD_eq_getElem?_getD,List.getElem?_map,List.getElem?_range h]
 rfl
theorem zlZ {t:Ta} {key:Int} (h:t.2.2.2.1=0∧t.2.2.2.2.1=0):zbR t key=(t.1,t.2.1,2,t.2.2.2.1,t.2.2.2.2.1,key):=by unfold zbR;rw [h.1,h.2]
structure zbQ (ts0 ts:List Ta):Prop where
 len:ts.length=ts0.length
 idle:∀ j,(ts.getD j ta0).2.2.2.1=0∧(ts.getD j ta0).2.2.2.2.1=0
 same:∀ j,(ts.getD j ta0).1=(ts0.getD j ta0).1∧(ts.getD j ta0).2.1=(ts0.getD j ta0).2.1
theorem zbQ.refl {ts:List Ta} (h:∀ j,(ts.getD j ta0).2.2.2.1=0∧(ts.getD j ta0).2.2.2.2.1=0):zbQ ts ts:=⟨rfl,h,fun _=>⟨rfl,rfl⟩⟩
theorem zbQ.set {ts0 ts:List Ta} (h:zbQ ts0 ts) {i:Nat} (hi:i<ts.length) (key:Int):zbQ ts0 (ts.set i (zbR (ts.getD i ta0) key)):=by
 refine ⟨by rw [List.length_set];exact h.len,fun j=>?_,fun j=>?_⟩
 ·
  rw [zci _ _ _ _ hi]
  split
  ·
   exact ⟨rfl,rfl⟩
  ·
   exact h.idle j
 ·
  rw [zci _ _ _ _ hi]
  split
  ·
   rename_i e;subst e;exact h.same _
  ·
   exact h.same j
theorem zbQ.short {ts0 ts:List Ta} (h:zbQ ts0 ts) (hs:zav ts0):zav ts:=fun j=>by
 rw [(h.same j).1,(h.same j).2];exact hs j
theorem zbQ.needs {ts0 ts:List Ta} (h:zbQ ts0 ts) (hn:∀ p,p<ts0.length→∀ q,q<(ts0.getD p ta0).2.1.length→0≤(ts0.getD p ta0).2.1.getD q 0∧(ts0.getD p ta0).2.1.getD q 0<ts0.length) :
 ∀ p,p<ts.length→∀ q,q<(ts.getD p ta0).2.1.length→0≤(ts.getD p ta0).2.1.getD q 0∧(ts.getD p ta0).2.1.getD q 0<ts.length:=fun p hp q hq=>by
 rw [(h.same p).2] at hq ⊢
 rw [h.len] at hp ⊢
 exact hn p hp q hq
structure zaT (fs:List (List UInt8)) (ts0 ts:List Ta) (last:Int) (i:Nat):Prop where
 go:zag fs ts0 0 0=zag (fs.drop i) ts last (za1 (fs.take i))
 le:i≤fs.length
 ag:zbQ ts0 ts
 l0:0≤last
 l1:last≤i
 used:za1 (fs.take i)≤116*i
theorem zaT.zero {fs:List (List UInt8)} {ts0:List Ta} (h:∀ j,(ts0.getD j ta0).2.2.2.1=0∧(ts0.getD j ta0).2.2.2.2.1=0):zaT fs ts0 ts0 0 0 :=
 ⟨by simp [za1],Nat.zero_le _,zbQ.refl h,Int.le_refl _,Int.le_refl _,by simp [za1]⟩
theorem zaT.start {fs:List (List UInt8)} {ts0 ts:List Ta} {last:Int} {i:Nat} (h:zaT fs ts0 ts last i) (hi:i<fs.length) (h4:fs.length≤400) (hf:fs.getD i []=zaX (last+1)):zaT fs ts0 ts (last+1) (i+1):=by
 have h1:=h.l0
 have h2:=h.l1
 have h3:=h.used
 have hg:fs.getD i []=fs[i]:=by simp [List.getD,hi]
 have hl:=zcL (n:=last+1) (by omega) (by omega)
 rw [←hf,hg] at hl
 refine ⟨h.go.trans (zhy hi (zd3 hf)),hi,h.ag,by omega,by omega,?_⟩
 rw [List.take_succ_eq_append_getElem hi,zbF]
 omega
theorem zaT.done {fs:List (List UInt8)} {ts0 ts:List Ta} {last k key:Int} {i:Nat} (h:zaT fs ts0 ts last i) (hi:i<fs.length) (h8:ts0.length≤8) (hd:zd5 ts (fs.getD i []) k key):zaT fs ts0 (ts.set k.toNat (zbR (ts.getD k.toNat ta0) key)) last (i+1):=by
 have h1:=h.l0
 have h2:=h.l1
 have h3:=h.used
 have hg:fs.getD i []=fs[i]:=by simp [List.getD,hi]
 obtain ⟨d1,d2,d3,_⟩:=id hd
 have hkb:=zgj d3
 have hln:=h.ag.len
 have hl:=zcY (k:=k) (key:=key) (by omega) (by omega) (by omega) (by omega)
 rw [←d1,hg] at hl
 refine ⟨h.go.trans (zhy hi (zeF (by omega) hd)),hi,h.ag.set (by omega) key,h1,by omega,?_⟩
 rw [List.take_succ_eq_append_getElem hi,zbF]
 omega
theorem zaT.no {fs:List (List UInt8)} {ts0 ts:List Ta} {last:Int} {i:Nat} (h:zaT fs ts0 ts last i) (hi:i<fs.length) (hs:zb1 ts last (fs.getD i [])=none):zag fs ts0 0 0=(ts,last,za1 (fs.take i)):=h.go.trans (znU hi hs)
theorem zaT.stop {fs:List (List UInt8)} {ts0 ts:List Ta} {last:Int} {i:Nat} (h:zaT fs ts0 ts last i) (hi:fs.length≤i):zag fs ts0 0 0=(ts,last,za1 (fs.take i)):=h.go.trans (zm4 hi)
def zaz (fs:List (List UInt8)) (i:Nat):List UInt8:=((fs.take i).map zaj).flatten
theorem zjt (fs:List (List UInt8)):zaz fs 0=[]:=by simp [zaz]
theorem zju {fs:List (List UInt8)} {i:Nat} (hi:i<fs.length):zaz fs (i+1)=zaz fs i++zaj (fs.getD i []):=by
 have hg:fs.getD i []=fs[i]:=by simp [List.getD,hi]
 unfold zaz
 rw [List.take_succ_eq_append_getElem hi,hg,List.map_append,List.flatten_append,List.map_cons,List.map_nil,List.flatten_cons,List.flatten_nil,List.append_nil]
theorem zkT (fs:List (List UInt8)) (i:Nat):(zaz fs i).length=za1 (fs.take i):=by
 unfold zaz
 generalize fs.take i=l
 induction l with
 | nil=>rfl
 | cons a r ih =>
  rw [List.map_cons,List.flatten_cons,List.length_append,ih,zaW,za1]
theorem zgp (jr:List UInt8) (i:Nat):jr.take (za1 ((za2 jr).take i))=zaz (za2 jr) i:=zif jr i
end
theorem zeE (ps:List Pk):(newV ps).1.1=(List.range (prtV ps).length).map (zcf ps):=by
 by_cases h0:(zaY ps).1=0
 ·
  rw [show newV ps=((zaP ps,1,0,zaB 1),true) from if_pos h0,show prtV ps=zae ps from (zeH h0).1]
  rfl
 ·
  rw [show newV ps=(dk0,false) from if_neg h0,show prtV ps=[] from if_neg h0]
  rfl
theorem zn1 {ps:List Pk} {i:Nat} (hi:i<(prtV ps).length):∃ j,j<ps.length∧at8 ps ((prtV ps).getD i [])=(j:Int)∧zcf ps i=((prtV ps).getD i [],zaR (prtV ps) (ps.getD j pk0).2.1 (prtV ps).length,0,0,0,0):=by
 by_cases h0:(zaY ps).1=0
 ·
  have hv:prtV ps=zae ps:=(zeH h0).1
  rw [hv] at hi ⊢
  have C:=zds h0
  obtain ⟨j,hj,e,ht⟩:=zjy C hi
  refine ⟨j,hj,e,?_⟩
  have hp:pkOf ps ((zae ps).getD i [])=ps.getD j pk0:=by unfold pkOf;rw [e,Int.toNat_natCast]
  have:=znn C hi
  rw [hp] at this
  rw [ht,this]
 ·
  rw [show prtV ps=[] from if_neg h0] at hi
  simp at hi
theorem zgG {w:World} {base e size n c:Nat} {a:Option Addr} {xs:List Value} (h:w.ownsRow base e size (.slice a n c) n xs):n≤c:=by
 rcases h.2 with ⟨h',h0,_⟩ | ⟨g,cp,cur,h',_,_,hnc,_⟩
 ·
  omega
 ·
  injection h' with _ _ h3
  omega
theorem zdE (ps:List Pk):zav (newV ps).1.1:=by
 by_cases h0:(zaY ps).1=0
 ·
  rw [show newV ps=((zaP ps,1,0,zaB 1),true) from if_pos h0]
  have hd:=zau.1 (zms h0)
  intro j
  show ((zaP ps).getD j ta0).1.length≤1048576∧((zaP ps).getD j ta0).2.1.length≤1048576
  by_cases hj:j<(zaP ps).length
  ·
   have h1:=(zcr (hd.one j hj).1).1.2
   have hl:(zaP ps).length=(zae ps).length:=by unfold zaP;simp
   have h8:=(zdz (zds h0)).2
   refine ⟨Nat.le_trans h1 (by decide),?_⟩
   rw [zfm (by omega)]
   exact Nat.le_trans (zi0 _ _ _) (by omega)
  ·
   rw [List.getD_eq_getElem?_getD,List.getElem?_eq_none (by omega)]
   simp [ta0]
 ·
  rw [show newV ps=(dk0,false) from if_neg h0]
  intro j
  simp [dk0,ta0]
theorem zef (ps:List Pk):zay ((newV ps).1.1,1,0,zaB 1)=(newV ps).2:=by
 by_cases h0:(zaY ps).1=0
 ·
  rw [show newV ps=((zaP ps,1,0,zaB 1),true) from if_pos h0]
  exact zms h0
 ·
  rw [show newV ps=(dk0,false) from if_neg h0]
  rcases hb:zay (dk0.1,1,0,zaB 1) with _ | _
  ·
   rfl
  ·
   have:=(zau.1 hb).n.1
   simp [dk0] at this
theorem zgO {ps:List Pk} (h:(newV ps).2=true):(newV ps).1=((newV ps).1.1,1,0,zaB 1):=by
 by_cases h0:(zaY ps).1=0
 ·
  rw [show newV ps=((zaP ps,1,0,zaB 1),true) from if_pos h0]
 ·
  rw [show newV ps=(dk0,false) from if_neg h0] at h
  cases h
theorem zf6 {ps:List Pk} (h:(newV ps).2=false):(newV ps).1=dk0:=by
 by_cases h0:(zaY ps).1=0
 ·
  rw [show newV ps=((zaP ps,1,0,zaB 1),true) from if_pos h0] at h
  cases h
 ·
  rw [show newV ps=(dk0,false) from if_neg h0]
def tmk (k:Nat) (x:TV):TV:=((zoS k,marksI (k+1) x.1.2.1.length,((k+1+x.1.2.1.length:Nat):Int),((k+2+x.1.2.1.length:Nat):Int),((k+3+x.1.2.1.length:Nat):Int),((k+4+x.1.2.1.length:Nat):Int)),x.2)
def tmark (k:Nat):List TV→List TV
 | []=>[]
 | x :: r=>tmk k x :: tmark (k+5+x.1.2.1.length) r
def tend (k:Nat):List TV→Nat
 | []=>k
 | x :: r=>tend (k+5+x.1.2.1.length) r
def thalf (k:Nat) (xs:List TV) (m:Nat):List TV:=tmark k (xs.take m)++xs.drop m
def zai (v:Value) (xs:List TV) (k:Nat):Prop:=v.ownBlock=some k∨∃ x∈xs,(tvT x).ownBlock=some k

end Go.Proofs.YtdbljnddkbpanaaGreatDoor
