/-
  Parts of one proof, one behind the other: NewS2, Math18C, Math18D, NewP, TkM, TkM2.
-/
import Derived.Test.YtponeoijfaepnaaGreatDoorP13
namespace Go.Proofs.YtponeoijfaepnaaGreatDoor
open Go.RowKit
set_option maxHeartbeats 4000000
set_option maxRecDepth 100000
theorem zfu {n:Int} (h0:-9223372036854775808≤n) (h1:n≤9223372036854775807):(intL n).length≤21:=by
 have h:=zeb 19 n.natAbs (by omega);unfold intL
 split
 ·simp only [List.length_cons];omega
 ·omega
def zbC (n:Int):List UInt8:=115 :: 116 :: 97 :: 114 :: 116 :: 32 :: intL n
theorem zda {n:Int} (h0:-9223372036854775808≤n) (h1:n≤9223372036854775807):(zbC n).length≤27:=by
 have:=zfu h0 h1;unfold zbC;simp only [List.length_cons];omega
theorem zeG {n:Int} (h0:-9223372036854775808≤n) (h1:n≤9223372036854775807):zaV n=zbH (zbC n):=by
 have:=zda h0 h1;exact zcd (zbC n) (by omega)
theorem zgn (n:Int) (w:World) (h0:-9223372036854775808≤n) (h1:n≤9223372036854775807) :
 Calls Tryz.prog 51 #[.int .i64 n] w fun e w'=>e=.returned (.string ⟨(zaV n).toArray⟩)∧Below w.heap.size w w':=by
 have HI:Hid (_):=zkp n w h0 h1;have HF:Hid (∀ Z,_):=fun Z=>zfH (zbC n) Z (by have:=zda h0 h1;omega)
 have HT:Hid (zbC n=115 :: 116 :: 97 :: 114 :: 116 :: 32 :: intL n):=rfl;rw [zeG h0 h1];generalize zbH (zbC n)=r at HF ⊢;rw [HT.out] at HF;have hcat:=zc7;have hi:=zfu h0 h1;have hd6:(⟨#[115,116,97,114,116,32]⟩:ByteArray)=⟨([115,116,97,114,116,32]:List UInt8).toArray⟩:=rfl;clear HT
 go_enter Tryz.func51,Tryz.ntmps51
 go_wp2_with fail
 refine Calls.mono HI.out ?_;rintro e w1 ⟨rfl,hb1⟩;have HB1:Hid (Below w.heap.size w w1):=hb1;clear hb1;go_wp2_with fail
 refine Calls.mono (HF.out _) ?_;rintro e w2 ⟨rfl,hb2⟩;have HB2:Hid (Below w.heap.size w w2):=HB1.out.trans (hb2.mono HB1.out.size);clear hb2;go_wp2;go_ret;exact ⟨rfl,HB2.out⟩
theorem zel (a:Option Addr) (len cap:Nat) (ps:List Pk) (w:World) (hin:zav w a len ps) (hlen:len≤1048576) (hsh:zby ps) :
 Calls Tryz.prog 21 #[.slice a len cap] w fun e w'=>∃ v,e=.returned (.tuple #[v,.bool (newV ps).2])∧zbQ w w' v (newV ps).1:=by
 obtain ⟨D,hD⟩:∃ D,w.heap.size=D:=⟨_,rfl⟩
 obtain ⟨W1,hW1⟩:∃ W,w.alloc (.cells #[.slice none 0 0,.int .i64 0,.int .i64 0,.string ⟨#[]⟩] 26)=W:=⟨_,rfl⟩
 have hs1:W1.heap.size=D+1:=by rw [←hW1,←hD];simp
 have hb1:Below D w W1:=by rw [←hW1,←hD];exact (Below.refl _ _).alloc (Nat.le_refl _) _
 have bR:=B4.new w (.slice none 0 0) (.int .i64 0) (.int .i64 0) (.string ⟨#[]⟩) 26;rw [hW1,hD] at bR
 have HD:Hid (∀ Z,Below W1.heap.size W1 Z→B4 Z D (.slice none 0 0) (.int .i64 0) (.int .i64 0) (.string ⟨#[]⟩)∧zav Z a len ps∧Below D w Z):=fun Z hz =>
  ⟨bR.below hz,(hin.below (by rw [hD];exact hb1)).below hz,hb1.trans (hz.mono (by omega))⟩
 have HP:Hid (_):=specPrt a len cap ps W1 (HD.out W1 (Below.refl _ _)).2.1 hlen hsh;clear hin bR hb1;by_cases h0:(zaS ps).1=0
 ·
  have hV:newV ps=((zaL ps,1,0,zaV 1),true):=if_pos h0;have hpv:prtV ps=zaj ps:=(zeo h0).1;have HL:Hid ((zaL ps).length=(zaj ps).length):=by exact (by unfold zaL;simp:(zaL ps).length=(zaj ps).length)
  have hpl:=(zds (zdl h0)).1;have HT:Hid (∀ Z,zav Z a len ps→_):=fun Z hz=>zkn a len cap ps Z hz hlen hsh h0
  have HS:Hid (∀ Z,_):=fun Z=>zgn 1 Z (by omega) (by omega)
  rw [hV];rw [hpv] at HP;generalize zaL ps=ts at HL HT ⊢;generalize zaV 1=sl at HS ⊢;generalize zaj ps=os at HP HL hpl;obtain ⟨n,hn⟩:∃ n,os.length=n:=⟨_,rfl⟩
  rw [hn] at HP hpl;have hn0:¬n=0:=by omega
  have hn1:¬(n:Int)=0:=by omega
  have hn2:((n:Int)==0)=false:=beq_eq_false_iff_ne.2 hn1;clear hV hpv h0 hn HL hsh
  go_enter Tryz.func21,Tryz.ntmps21
  go_wp2_with fail
  refine Calls.mono HP.out ?_;rintro e w2 ⟨v2,rfl,ho2,hb2⟩;obtain ⟨a2,c2,rfl⟩:=zb4 ho2;have HB2:Hid (Below W1.heap.size W1 w2):=hb2;have HT2:Hid (_):=HT.out w2 (HD.out w2 hb2).2.1;clear ho2 hb2 HP HT;go_wp2_with fail
  refine Calls.mono HT2.out ?_;rintro e w3 ⟨v3,xs,rfl,hx,ho3,hap,hb3⟩;have hxl:xs.length=ts.length:=by rw [←hx,List.length_map]
  obtain ⟨va,vc,rfl⟩:=zb4 ho3.row;rw [hxl] at ho3;have HB3:Hid (Below W1.heap.size W1 w3):=HB2.out.trans (hb3.mono HB2.out.size);have HO3:Hid (za2 w3 w2.heap.size (.slice va ts.length vc) xs∧xs.map (·.1)=ts∧zai (xs.map tvT)):=⟨ho3,hx,hap⟩;rw [hxl];clear ho3 hx hap hb3 HT2 hxl;go_wp2_with fail
  refine Calls.mono (HS.out _) ?_;rintro e w4 ⟨rfl,hb4⟩;have HB4:Hid (Below W1.heap.size W1 w4):=HB3.out.trans (hb4.mono HB3.out.size);have HO4:Hid (za2 w4 w2.heap.size (.slice va ts.length vc) xs):=HO3.out.1.below hb4;obtain ⟨br,_,hbD⟩:=HD.out w4 HB4.out;have r0:=br.c0;have r1:=br.c1;have r2:=br.c2;have r3:=br.c3;have f0:=br.fr 0;have f1:=br.fr 1;have f2:=br.fr 2;have f3:=br.fr 3;have HBD:Hid (Below D w w4):=hbD;clear hbD br hb4;have hw2:D+1≤w2.heap.size:=by have:=HB2.out.size;omega
  go_wp2;obtain ⟨X,hX,y0,y1,y2,y3,hg⟩:=set4 (.slice va ts.length vc) (.int .i64 1) (.int .i64 0) (.string ⟨sl.toArray⟩) r0 r1 r2 r3;rw [hX];refine bodyPost_ret (v:=.tuple #[.agg #[.slice va ts.length vc,.int .i64 1,.int .i64 0,.string ⟨sl.toArray⟩],.bool true]) (by simp [results,Tryz.results21,go_sem,y0,y1,y2,y3]) rfl ?_;have hk:=HO4.out.kept hg (za8 HO4.out.row (by omega)) (fun y hy=>za8 (HO4.out.trees y hy) (by omega));exact ⟨_,rfl,va,vc,xs,rfl,HO3.out.2.1,hk.base (by omega),HO3.out.2.2,by rw [hD];exact HBD.out.grown hg (by have:=HBD.out.size;omega) (fun k e=>by injection e with e;omega)⟩
 ·
  have hV:newV ps=(dk0,false):=if_neg h0;have hpv:prtV ps=[]:=if_neg h0;rw [hV];rw [hpv] at HP;clear hV hpv h0 hsh
  go_enter Tryz.func21,Tryz.ntmps21
  go_wp2_with fail
  refine Calls.mono HP.out ?_;rintro e w2 ⟨v2,rfl,ho2,hb2⟩;obtain ⟨a2,c2,rfl⟩:=zb4 ho2;obtain ⟨br,_,hbD⟩:=HD.out w2 hb2;have r0:=br.c0;have r1:=br.c1;have r2:=br.c2;have r3:=br.c3;have f0:=br.fr 0;have f1:=br.fr 1;have f2:=br.fr 2;have f3:=br.fr 3;have HBD:Hid (Below D w w2):=hbD;clear ho2 hb2 hbD br HP;go_wp2;obtain ⟨X,hX,y0,y1,y2,y3,hg⟩:=set4 (.slice none 0 0) (.int .i64 0) (.int .i64 0) (.string ⟨#[]⟩) r0 r1 r2 r3;rw [hX];refine bodyPost_ret (v:=.tuple #[.agg #[.slice none 0 0,.int .i64 0,.int .i64 0,.string ⟨#[]⟩],.bool false]) (by simp [results,Tryz.results21,go_sem,y0,y1,y2,y3]) rfl ?_;exact ⟨_,rfl,zbQ.zero (by rw [hD];exact HBD.out.grown hg (by have:=HBD.out.size;omega) (fun k e=>by injection e with e;omega))⟩
section
def zeO (ts:List Ta) (f:List UInt8) (k key:Int):Prop :=
 f=zd8 k key∧(0≤k∧k<(ts.length:Int))∧zbi key=true∧(ts.getD k.toNat ta0).2.2.1≠2∧zbn ts (ts.getD k.toNat ta0)=true
instance (ts:List Ta) (f:List UInt8) (k key:Int):Decidable (zeO ts f k key):=by unfold zeO;infer_instance
noncomputable def zjq (f:List UInt8) (i:Nat):Int:=zaC ((zaq 32 f).getD i [])
noncomputable def zbz (ts:List Ta) (last:Int) (f:List UInt8):Option (List Ta × Int) :=
 if f=zbC (last+1) then some (ts,last+1)
 else if zeO ts f (zjq f 1) (zjq f 2) then some (ts.set (zjq f 1).toNat (zbo (ts.getD (zjq f 1).toNat ta0) (zjq f 2)),last)
 else none
theorem zdA (k key:Int):zd8 k key=zeh++32 :: (intL k++32 :: intL key):=by unfold zd8 zeh;simp
theorem zfG (n:Int):zbC n=zcJ++32 :: intL n:=by unfold zbC zcJ;simp
theorem zkD {ts:List Ta} {f:List UInt8} {k key:Int} (hl:ts.length≤8) (h:zeO ts f k key):zjq f 1=k∧zjq f 2=key:=by
 obtain ⟨h1,h2,h3,_⟩:=h;have hk:0≤key∧key≤2147483646:=by unfold zbi inB at h3;exact of_decide_eq_true h3
 obtain ⟨w,u,hs,⟨_,hv⟩,⟨_,hu⟩⟩:=(zft (f:=f) (k:=k) (key:=key) (by omega) (by omega) (by omega) (by omega)).2 (by rw [h1,zdA]);unfold zjq;rw [hs];exact ⟨hv,hu⟩
theorem zhe {n k key:Int}:zbC n≠zd8 k key:=by
 rw [zdA];unfold zbC zeh;intro e;simp at e
theorem zfF {ts:List Ta} {last:Int} {f:List UInt8} (h:f=zbC (last+1)):zbz ts last f=some (ts,last+1):=if_pos h
theorem zgm {ts:List Ta} {last k key:Int} {f:List UInt8} (hl:ts.length≤8) (h:zeO ts f k key):zbz ts last f=some (ts.set k.toNat (zbo (ts.getD k.toNat ta0) key),last):=by
 obtain ⟨e1,e2⟩:=zkD hl h;unfold zbz;rw [if_neg (by rw [h.1];exact fun e=>zhe e.symm),e1,e2,if_pos h]
theorem zkl {ts:List Ta} {last:Int} {f:List UInt8} (h1:f≠zbC (last+1)) (h2:∀ k key,¬zeO ts f k key):zbz ts last f=none:=by
 unfold zbz;rw [if_neg h1,if_neg (h2 _ _)]
noncomputable def zaW:List (List UInt8)→List Ta→Int→Nat→List Ta × Int × Nat
 | [],ts,last,u=>(ts,last,u)
 | f :: r,ts,last,u =>
  match zbz ts last f with
  | some p=>zaW r p.1 p.2 (u+(16+f.length))
  | none=>(ts,last,u)
theorem zlu {fs:List (List UInt8)} {ts:List Ta} {last:Int} {u i:Nat} (hi:fs.length≤i):zaW (fs.drop i) ts last u=(ts,last,u):=by
 rw [List.drop_of_length_le hi];rfl
theorem zhd {fs:List (List UInt8)} {ts ts':List Ta} {last last':Int} {i:Nat} (hi:i<fs.length) (h:zbz ts last (fs.getD i [])=some (ts',last')) :
 zaW (fs.drop i) ts last (za3 (fs.take i))=zaW (fs.drop (i+1)) ts' last' (za3 (fs.take (i+1))):=by
 have hg:fs.getD i []=fs[i]:=by simp [List.getD,hi]
 rw [hg] at h;rw [List.drop_eq_getElem_cons hi,zaW,h,List.take_succ_eq_append_getElem hi,zbY]
theorem zns {fs:List (List UInt8)} {ts:List Ta} {last:Int} {u i:Nat} (hi:i<fs.length) (h:zbz ts last (fs.getD i [])=none):zaW (fs.drop i) ts last u=(ts,last,u):=by
 have hg:fs.getD i []=fs[i]:=by simp [List.getD,hi]
 rw [hg] at h;rw [List.drop_eq_getElem_cons hi,zaW,h]
noncomputable def rebD (ps:List Pk) (jr:List UInt8):Dk :=
 let r:=zaW (zaa jr) (newV ps).1.1 0 0
 (r.1,r.2.1+1,0,jr.take r.2.2++zaV (r.2.1+1))
noncomputable def rebV (ps:List Pk) (jr:List UInt8):Dk × Bool:=if (newV ps).2=true∧zac (rebD ps jr)=true then (rebD ps jr,true) else (dk0,false)
theorem zmu {ts ts':List Ta} {last last':Int} {f:List UInt8} (h:zbz ts last f=some (ts',last')):ts'.length=ts.length∧last≤last'∧last'≤last+1:=by
 unfold zbz at h
 split at h
 ·injection h with h;injection h with h1 h2;subst h1;subst h2;exact ⟨rfl,by omega,by omega⟩
 ·
  split at h
  ·injection h with h;injection h with h1 h2;subst h1;subst h2;exact ⟨by simp,by omega,by omega⟩
  ·cases h
theorem zeB:∀ (fs:List (List UInt8)) (ts:List Ta) (last:Int) (u:Nat),(zaW fs ts last u).1.length=ts.length∧last≤(zaW fs ts last u).2.1∧(zaW fs ts last u).2.1≤last+fs.length
 | [],ts,last,u=>by simp [zaW]
 | f :: r,ts,last,u=>by
  rcases hs:zbz ts last f with _ | ⟨ts',l'⟩
  ·rw [zaW,hs];refine ⟨rfl,Int.le_refl _,by simp only [List.length_cons];omega⟩
  ·
   have e:zaW (f :: r) ts last u=zaW r ts' l' (u+(16+f.length)):=by rw [zaW,hs]
   rw [e];obtain ⟨h1,h2,h3⟩:=zmu hs;obtain ⟨g1,g2,g3⟩:=zeB r ts' l' (u+(16+f.length));exact ⟨g1.trans h1,by omega,by simp only [List.length_cons];omega⟩
end
section
theorem zmy (c:UInt8) (l:List UInt8):1≤(zaq c l).length:=by
 have:∀ (l acc:List UInt8),1≤(zas c acc l).length:=by
  intro l
  induction l with
  | nil=>intro acc;simp [zas]
  | cons a r ih =>
   intro acc;unfold zas
   split
   ·simp
   ·exact ih _
 exact this l []
theorem zkm (c:UInt8) (l:List UInt8) (i:Nat):((zaq c l).getD i []).length≤l.length:=by
 by_cases hi:i<(zaq c l).length
 ·
  have hg:(zaq c l).getD i []=(zaq c l)[i]:=by simp [List.getD,hi]
  rw [hg]
  have h1:((zaq c l)[i]).length≤(zaq c l).flatten.length:=by
   have hm:=List.getElem_mem hi;generalize (zaq c l)[i]=x at hm ⊢;generalize zaq c l=ws at hm ⊢;clear hi hg
   induction ws with
   | nil=>cases hm
   | cons a r ih =>
    rw [List.flatten_cons,List.length_append];rcases List.mem_cons.1 hm with e | h
    ·subst e;omega
    ·have:=ih h;omega
  have h2:=zj4 c l [];have h3:(zaq c l).flatten.length≤l.length:=by simpa [zaq] using h2
  omega
 ·rw [List.getD_eq_getElem?_getD,List.getElem?_eq_none (by omega)];simp
theorem zj3 (c:UInt8) (l:List UInt8):(zaq c l).length≤l.length+1:=by
 have:∀ (l acc:List UInt8),(zas c acc l).length≤l.length+1:=by
  intro l
  induction l with
  | nil=>intro acc;simp [zas]
  | cons a r ih =>
   intro acc;unfold zas
   split
   ·have:=ih [];simp only [List.length_cons];omega
   ·
    have:=ih (acc++[a]);simp only [List.length_cons]
    first | omega | exact Nat.le_succ_of_le (ih _)
 exact this l []
theorem zmv {f:List UInt8} {n:Int} (h0:-2147483648≤n) (h1:n≤2147483647) (h:f=zbC n):∃ w,zaq 32 f=[zcJ,w]∧zaX w=true∧zaC w=n :=
 (zgH h0 h1).2 (by rw [h,zfG])
theorem zp7 {f:List UInt8} {k key:Int} (h0:-2147483648≤k) (h1:k≤2147483647) (h2:-2147483648≤key) (h3:key≤2147483647) (h:f=zd8 k key):∃ w u,zaq 32 f=[zeh,w,u]∧(zaX w=true∧zaC w=k)∧(zaX u=true∧zaC u=key) :=
 (zft h0 h1 h2 h3).2 (by rw [h,zdA])
theorem zir {key:Int} (h:zbi key=true):0≤key∧key≤2147483646:=by unfold zbi inB at h;exact of_decide_eq_true h
theorem zlt {f:List UInt8} {last:Int} {ws:List (List UInt8)} (hw:zaq 32 f=ws) (h2:ws.length=2) (h0:ws.getD 0 []=zcJ) (hb:zaX (ws.getD 1 [])=true) (hl0:0≤last) (hl1:last≤1000) (hv:zaC (ws.getD 1 [])=last+1):f=zbC (last+1):=by
 rw [zfG];refine (zgH (by omega) (by omega)).1 ⟨ws.getD 1 [],?_,hb,hv⟩;rw [hw]
 match ws,h2,h0 with
 | [a,b],_,h0=>simp at h0;rw [h0];rfl
theorem znr {ts:List Ta} {f:List UInt8} {ws:List (List UInt8)} {k key:Int} (hw:zaq 32 f=ws) (h3:ws.length=3) (h0:ws.getD 0 []=zeh) (hb:zaX (ws.getD 1 [])=true) (hc:zaX (ws.getD 2 [])=true) (hk:zaC (ws.getD 1 [])=k) (hy:zaC (ws.getD 2 [])=key)
 (hi:0≤k∧k<(ts.length:Int)) (h8:ts.length≤8) (hkey:zbi key=true) (hst:(ts.getD k.toNat ta0).2.2.1≠2) (hfr:zbn ts (ts.getD k.toNat ta0)=true):zeO ts f k key:=by
 have hkb:=zir hkey;refine ⟨?_,hi,hkey,hst,hfr⟩;rw [zdA];refine (zft (by omega) (by omega) (by omega) (by omega)).1 ⟨ws.getD 1 [],ws.getD 2 [],?_,⟨hb,hk⟩,⟨hc,hy⟩⟩;rw [hw]
 match ws,h3,h0 with
 | [a,b,c],_,h0=>simp at h0;rw [h0];rfl
structure zef (ts:List Ta) (last:Int) (ws:List (List UInt8)):Prop where
 st:∀ w,ws=[zcJ,w]→zaX w=true→zaC w=last+1→False
 dn:∀ w u,ws=[zeh,w,u]→zaX w=true→zaX u=true→0≤zaC w∧zaC w<(ts.length:Int)→zbi (zaC u)=true→(ts.getD (zaC w).toNat ta0).2.2.1≠2→zbn ts (ts.getD (zaC w).toNat ta0)=true→False
theorem znq {ts:List Ta} {f:List UInt8} {last:Int} {ws:List (List UInt8)} (hw:zaq 32 f=ws) (h8:ts.length≤8) (hl0:0≤last) (hl1:last≤1000) (h:zef ts last ws):zbz ts last f=none:=by
 refine zkl (fun e=>?_) (fun k key hd=>?_)
 ·obtain ⟨w,h1,h2,h3⟩:=zmv (by omega) (by omega) e;exact h.st w (hw.symm.trans h1) h2 h3
 ·obtain ⟨h1,h2,h3,h4,h5⟩:=hd;have hkb:=zir h3;obtain ⟨w,u,g1,⟨g2,g3⟩,⟨g4,g5⟩⟩:=zp7 (by omega) (by omega) (by omega) (by omega) h1;subst g3 g5;exact h.dn w u (hw.symm.trans g1) g2 g4 h2 h3 h4 h5
theorem zjs {ts:List Ta} {last:Int} {ws:List (List UInt8)} {i:Nat} (h1:1≤i) (hi:i<ws.length) (hb:zaX (ws.getD i [])=false):zef ts last ws:=by
 refine ⟨fun w e h _=>?_,fun w u e h h' _ _ _ _=>?_⟩
 ·
  subst e;obtain rfl:i=1:=by simp at hi;omega
  simp at hb;rw [h] at hb;cases hb
 ·
  subst e;simp only [List.length_cons,List.length_nil] at hi;obtain rfl | rfl:i=1∨i=2:=by omega
  ·simp at hb;rw [h] at hb;cases hb
  ·simp at hb;rw [h'] at hb;cases hb
theorem zj2:zcJ≠zeh:=by decide
theorem zei {ts:List Ta} {last:Int} {ws:List (List UInt8)} (h0:ws.getD 0 []=zcJ) (h:ws.length=2→zaC (ws.getD 1 [])≠last+1):zef ts last ws:=by
 refine ⟨fun w e _ hv=>?_,fun w u e _ _ _ _ _ _=>?_⟩
 ·subst e;exact h rfl hv
 ·subst e;exact zj2 h0.symm
theorem zeQ {ts:List Ta} {last:Int} {ws:List (List UInt8)} (h0:ws.getD 0 []=zeh) (h:ws.length=3→0≤zaC (ws.getD 1 [])∧zaC (ws.getD 1 [])<(ts.length:Int)→zbi (zaC (ws.getD 2 []))=true→(ts.getD (zaC (ws.getD 1 [])).toNat ta0).2.2.1≠2→zbn ts (ts.getD (zaC (ws.getD 1 [])).toNat ta0)=true→False):zef ts last ws:=by
 refine ⟨fun w e _ hv=>?_,fun w u e _ _ h2 h3 h4 h5=>?_⟩
 ·subst e;exact zj2 h0
 ·subst e;exact h rfl h2 h3 h4 h5
theorem zik {ts:List Ta} {last:Int} {ws:List (List UInt8)} (h0:ws.getD 0 []≠zcJ) (h1:ws.getD 0 []≠zeh):zef ts last ws:=by
 refine ⟨fun w e _ _=>?_,fun w u e _ _ _ _ _ _=>?_⟩
 ·subst e;exact h0 rfl
 ·subst e;exact h1 rfl
noncomputable def zcK (ws:List (List UInt8)) (m:Nat):List Int:=(List.range m).map fun j=>zaC (ws.getD (j+1) [])
theorem zeP (ws:List (List UInt8)) (m:Nat):(zcK ws m).length=m:=by simp [zcK]
theorem zmR (ws:List (List UInt8)) (m:Nat):zcK ws (m+1)=zcK ws m++[zaC (ws.getD (m+1) [])]:=by
 unfold zcK;rw [List.range_succ,List.map_append]
 rfl
theorem numsW_at (ws:List (List UInt8)) {m j:Nat} (h:j<m):(zcK ws m).getD j 0=zaC (ws.getD (j+1) []):=by
 unfold zcK;rw [List.getD_eq_getElem?_getD,List.getElem?_map,List.getElem?_range h]
 rfl
theorem zlp {t:Ta} {key:Int} (h:t.2.2.2.1=0∧t.2.2.2.2.1=0):zbo t key=(t.1,t.2.1,2,t.2.2.2.1,t.2.2.2.2.1,key):=by unfold zbo;rw [h.1,h.2]
structure zcU (ts0 ts:List Ta):Prop where
 len:ts.length=ts0.length
 idle:∀ j,(ts.getD j ta0).2.2.2.1=0∧(ts.getD j ta0).2.2.2.2.1=0
 same:∀ j,(ts.getD j ta0).1=(ts0.getD j ta0).1∧(ts.getD j ta0).2.1=(ts0.getD j ta0).2.1
theorem zcU.refl {ts:List Ta} (h:∀ j,(ts.getD j ta0).2.2.2.1=0∧(ts.getD j ta0).2.2.2.2.1=0):zcU ts ts:=⟨rfl,h,fun _=>⟨rfl,rfl⟩⟩
theorem zcU.set {ts0 ts:List Ta} (h:zcU ts0 ts) {i:Nat} (hi:i<ts.length) (key:Int):zcU ts0 (ts.set i (zbo (ts.getD i ta0) key)):=by
 refine ⟨by rw [List.length_set];exact h.len,fun j=>?_,fun j=>?_⟩
 ·
  rw [zbM _ _ _ _ hi]
  split
  ·exact ⟨rfl,rfl⟩
  ·exact h.idle j
 ·
  rw [zbM _ _ _ _ hi]
  split
  ·rename_i e;subst e;exact h.same _
  ·exact h.same j
theorem zcU.short {ts0 ts:List Ta} (h:zcU ts0 ts) (hs:za1 ts0):za1 ts:=fun j=>by
 rw [(h.same j).1,(h.same j).2];exact hs j
theorem zcU.needs {ts0 ts:List Ta} (h:zcU ts0 ts) (hn:∀ p,p<ts0.length→∀ q,q<(ts0.getD p ta0).2.1.length→0≤(ts0.getD p ta0).2.1.getD q 0∧(ts0.getD p ta0).2.1.getD q 0<ts0.length) :
 ∀ p,p<ts.length→∀ q,q<(ts.getD p ta0).2.1.length→0≤(ts.getD p ta0).2.1.getD q 0∧(ts.getD p ta0).2.1.getD q 0<ts.length:=fun p hp q hq=>by
 rw [(h.same p).2] at hq ⊢;rw [h.len] at hp ⊢;exact hn p hp q hq
structure zb9 (fs:List (List UInt8)) (ts0 ts:List Ta) (last:Int) (i:Nat):Prop where
 go:zaW fs ts0 0 0=zaW (fs.drop i) ts last (za3 (fs.take i))
 le:i≤fs.length
 ag:zcU ts0 ts
 l0:0≤last
 l1:last≤i
 used:za3 (fs.take i)≤116*i
theorem zb9.zero {fs:List (List UInt8)} {ts0:List Ta} (h:∀ j,(ts0.getD j ta0).2.2.2.1=0∧(ts0.getD j ta0).2.2.2.2.1=0):zb9 fs ts0 ts0 0 0 :=
 ⟨by simp [za3],Nat.zero_le _,zcU.refl h,Int.le_refl _,Int.le_refl _,by simp [za3]⟩
theorem zb9.start {fs:List (List UInt8)} {ts0 ts:List Ta} {last:Int} {i:Nat} (h:zb9 fs ts0 ts last i) (hi:i<fs.length) (h4:fs.length≤400) (hf:fs.getD i []=zbC (last+1)):zb9 fs ts0 ts (last+1) (i+1):=by
 have h1:=h.l0;have h2:=h.l1;have h3:=h.used;have hg:fs.getD i []=fs[i]:=by simp [List.getD,hi]
 have hl:=zda (n:=last+1) (by omega) (by omega);rw [←hf,hg] at hl;refine ⟨h.go.trans (zhd hi (zfF hf)),hi,h.ag,by omega,by omega,?_⟩;rw [List.take_succ_eq_append_getElem hi,zbY];omega
theorem zb9.done {fs:List (List UInt8)} {ts0 ts:List Ta} {last k key:Int} {i:Nat} (h:zb9 fs ts0 ts last i) (hi:i<fs.length) (h8:ts0.length≤8) (hd:zeO ts (fs.getD i []) k key):zb9 fs ts0 (ts.set k.toNat (zbo (ts.getD k.toNat ta0) key)) last (i+1):=by
 have h1:=h.l0;have h2:=h.l1;have h3:=h.used;have hg:fs.getD i []=fs[i]:=by simp [List.getD,hi]
 obtain ⟨d1,d2,d3,_⟩:=id hd;have hkb:=zir d3;have hln:=h.ag.len;have hl:=zcR (k:=k) (key:=key) (by omega) (by omega) (by omega) (by omega);rw [←d1,hg] at hl;refine ⟨h.go.trans (zhd hi (zgm (by omega) hd)),hi,h.ag.set (by omega) key,h1,by omega,?_⟩;rw [List.take_succ_eq_append_getElem hi,zbY];omega
theorem zb9.no {fs:List (List UInt8)} {ts0 ts:List Ta} {last:Int} {i:Nat} (h:zb9 fs ts0 ts last i) (hi:i<fs.length) (hs:zbz ts last (fs.getD i [])=none):zaW fs ts0 0 0=(ts,last,za3 (fs.take i)):=h.go.trans (zns hi hs)
theorem zb9.stop {fs:List (List UInt8)} {ts0 ts:List Ta} {last:Int} {i:Nat} (h:zb9 fs ts0 ts last i) (hi:fs.length≤i):zaW fs ts0 0 0=(ts,last,za3 (fs.take i)):=h.go.trans (zlu hi)
def zd2 (fs:List (List UInt8)) (i:Nat):List UInt8:=((fs.take i).map zbH).flatten
theorem zgh (jr:List UInt8) (i:Nat):jr.take (za3 ((zaa jr).take i))=zd2 (zaa jr) i:=zng jr i
end
theorem zek (ps:List Pk):(newV ps).1.1=(List.range (prtV ps).length).map (zcH ps):=by
 by_cases h0:(zaS ps).1=0
 ·
  rw [show newV ps=((zaL ps,1,0,zaV 1),true) from if_pos h0,show prtV ps=zaj ps from (zeo h0).1]
  rfl
 ·
  rw [show newV ps=(dk0,false) from if_neg h0,show prtV ps=[] from if_neg h0]
  rfl
theorem zms {ps:List Pk} {i:Nat} (hi:i<(prtV ps).length):∃ j,j<ps.length∧at8 ps ((prtV ps).getD i [])=(j:Int)∧zcH ps i=((prtV ps).getD i [],zaQ (prtV ps) (ps.getD j pk0).2.1 (prtV ps).length,0,0,0,0):=by
 by_cases h0:(zaS ps).1=0
 ·
  have hv:prtV ps=zaj ps:=(zeo h0).1;rw [hv] at hi ⊢;have C:=zdl h0;obtain ⟨j,hj,e,ht⟩:=ziX C hi;refine ⟨j,hj,e,?_⟩;have hp:pkOf ps ((zaj ps).getD i [])=ps.getD j pk0:=by unfold pkOf;rw [e,Int.toNat_natCast]
  have:=zmS C hi;rw [hp] at this;rw [ht,this]
 ·rw [show prtV ps=[] from if_neg h0] at hi;simp at hi
theorem zjn {w:World} {base e size n c:Nat} {a:Option Addr} {xs:List Value} (h:w.ownsRow base e size (.slice a n c) n xs):n≤c:=by
 rcases h.2 with ⟨h',h0,_⟩ | ⟨g,cp,cur,h',_,_,hnc,_⟩
 ·omega
 ·injection h' with _ _ h3;omega
theorem zdw (ps:List Pk):za1 (newV ps).1.1:=by
 by_cases h0:(zaS ps).1=0
 ·
  rw [show newV ps=((zaL ps,1,0,zaV 1),true) from if_pos h0];have hd:=zao.1 (zlV h0);intro j
  show ((zaL ps).getD j ta0).1.length≤1048576∧((zaL ps).getD j ta0).2.1.length≤1048576
  by_cases hj:j<(zaL ps).length
  ·
   have h1:=(zcl (hd.one j hj).1).1.2;have hl:(zaL ps).length=(zaj ps).length:=by unfold zaL;simp
   have h8:=(zds (zdl h0)).2;refine ⟨Nat.le_trans h1 (by decide),?_⟩;rw [zfg (by omega)];exact Nat.le_trans (zhB _ _ _) (by omega)
  ·rw [List.getD_eq_getElem?_getD,List.getElem?_eq_none (by omega)];simp [ta0]
 ·rw [show newV ps=(dk0,false) from if_neg h0];intro j;simp [dk0,ta0]
theorem zde (ps:List Pk):zac ((newV ps).1.1,1,0,zaV 1)=(newV ps).2:=by
 by_cases h0:(zaS ps).1=0
 ·rw [show newV ps=((zaL ps,1,0,zaV 1),true) from if_pos h0];exact zlV h0
 ·
  rw [show newV ps=(dk0,false) from if_neg h0];rcases hb:zac (dk0.1,1,0,zaV 1) with _ | _
  ·rfl
  ·have:=(zao.1 hb).n.1;simp [dk0] at this
theorem zju (ps:List Pk):(newV ps).1.1.length≤9:=by
 rw [zek,List.length_map,List.length_range];exact zlP ps
theorem zdM {ps:List Pk} (h:(newV ps).2=true):(newV ps).1=((newV ps).1.1,1,0,zaV 1):=by
 by_cases h0:(zaS ps).1=0
 ·rw [show newV ps=((zaL ps,1,0,zaV 1),true) from if_pos h0]
 ·rw [show newV ps=(dk0,false) from if_neg h0] at h;cases h
theorem ze2 {ps:List Pk} (h:(newV ps).2=false):(newV ps).1=dk0:=by
 by_cases h0:(zaS ps).1=0
 ·rw [show newV ps=((zaL ps,1,0,zaV 1),true) from if_pos h0] at h;cases h
 ·rw [show newV ps=(dk0,false) from if_neg h0]
def zan (v:Value) (xs:List TV) (k:Nat):Prop:=v.ownBlock=some k∨∃ x∈xs,(tvT x).ownBlock=some k

end Go.Proofs.YtponeoijfaepnaaGreatDoor
