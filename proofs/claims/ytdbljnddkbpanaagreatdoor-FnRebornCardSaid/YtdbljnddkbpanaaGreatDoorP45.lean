/-
  Parts of one proof, one behind the other: ReaI, ProjI, PrtI, NewI.
-/
import Derived.Test.YtdbljnddkbpanaaGreatDoorP44
import Derived.Test.YtdbljnddkbpanaaGreatDoorP39
import Derived.Sort.OwnSortedInts
import Derived.Test.YtdbljnddkbpanaaGreatDoorP43
import Derived.Test.YtdbljnddkbpanaaGreatDoorP14
import Derived.Test.YtdbljnddkbpanaaGreatDoorP32
import Derived.Test.YtdbljnddkbpanaaGreatDoorP18
import Derived.Test.YtdbljnddkbpanaaGreatDoorP35
namespace Go.Proofs.YtdbljnddkbpanaaGreatDoor
open Go.RowKit
section
open Go.RowKit Go.Sort
structure Ro3 (X:World) (B:Nat) (v u t:Value) (l lu lt:List Nat):Prop where
 rv:X.ownsRow B 3 1 v l.length (natV l)
 ru:X.ownsRow B 3 1 u lu.length (natV lu)
 rt:X.ownsRow B 3 1 t lt.length (natV lt)
 au:∀ k,v.ownBlock=some k→u.ownBlock≠some k
 at_:∀ k,v.ownBlock=some k→t.ownBlock≠some k
theorem Ro3.below {X Y:World} {B:Nat} {v u t:Value} {l lu lt:List Nat} (h:Ro3 X B v u t l lu lt) (hb:Below X.heap.size X Y):Ro3 Y B v u t l lu lt:=⟨za6 h.rv hb,za6 h.ru hb,za6 h.rt hb,h.au,h.at_⟩
theorem Ro3.app {X:World} {B:Nat} {v u t:Value} {l lu lt:List Nat} (h:Ro3 X B v u t l lu lt) (hB:B≤X.heap.size) (hl:l.length≤1000) (x:Nat) :
 ∃ g' c' Y,(Builtin.append_ #[134,134] 134 #[v,.slice (some ⟨X.heap.size,0,none⟩) 1 1]).run Tryz.prog (X.alloc (.cells #[.int .i64 (x:Int)] 3))=.ok (.slice (some ⟨g',0,none⟩) (l.length+1) c') Y ∧
  Ro3 Y B (.slice (some ⟨g',0,none⟩) (l.length+1) c') u t (l++[x]) lu lt∧Below B X Y:=by
 obtain ⟨v',Y,hr,ho,hg,hat⟩:=zeY 134 Tryz.underlying134 x h.rv hB (by omega)
 obtain ⟨g',c',rfl⟩:=zaw ho (by omega)
 have hw:zb0 X Y (fun k=>v.ownBlock=some k):=zb0.of_grown hg (fun k e=>e)
 refine ⟨g',c',Y,hr,⟨by rw [List.length_append,List.length_singleton];exact ho,zbz h.ru hw (fun k e e2=>h.au k e2 e),zbz h.rt hw (fun k e e2=>h.at_ k e2 e),fun k e e2=>?_,fun k e e2=>?_⟩,hw.below hB (fun k e=>(h.rv.lt k e).1)⟩
 ·
  rcases hat with h1 | h1
  ·
   exact h.au k (by rw [←h1];exact e) e2
  ·
   rw [h1] at e;injection e with e
   have:=(h.ru.lt k e2).2
   omega
 ·
  rcases hat with h1 | h1
  ·
   exact h.at_ k (by rw [←h1];exact e) e2
  ·
   rw [h1] at e;injection e with e
   have:=(h.rt.lt k e2).2
   omega
theorem rp_take {P re:List Nat} {k:Nat} (h:∀ z∈P.take k,z∈re) (hk:k<P.length) (hz:P.getD k 0∈re):∀ z∈P.take (k+1),z∈re:=fun z hz2=>by
 rw [List.take_succ_eq_append_getElem hk,List.mem_append,List.mem_singleton] at hz2
 rcases hz2 with e | e
 ·
  exact h z e
 ·
  rw [e]
  have:P.getD k 0=P[k]:=by simp [List.getD,hk]
  rw [←this];exact hz
set_option maxHeartbeats 4000000 in
set_option maxRecDepth 100000 in
theorem zfA (a:Option Addr) (len cap:Nat) (ps:List Pk) (f:Nat) (w:World) (h:zal w a len cap ps) (hpj:zaL ps=true) (hf:f<len) :
 Calls Tryz.prog 104 #[.slice a len cap,.int .i64 (f:Int)] w fun e w'=>∃ v,e=.returned v∧∃ re,w'.ownsRow w.heap.size 3 1 v re.length (natV re)∧Rp8 ps f re∧RpTo ps re re.length∧Below w.heap.size w w':=by
 obtain rfl:ps.length=len:=h.hlen
 have hn8:ps.length≤8:=(zac hpj).2.1.2
 have HI:Hid (zal w a ps.length cap ps):=h
 have HPJ:Hid (zaL ps=true):=hpj
 have HS0:Hid (Ro3 (w.alloc (.cells #[.int .i64 (f:Int)] 3)) w.heap.size (.slice (some ⟨w.heap.size,0,none⟩) 1 1) (.slice none 0 0) (.slice none 0 0) [f] [] []):=⟨World.ownsRow_lit (base:=w.heap.size) (e:=3) (size:=1) w #[.int .i64 (f:Int)] 1 (Nat.le_refl _) (by decide) rfl,World.ownsRow_nil _ _ _ _,World.ownsRow_nil _ _ _ _,(fun k _ e=>by cases e),(fun k _ e=>by cases e)⟩
 have HB0:Hid (Below w.heap.size w (w.alloc (.cells #[.int .i64 (f:Int)] 3))):=(Below.refl _ _).alloc (Nat.le_refl _) _
 have HR0:Hid (Rp8 ps f [f]):=Rp8.one hpj hf
 clear h hpj
 go_enter Tryz.func104,Tryz.ntmps104
 go_wp2
 go_loopw [5,6] (fun rv iv wr=>∃ (i m:Nat) (ra:Option Addr) (rc:Nat) (re:List Nat),rv=.slice ra m rc∧iv=.int .i64 (i:Int)∧i≤m∧m≤8∧Hid (re.length=m)∧Hid (Ro3 wr w.heap.size (.slice ra m rc) (.slice none 0 0) (.slice none 0 0) re [] [])∧Hid (Rp8 ps f re)∧Hid (RpTo ps re i)∧Hid (Below w.heap.size w wr)) (fun _ iv _=>100-(intOf iv).toNat)
 case atStart=>exact ⟨0,1,_,1,[f],rfl,rfl,by omega,by omega,rfl,HS0,HR0,(fun j hj=>by omega),HB0⟩
 case round =>
  obtain ⟨i,m,ra,rc,re,rfl,rfl,him,hm8,HL,HS,HR,HT,HB⟩:=hrel
  clear HS0 HB0 HR0
  obtain ⟨Z,hZ⟩:∃ Z,Z=wr:=⟨_,rfl⟩
  subst hZ
  by_cases hlt:(i:Int)<(m:Int)
  ·
   have hi2:i<m:=by omega
   have hrv:=HS.out.rv
   rw [HL.out] at hrv
   obtain ⟨g,cc,hge⟩:=zaw hrv (by omega)
   injection hge with e1 _ e3
   subst e1
   subst e3
   have c0:=zbS hrv HL.out i hi2
   have hym:=zcj (l:=re) (k:=i) (by rw [HL.out];exact hi2)
   have hyl:=HR.out.lt _ hym
   obtain ⟨y,hy⟩:∃ y,re.getD i 0=y:=⟨_,rfl⟩
   rw [hy] at c0 hym hyl
   have HPo:Hid (_):=ze1 a ps.length cap ps y Z (HI.out.below HB.out) hyl
   obtain ⟨P,hP⟩:∃ P,plc ps (zbc ps y)=P:=⟨_,rfl⟩
   rw [hP] at HPo
   have HP:Hid (plc ps (zbc ps y)=P):=hP
   have HY0:Hid (re.getD i 0=y):=hy
   have hPl:P.length≤6:=by rw [←hP];exact Nat.le_trans (zot _ _) (zfb HPJ.out hyl).2
   clear hrv hP hy
   go_wp2_with fail
   refine Calls.mono HPo.out ?_
   rintro e w1 ⟨v1,rfl,ho1,hb1⟩
   obtain ⟨pa,pc,rfl,_⟩:=zbu ho1 rfl
   have s1:=HS.out.below hb1
   have HB1:Hid (Below w.heap.size w w1):=HB.out.trans (hb1.mono HB.out.size)
   have HS1:Hid (Ro3 w1 w.heap.size (.slice (some ⟨g,0,none⟩) m rc) (.slice pa P.length pc) (.slice none 0 0) re P []):=⟨s1.rv,zaI ho1 HB.out.size,s1.rt,(fun k e e2=>by
    have l1:=(HS.out.rv.lt k e).2
    have l2:=(ho1.lt k e2).1
    omega),s1.at_⟩
   clear HPo ho1 hb1 s1 HS HB c0
   go_wp2
   go_loopw [5,24] (fun rv kv wx=>∃ (k m:Nat) (ra:Option Addr) (rc:Nat) (re:List Nat),rv=.slice ra m rc∧kv=.int .i64 (k:Int)∧k≤P.length∧i<m∧m≤8∧Hid (re.length=m)∧Hid (Ro3 wx w.heap.size (.slice ra m rc) (.slice pa P.length pc) (.slice none 0 0) re P [])∧Hid (Rp8 ps f re)∧Hid (RpTo ps re i)∧Hid (re.getD i 0=y)∧Hid (∀ z∈P.take k,z∈re)∧Hid (Below w.heap.size w wx)) (fun _ kv _=>P.length-(intOf kv).toNat)
   case atStart=>exact ⟨0,m,_,rc,re,rfl,rfl,by omega,hi2,hm8,HL,HS1,HR,HT,HY0,(fun z hz=>by simp at hz),HB1⟩
   case round =>
    obtain ⟨k,m,ra,rc,re,rfl,rfl,hk,him2,hm8',HL,HS,HR,HT,HY,HA,HB⟩:=hrel
    clear HS1 HB1 HY0
    by_cases hkl:(k:Int)<(P.length:Int)
    ·
     have hk2:k<P.length:=by omega
     obtain ⟨pa',pc',he,hpin⟩:=zbu HS.out.ru rfl
     injection he with e1 _ e3
     subst e1
     subst e3
     have hrv:=HS.out.rv
     rw [HL.out] at hrv
     obtain ⟨ra',rc',he,hrin⟩:=zbu hrv HL.out
     injection he with e1 _ e3
     subst e1
     subst e3
     obtain ⟨b,off,rfl,_,d0⟩:=hpin.2 k hk2
     have hzm:=zcj hk2
     have HStep:Hid (∀ re':List Nat,(∀ z∈P.take k,z∈re')→P.getD k 0∈re'→∀ z∈P.take (k+1),z∈re'):=fun re' h1 h2=>rp_take h1 hk2 h2
     obtain ⟨z,hz⟩:∃ z,P.getD k 0=z:=⟨_,rfl⟩
     rw [hz] at d0 hzm HStep
     have HZp:Hid (z∈plc ps (zbc ps y)):=by exact (by rw [HP.out];exact hzm:z∈plc ps (zbc ps y))
     have HC:Hid (_):=zeP ra m rc re z wr hrin (by omega)
     clear hpin hrv hrin hz hzm
     by_cases hin:z∈re
     ·
      rw [decide_eq_true hin] at HC
      have HA2:Hid (∀ z∈P.take (k+1),z∈re):=HStep.out re HA.out hin
      clear hin
      go_wp2_with (go_at_call 106;refine Calls.mono HC.out ?_;rintro e w2 ⟨rfl,hw2⟩;obtain rfl:=hw2.symm)
      go_roundw
      case rel=>exact ⟨k+1,m,ra,rc,re,rfl,by go_num,by omega,him2,hm8',HL,HS,HR,HT,HY,HA2,HB⟩
      case measure=>simp [intOf];omega
     ·
      rw [decide_eq_false hin] at HC
      have hre:re.getD i 0∈re:=zcj (by rw [HL.out];exact him2)
      rw [HY.out] at hre
      have HR2:Hid (Rp8 ps f (re++[z])):=HR.out.add hre HZp.out hin
      have HT2:Hid (RpTo ps (re++[z]) i):=HT.out.add (by rw [HL.out];omega)
      have HY2:Hid ((re++[z]).getD i 0=y):=by exact (by rw [←HY.out];simp [List.getD,List.getElem?_append_left (show i<re.length by rw [HL.out];exact him2)]:(re++[z]).getD i 0=y)
      have HA2:Hid (∀ z'∈P.take (k+1),z'∈re++[z]):=HStep.out (re++[z]) (fun q hq=>List.mem_append_left _ (HA.out q hq)) (by simp)
      have HL2:Hid ((re++[z]).length=m+1):=by exact (by rw [List.length_append,List.length_singleton,HL.out]:(re++[z]).length=m+1)
      have hm9:m+1≤8:=by have:=HR2.out.len;rw [HL2.out] at this;omega
      obtain ⟨g',c',Y,hr,s2,hB2⟩:=HS.out.app HB.out.size (by rw [HL.out];omega) z
      rw [HL.out] at hr s2
      have HSY:Hid (Ro3 Y w.heap.size (.slice (some ⟨g',0,none⟩) (m+1) c') (.slice (some ⟨b,off,none⟩) P.length pc) (.slice none 0 0) (re++[z]) P []):=s2
      have HBY:Hid (Below w.heap.size w Y):=HB.out.trans hB2
      clear hin hre s2 hB2
      go_wp2_with (first | (go_at_call 106;refine Calls.mono HC.out ?_;rintro e w2 ⟨rfl,hw2⟩;obtain rfl:=hw2.symm) | (at_builtin;refine za0 rfl (.tmp 32) (.tmp 34) 134 rfl _ _ _ rfl rfl hr ?_;clear hr))
      go_roundw
      case rel=>exact ⟨k+1,m+1,_,c',re++[z],rfl,by go_num,by omega,by omega,hm9,HL2,HSY,HR2,HT2,HY2,HA2,HBY⟩
      case measure=>simp [intOf];omega
    ·
     have HT2:Hid (RpTo ps re (i+1)):=HT.out.next (fun z hz=>HA.out z (by rw [List.take_of_length_le (by omega),←HP.out];rw [HY.out] at hz;exact hz))
     have HS2:Hid (Ro3 wr w.heap.size (.slice ra m rc) (.slice none 0 0) (.slice none 0 0) re [] []):=⟨HS.out.rv,World.ownsRow_nil _ _ _ _,HS.out.rt,(fun k _ e=>by cases e),HS.out.at_⟩
     go_wp2
     go_roundw
     case rel=>exact ⟨i+1,m,ra,rc,re,rfl,by go_num,by omega,by omega,HL,HS2,HR,HT2,HB⟩
     case measure=>simp [intOf];omega
  ·
   obtain rfl:i=m:=by omega
   go_wp2
   go_ret
   exact ⟨_,rfl,re,HS.out.rv,HR.out,by rw [HL.out];exact HT.out,HB.out⟩
end
theorem lit_none (w:World):(w.alloc (.cells #[] 9)).ownsRow w.heap.size 9 1 (.slice (some ⟨w.heap.size,0,none⟩) 0 0) 0 (strV [])∧Below w.heap.size w (w.alloc (.cells #[] 9)) :=
 ⟨World.ownsRow_lit (base:=w.heap.size) (e:=9) (size:=1) w #[] 0 (Nat.le_refl _) (by decide) rfl,(Below.refl _ _).alloc (Nat.le_refl _) _⟩
theorem znF (ps:List Pk) (s:List UInt8):((if zaL ps=true then at8 ps s else -1)=-1∧zlO ps s=false)∨∃ f,f<ps.length∧(if zaL ps=true then at8 ps s else -1)=(f:Int)∧zaL ps=true∧s=nmAt ps f∧zlO ps s=true:=by
 unfold zlO
 rcases hp:zaL ps with _ | _
 ·
  exact Or.inl ⟨by simp,rfl⟩
 ·
  rw [if_pos rfl]
  rcases zdt ps s with ⟨e,_⟩ | ⟨f,hf,e,hn,_⟩
  ·
   exact Or.inl ⟨e,by rw [e];rfl⟩
  ·
   exact Or.inr ⟨f,hf,e,rfl,hn.symm,by rw [e];simp⟩
theorem zpq (out re:List Nat) (f k:Nat) (hk:k<out.length):(out.take (k+1)).filter (fun i=>decide (i≠f∧i∈re))=(out.take k).filter (fun i=>decide (i≠f∧i∈re))++if out.getD k 0≠f∧out.getD k 0∈re then [out.getD k 0] else []:=by
 have e:out.getD k 0=out[k]:=by simp [List.getD,hk]
 rw [List.take_succ_eq_append_getElem hk,List.filter_append,e]
 by_cases h:out[k]≠f∧out[k]∈re
 ·
  rw [if_pos h];simp [h]
 ·
  rw [if_neg h];simp [h]
set_option maxHeartbeats 4000000 in
set_option maxRecDepth 100000 in
theorem zp9 (a:Option Addr) (len cap:Nat) (ps:List Pk) (s:List UInt8) (w:World) (h:zal w a len cap ps) (_hs:s.length≤1048576) :
 Calls Tryz.prog 77 #[.slice a len cap,.string ⟨s.toArray⟩] w fun e w'=>∃ v,e=.returned v∧w'.ownsRow w.heap.size 9 1 v (zgQ ps s).length (strV (zgQ ps s))∧Below w.heap.size w w':=by
 have HP:Hid (_):=zlw a len cap ps s w h
 have HI:Hid (zal w a len cap ps):=h
 rcases znF ps s with ⟨hp,hv⟩ | ⟨f,hf,hp,hpj,hns,hv⟩
 ·
  have HE:Hid (zgQ ps s=[]):=by exact (by unfold zgQ;rw [if_neg (by rw [hv];simp)]:zgQ ps s=[])
  rw [hp] at HP
  clear h hv hp
  go_enter Tryz.func77,Tryz.ntmps77
  go_wp2_with (go_at_call 103;refine Calls.mono HP.out ?_;rintro e w1 ⟨rfl,hb1⟩;have HB1:Hid (Below w.heap.size w w1):=hb1;clear hb1)
  go_ret
  obtain ⟨h1,h2⟩:=lit_none w1
  exact ⟨_,rfl,by rw [HE.out];exact zaI h1 HB1.out.size,HB1.out.trans (h2.mono HB1.out.size)⟩
 ·
  have HE:Hid (zgQ ps s=zdc ps (nmAt ps f)):=by exact (by unfold zgQ;rw [if_pos hv,hns]:zgQ ps s=zdc ps (nmAt ps f))
  rw [hp] at HP
  have hfl:f<len:=by rw [←h.hlen];exact hf
  have hl8:ps.length≤8:=(zac hpj).2.1.2
  have hfz:¬(f:Int)=-1:=by omega
  have hfb:((f:Int)==-1)=false:=beq_eq_false_iff_ne.2 hfz
  clear h hv hp hns
  go_enter Tryz.func77,Tryz.ntmps77
  go_wp2_with fail
  refine Calls.mono HP.out ?_
  rintro e w1 ⟨rfl,hb1⟩
  have HB1:Hid (Below w.heap.size w w1):=hb1
  have HI1:Hid (zal w1 a len cap ps):=HI.out.below hb1
  clear hb1 HP
  go_wp2_with fail
  refine (zfA a len cap ps f w1 HI1.out hpj hfl).mono ?_
  rintro e w2 ⟨v,rfl,re,ho,hrp,hrt,hb2⟩
  have hrl:=hrp.len
  obtain ⟨ra,rc,rfl,_⟩:=zbu ho rfl
  have HB2:Hid (Below w.heap.size w w2):=HB1.out.trans (hb2.mono HB1.out.size)
  have HRp:Hid (Rp8 ps f re∧RpTo ps re re.length):=⟨hrp,hrt⟩
  have HO2:Hid (w2.ownsRow w.heap.size 3 1 (.slice ra re.length rc) re.length (natV re)):=zaI ho HB1.out.size
  have hbA:Below w2.heap.size w2 (w2.alloc (.cells #[] 3)):=(Below.refl _ _).alloc (Nat.le_refl _) _
  have hN0:(w2.alloc (.cells #[] 3)).ownsRow w.heap.size 3 1 (.slice (some ⟨w2.heap.size,0,none⟩) 0 0) 0 (natV []):=World.ownsRow_lit (base:=w.heap.size) (e:=3) (size:=1) w2 #[] 0 HB2.out.size (by decide) rfl
  have HBA:Hid (Below w.heap.size w (w2.alloc (.cells #[] 3))):=HB2.out.trans (hbA.mono HB2.out.size)
  have HOA:Hid ((w2.alloc (.cells #[] 3)).ownsRow w.heap.size 3 1 (.slice ra re.length rc) re.length (natV re)):=za6 HO2.out hbA
  have HNA:Hid ((w2.alloc (.cells #[] 3)).ownsRow w.heap.size 3 1 (.slice (some ⟨w2.heap.size,0,none⟩) 0 0) 0 (natV [])):=hN0
  have HRl:Hid (∀ k,(Value.slice ra re.length rc).ownBlock=some k→k<w2.heap.size):=fun k e=>(HO2.out.lt k e).2
  have HIO:Hid (_):=zdo a len cap ps (w2.alloc (.cells #[] 3)) (HI.out.below HBA.out) hpj
  clear ho hrp hrt hb2 hbA hN0 hpj
  go_wp2_with fail
  refine Calls.mono HIO.out ?_
  rintro e w3 ⟨v3,rfl,out,ho3,hoo,hlt,hol,hb3⟩
  obtain ⟨oa,oc,rfl,_⟩:=zbu ho3 rfl
  have HB3:Hid (Below w.heap.size w w3):=HBA.out.trans (hb3.mono HBA.out.size)
  have HNd:Hid (zaM ps (out.filter (fun i=>decide (i≠f∧i∈re)))=zdc ps (nmAt ps f)):=zli HRp.out.1 HRp.out.2 hoo (fun x hx=>by rw [HI.out.hlen];exact hlt x hx)
  have HLt:Hid (∀ x∈out,x<len):=hlt
  have hsA:(w2.alloc (.cells #[] 3)).heap.size=w2.heap.size+1:=by simp
  have HS0:Hid (Ro3 w3 w.heap.size (.slice (some ⟨w2.heap.size,0,none⟩) 0 0) (.slice ra re.length rc) (.slice oa out.length oc) ((out.take 0).filter (fun i=>decide (i≠f∧i∈re))) re out):=⟨za6 HNA.out hb3,za6 HOA.out hb3,zaI ho3 HBA.out.size,(fun k e e2=>by
   injection e with e
   have e':w2.heap.size=k:=e
   have:=HRl.out k e2
   omega),(fun k e e2=>by
   injection e with e
   have e':w2.heap.size=k:=e
   have:=(ho3.lt k e2).1
   omega)⟩
  clear HIO HNA HOA HBA HO2 ho3 hoo hlt hb3 hsA HRl
  go_wp2
  go_loopw [7,23] (fun nv iv wr=>∃ (k m:Nat) (na:Option Addr) (nc:Nat) (ne:List Nat),nv=.slice na m nc∧iv=.int .i64 (k:Int)∧k≤out.length∧m≤k∧Hid (ne.length=m)∧Hid ((out.take k).filter (fun i=>decide (i≠f∧i∈re))=ne)∧Hid (Ro3 wr w.heap.size (.slice na m nc) (.slice ra re.length rc) (.slice oa out.length oc) ne re out)∧Hid (Below w.heap.size w wr)) (fun _ iv _=>out.length-(intOf iv).toNat)
  case atStart=>exact ⟨0,0,_,0,[],rfl,rfl,by omega,by omega,rfl,rfl,HS0,HB3⟩
  case round =>
   obtain ⟨k,m,na,nc,ne,rfl,rfl,hk,hmk,HL,HF,HS,HB⟩:=hrel
   clear HS0 HB3
   by_cases hlt:(k:Int)<(out.length:Int)
   ·
    have hk2:k<out.length:=by omega
    obtain ⟨oa',oc',he,hoin⟩:=zbu HS.out.rt rfl
    injection he with e1 _ e3
    subst e1
    subst e3
    obtain ⟨ra',rc',he,hrin⟩:=zbu HS.out.ru rfl
    injection he with e1 _ e3
    subst e1
    subst e3
    obtain ⟨b,off,rfl,_,d0⟩:=hoin.2 k hk2
    have hft:=zpq out re f k hk2
    rw [HF.out] at hft
    obtain ⟨z,hz⟩:∃ z,out.getD k 0=z:=⟨_,rfl⟩
    rw [hz] at d0 hft
    have HC:Hid (_):=zeP ra re.length rc re z wr hrin (by omega)
    clear hoin hrin hz
    by_cases hzf:z=f
    ·
     subst hzf
     rw [if_neg (fun h=>h.1 rfl),List.append_nil] at hft
     have HF2:Hid ((out.take (k+1)).filter (fun i=>decide (i≠z∧i∈re))=ne):=hft
     clear hft
     go_wp2
     go_roundw
     case rel=>exact ⟨k+1,m,na,nc,ne,rfl,by go_num,by omega,by omega,HL,HF2,HS,HB⟩
     case measure=>simp [intOf];omega
    ·
     have hzz:¬(z:Int)=(f:Int):=by omega
     have hzb:((z:Int) !=(f:Int))=true:=by rw [bne_iff_ne];exact hzz
     have hzb2:((z:Int)==(f:Int))=false:=beq_eq_false_iff_ne.2 hzz
     by_cases hin:z∈re
     ·
      rw [decide_eq_true hin] at HC
      rw [if_pos ⟨hzf,hin⟩] at hft
      have HF2:Hid ((out.take (k+1)).filter (fun i=>decide (i≠f∧i∈re))=ne++[z]):=hft
      have HL2:Hid ((ne++[z]).length=m+1):=by exact (by rw [List.length_append,List.length_singleton,HL.out]:(ne++[z]).length=m+1)
      obtain ⟨g',c',Y,hr,s2,hB2⟩:=HS.out.app HB.out.size (by rw [HL.out];omega) z
      rw [HL.out] at hr s2
      have HSY:Hid (Ro3 Y w.heap.size (.slice (some ⟨g',0,none⟩) (m+1) c') (.slice ra re.length rc) (.slice (some ⟨b,off,none⟩) out.length oc) (ne++[z]) re out):=s2
      have HBY:Hid (Below w.heap.size w Y):=HB.out.trans hB2
      clear hin hft s2 hB2 hzf
      go_wp2_with (first | (go_at_call 106;refine Calls.mono HC.out ?_;rintro e w2 ⟨rfl,hw2⟩;obtain rfl:=hw2.symm) | (at_builtin;refine za0 rfl (.tmp 35) (.tmp 37) 134 rfl _ _ _ rfl rfl hr ?_;clear hr))
      go_roundw
      case rel=>exact ⟨k+1,m+1,_,c',ne++[z],rfl,by go_num,by omega,by omega,HL2,HF2,HSY,HBY⟩
      case measure=>simp [intOf];omega
     ·
      rw [decide_eq_false hin] at HC
      rw [if_neg (fun h=>hin h.2),List.append_nil] at hft
      have HF2:Hid ((out.take (k+1)).filter (fun i=>decide (i≠f∧i∈re))=ne):=hft
      clear hin hft hzf
      go_wp2_with (go_at_call 106;refine Calls.mono HC.out ?_;rintro e w2 ⟨rfl,hw2⟩;obtain rfl:=hw2.symm)
      go_roundw
      case rel=>exact ⟨k+1,m,na,nc,ne,rfl,by go_num,by omega,by omega,HL,HF2,HS,HB⟩
      case measure=>simp [intOf];omega
   ·
    obtain rfl:k=out.length:=by omega
    have hne:out.filter (fun i=>decide (i≠f∧i∈re))=ne:=by have:=HF.out;rw [List.take_length] at this;exact this
    have hrv:=HS.out.rv
    rw [HL.out] at hrv
    obtain ⟨na',nc',he,hnin⟩:=zbu hrv HL.out
    injection he with e1 _ e3
    subst e1
    subst e3
    have hnd:=HNd.out
    rw [hne,←HE.out] at hnd
    have HN:Hid (_):=zlz a len cap ps na m nc ne wr (HI.out.below HB.out) hnin (fun x hx=>HLt.out x (by rw [←hne] at hx;exact (List.mem_filter.1 hx).1)) (by omega)
    rw [hnd] at HN
    clear hnd hne hrv hnin
    go_wp2_with fail
    refine Calls.mono HN.out ?_
    rintro e w4 ⟨v4,rfl,ho4,hb4⟩
    have HRr:Hid (w4.ownsRow w.heap.size 9 1 v4 (zgQ ps s).length (strV (zgQ ps s))∧Below w.heap.size w w4):=⟨zaI ho4 HB.out.size,HB.out.trans (hb4.mono HB.out.size)⟩
    clear ho4 hb4
    go_wp2
    go_ret
    exact ⟨_,rfl,HRr.out.1,HRr.out.2⟩
set_option maxHeartbeats 1000000 in
set_option maxRecDepth 100000 in
theorem implPrt (a:Option Addr) (len cap:Nat) (ps:List Pk) (er:Nat→Addr) (w:World) (hE:Err8 w er) (h:zal w a len cap ps) :
 Calls Tryz.prog 44 #[.slice a len cap] w fun e w'=>∃ v,e=.returned v∧w'.ownsRow w.heap.size 9 1 v (prtV ps).length (strV (prtV ps))∧Below w.heap.size w w':=by
 have HF:Hid (_):=zlI a len cap ps er w hE h
 have HI:Hid (zal w a len cap ps):=h
 obtain ⟨z,hz⟩:∃ z,zaY ps=z:=⟨_,rfl⟩
 have hzc:=zkv z ps hz
 rw [hz] at HF
 obtain ⟨c,p,g⟩:=z
 unfold zb9 at HF
 simp only at HF hzc
 have HNe:Hid (_):=zim c p g
 clear h hE
 rcases hzc with ⟨hno,hv⟩ | ⟨he,h0⟩
 ·
  have HV:Hid (prtV ps=[]):=hv
  clear hz hv
  go_enter Tryz.func44,Tryz.ntmps44
  go_wp2_with fail
  refine Calls.mono HF.out ?_
  rintro e w1 ⟨rfl,hb1⟩
  have hne:=HNe.out w1
  rw [decide_eq_true hno] at hne
  have HB:Hid (Below w.heap.size w w1):=hb1
  have HNo:Hid (¬(c=0∧p=[]∧g=[])):=hno
  clear hb1 HF HNe hno
  go_wp2
  all_goals first
   | (go_ret;obtain ⟨h1,h2⟩:=zi5 w1;exact ⟨_,rfl,by rw [HV.out];exact zaI h1 HB.out.size,HB.out.trans (h2.mono HB.out.size)⟩)
   | (exfalso;have h:=HNo.out;simp_all;done)
 ·
  obtain ⟨hV,hp,hhere,hm⟩:=zeH h0
  have hl:=zfy hp za7
  have hnv:zgQ ps za7=zdc ps za7:=if_pos hhere
  have HN:Hid (∀ X,Below w.heap.size w X→Calls Tryz.prog 77 #[.slice a len cap,.string ⟨za7.toArray⟩] X fun e w'=>∃ v,e=.returned v∧w'.ownsRow X.heap.size 9 1 v (zdc ps za7).length (strV (zdc ps za7))∧Below X.heap.size X w'):=fun X hb=>by
   have:=zp9 a len cap ps za7 X (HI.out.below hb) (by decide)
   rw [hnv] at this
   exact this
  rw [hV]
  obtain ⟨ls,hls⟩:∃ ls,zdc ps za7=ls:=⟨_,rfl⟩
  rw [hls] at HN hl ⊢
  rw [List.length_append,List.length_singleton]
  simp only [Prod.mk.injEq] at he
  obtain ⟨rfl,rfl,rfl⟩:=he
  unfold za7 at HN
  clear hz h0 hV hp hhere hm hnv hls
  go_enter Tryz.func44,Tryz.ntmps44
  go_wp2_with fail
  refine Calls.mono HF.out ?_
  rintro e w1 ⟨rfl,hb1⟩
  have hne:=HNe.out w1
  rw [decide_eq_false (by simp)] at hne
  have HB:Hid (Below w.heap.size w w1):=hb1
  have HC:Hid (_):=HN.out w1 hb1
  clear hb1 HF HNe HN
  go_wp2_with fail
  refine Calls.mono HC.out ?_
  rintro e w2 ⟨v,rfl,ho,hb2⟩
  have HO:Hid (w2.ownsRow w.heap.size 9 1 v ls.length (strV ls)∧Below w.heap.size w w2):=⟨zaI ho HB.out.size,HB.out.trans (hb2.mono HB.out.size)⟩
  have HSc:Hid (_):=zbb [109,97,105,110] w2 (by decide)
  clear ho hb2 HC HB
  go_wp2_with fail
  refine Calls.mono HSc.out ?_
  rintro e w3 ⟨rfl,hb3⟩
  have hB3:=HO.out.2.trans (hb3.mono HO.out.2.size)
  have hO3:=za6 HO.out.1 hb3
  obtain ⟨v',Y,hr,hoY,hgY⟩:=zcp za7 hO3 hB3.size (by omega)
  have HB:Hid (Below w.heap.size w Y):=hB3.grown hgY hB3.size (fun k e=>(hO3.lt k e).1)
  have HOY:Hid (Y.ownsRow w.heap.size 9 1 v' (ls.length+1) (strV (ls++[za7]))):=hoY
  clear hgY hoY hO3 hB3 HO HSc hb3
  unfold za7 at hr
  go_wp2_with (at_builtin;refine za0 rfl _ _ 35 rfl _ _ _ rfl rfl hr ?_)
  go_ret
  exact ⟨_,rfl,HOY.out,HB.out⟩
set_option maxHeartbeats 2000000 in
set_option maxRecDepth 100000 in
theorem zlx (oa:Option Addr) (on oc:Nat) (os:List (List UInt8)) (ia:Option Addr) (il ic:Nat) (ims:List (List UInt8)) (w:World) (h1:za5 w oa on os) (h2:za5 w ia il ims) (hn:on≤1048576) (hm:il≤1048576) :
 Calls Tryz.prog 46 #[.slice oa on oc,.slice ia il ic] w fun e w'=>∃ v,e=.returned v∧w'.ownsRow w.heap.size 2 1 v (zaR os ims on).length (zbw (zaR os ims on))∧Below w.heap.size w w':=by
 obtain rfl:os.length=on:=h1.1
 obtain rfl:ims.length=il:=h2.1
 have HO:Hid (∀ Z,Below w.heap.size w Z→za5 Z oa os.length os∧za5 Z ia ims.length ims):=fun Z hz=>⟨h1.below hz,h2.below hz⟩
 have HR0:Hid ((w.alloc (.cells #[] 2)).ownsRow w.heap.size 2 1 (.slice (some ⟨w.heap.size,0,none⟩) ([]:List Int).length 0) ([]:List Int).length (zbw [])):=World.ownsRow_lit (base:=w.heap.size) (e:=2) (size:=1) w #[] 0 (Nat.le_refl _) (by decide) rfl
 have HB0:Hid (Below w.heap.size w (w.alloc (.cells #[] 2))):=(Below.refl _ _).alloc (Nat.le_refl _) _
 have HN0:Hid (zaR os ims 0=[]):=rfl
 clear h1 h2
 go_enter Tryz.func46,Tryz.ntmps46
 go_wp2
 go_loopw [5,11] (fun pv iv wr=>∃ (k:Nat) (va:Option Addr) (vc:Nat) (ns:List Int),pv=.slice va ns.length vc∧iv=.int .i64 (k:Int)∧k≤os.length∧ns.length≤k∧Hid (zaR os ims k=ns)∧Hid (wr.ownsRow w.heap.size 2 1 (.slice va ns.length vc) ns.length (zbw ns))∧Hid (Below w.heap.size w wr)) (fun _ iv _=>os.length-(intOf iv).toNat)
 case atStart=>exact ⟨0,_,0,[],rfl,rfl,by omega,by simp,HN0,HR0,HB0⟩
 case round =>
  obtain ⟨k,va,vc,ns,rfl,rfl,hk,hnk,HNs,HR,HB⟩:=hrel
  clear HR0 HB0 HN0
  by_cases hlt:(k:Int)<(os.length:Int)
  ·
   have hk2:k<os.length:=by omega
   obtain ⟨hto,hti⟩:=HO.out wr HB.out
   obtain ⟨b,off,rfl,_,d0⟩:=hto.2 k hk2
   obtain ⟨y,hy⟩:∃ y,os.getD k []=y:=⟨_,rfl⟩
   rw [hy] at d0
   have hH:=zeO ia ims.length ic ims y wr hti (by omega)
   clear hto hti
   by_cases hin:y∈ims
   ·
    have HNy:Hid (zaR os ims (k+1)=ns++[(k:Int)]):=by exact (by rw [zhZ (by rw [hy];exact hin),HNs.out]:zaR os ims (k+1)=ns++[(k:Int)])
    rw [decide_eq_true hin] at hH
    have HH:Hid (_):=hH
    have hlen:(ns++[(k:Int)]).length=ns.length+1:=by simp
    obtain ⟨v',Y,hr,ho,hg⟩:=zee (k:Int) HR.out HB.out.size (by omega)
    obtain ⟨va',vc',rfl⟩:=zb3 ho
    have HRY:Hid (Y.ownsRow w.heap.size 2 1 (.slice va' (ns++[(k:Int)]).length vc') (ns++[(k:Int)]).length (zbw (ns++[(k:Int)]))):=by exact (by rw [hlen];exact ho:Y.ownsRow w.heap.size 2 1 (.slice va' (ns++[(k:Int)]).length vc') (ns++[(k:Int)]).length (zbw (ns++[(k:Int)])))
    have HBY:Hid (Below w.heap.size w Y):=HB.out.grown hg HB.out.size (fun q e=>(HR.out.lt q e).1)
    clear hH hin hy ho hg
    go_wp2_with (first | (go_at_call 78;refine Calls.mono HH.out ?_;rintro e w1 ⟨rfl,hw1⟩;obtain rfl:=hw1.symm) | (at_builtin;refine za0 rfl _ _ 38 rfl _ _ _ rfl rfl hr ?_;clear hr))
    go_roundw
    case rel=>exact ⟨k+1,va',vc',ns++[(k:Int)],by rw [hlen],by go_num,by omega,by rw [hlen];omega,HNy,HRY,HBY⟩
    case measure=>simp [intOf];omega
   ·
    have HNy:Hid (zaR os ims (k+1)=ns):=by exact (by rw [zjZ (by rw [hy];exact hin),HNs.out]:zaR os ims (k+1)=ns)
    rw [decide_eq_false hin] at hH
    have HH:Hid (_):=hH
    clear hH hin hy
    go_wp2_with (go_at_call 78;refine Calls.mono HH.out ?_;rintro e w1 ⟨rfl,hw1⟩;obtain rfl:=hw1.symm)
    go_roundw
    case rel=>exact ⟨k+1,va,vc,ns,rfl,by go_num,by omega,by omega,HNy,HR,HB⟩
    case measure=>simp [intOf];omega
  ·
   have HE:Hid (zaR os ims os.length=ns):=by exact (by rw [show os.length=k by omega];exact HNs.out:zaR os ims os.length=ns)
   go_wp2
   go_ret
   rw [HE.out]
   exact ⟨_,rfl,HR.out,HB.out⟩
set_option maxHeartbeats 4000000 in
set_option maxRecDepth 100000 in
theorem zlu (a:Option Addr) (len cap:Nat) (ps:List Pk) (er:Nat→Addr) (w:World) (hE:Err8 w er) (h:zal w a len cap ps) :
 Calls Tryz.prog 20 #[.slice a len cap] w fun e w'=>∃ v xs,e=.returned v∧xs.map (·.1)=(newV ps).1.1∧za9 w' w.heap.size v xs∧zao (xs.map tvT)∧Below w.heap.size w w':=by
 obtain rfl:ps.length=len:=h.hlen
 have hlen:=h.small
 have hsh:=h.short
 have HTs:Hid (_):=zeE ps
 have hpl:=prtV_len ps
 have HTk:Hid (∀ i,i<(prtV ps).length→_):=fun i hi=>zn1 hi
 have HSh:Hid (∀ j,(ps.getD j pk0).2.1.length≤1048576):=fun j=>(hsh j).2.1
 have HA8:Hid (∀ W y,zat W a ps.length ps→_):=fun W y hW=>zcU a ps.length cap ps y W hW hlen
 obtain ⟨D,hD⟩:∃ D,w.heap.size=D:=⟨_,rfl⟩
 obtain ⟨W1,hW1⟩:∃ W,w.alloc (.cells #[] 40)=W:=⟨_,rfl⟩
 have hs1:W1.heap.size=D+1:=by rw [←hW1,←hD];simp
 have hb1:Below D w W1:=by rw [←hW1,←hD];exact (Below.refl _ _).alloc (Nat.le_refl _) _
 have hO1:za9 W1 D (.slice (some ⟨D,0,none⟩) 0 0) []:=by
  rw [←hW1,←hD]
  exact ⟨World.ownsRow_lit (base:=w.heap.size) (e:=40) (size:=6) w #[] 0 (Nat.le_refl _) (by decide) rfl,fun x hx=>by cases hx⟩
 have HPr:Hid (_):=implPrt a ps.length cap ps er W1 (hE.below (by rw [hD];exact hb1)) (h.below (by rw [hD];exact hb1))
 have HI:Hid (∀ Z,Below D w Z→zat Z a ps.length ps):=fun Z hz=>(h.below (by rw [hD];exact hz)).in
 generalize (newV ps).1.1=R at HTs ⊢
 generalize zcf ps=T at HTk HTs
 generalize prtV ps=os at HPr HTk HTs hpl
 have HO1:Hid (za9 W1 D (.slice (some ⟨D,0,none⟩) 0 0) []):=hO1
 have HB1:Hid (Below D w W1):=hb1
 have HX0:Hid (([]:List TV).map (·.1)=(List.range 0).map T):=rfl
 have hpi:(ps.length:Int)≤1048576:=by omega
 clear h hE hsh hlen hO1 hb1
 go_enter Tryz.func20,Tryz.ntmps20
 go_wp2_with fail
 refine Calls.mono HPr.out ?_
 rintro e w2 ⟨vn,rfl,ho,hb2⟩
 obtain ⟨_,na,nc,rfl,_⟩:=zaC ho
 have HN2:Hid (w2.ownsRow D 9 1 (.slice na os.length nc) os.length (strV os)):=zaI ho (by omega)
 have HO2:Hid (za9 w2 D (.slice (some ⟨D,0,none⟩) 0 0) []):=HO1.out.below hb2
 have HB2:Hid (Below D w w2):=HB1.out.trans (hb2.mono (by omega))
 clear ho hb2 HPr HO1 HB1
 go_wp2
 go_loopw [3,13] (fun tv iv wr=>∃ (i:Nat) (xs:List TV) (ta:Option Addr) (tc:Nat),tv=.slice ta i tc∧iv=.int .i64 (i:Int)∧i≤os.length∧xs.length=i∧Hid (xs.map (·.1)=(List.range i).map T)∧Hid (za9 wr D (.slice ta i tc) xs)∧Hid (zao (xs.map tvT))∧Hid (wr.ownsRow D 9 1 (.slice na os.length nc) os.length (strV os))∧Hid (Below D w wr)) (fun _ iv _=>os.length-(intOf iv).toNat)
 case atStart=>exact ⟨0,[],_,0,rfl,rfl,by omega,rfl,HX0,HO2,zao.nil,HN2,HB2⟩
 case round =>
  obtain ⟨i,xs,ta,tc,rfl,rfl,hi,hxl,HX,HO,HAp,HN,HB⟩:=hrel
  obtain ⟨X0,hX0⟩:∃ X0,X0=wr:=⟨_,rfl⟩
  subst hX0
  clear HO2 HN2 HB2 HX0
  by_cases hlt:(i:Int)<(os.length:Int)
  ·
   have hi2:i<os.length:=by omega
   have hsX:D≤X0.heap.size:=by rw [←hD];exact HB.out.size
   obtain ⟨_,na',nc',e0,hNin⟩:=zaC HN.out
   injection e0 with e1 _ e3
   subst e1
   subst e3
   obtain ⟨nb,no,rfl,hnl,d0⟩:=hNin.2 i hi2
   obtain ⟨j,hj,e8,hTi⟩:=HTk.out i hi2
   obtain ⟨x,hx⟩:∃ x,os.getD i []=x:=⟨_,rfl⟩
   rw [hx] at d0 e8 hTi
   have HAs:Hid (_):=HA8.out X0 x (HI.out X0 HB.out)
   rw [e8] at HAs
   have hsj:=HSh.out j
   have hji:(j:Int)<(ps.length:Int):=by omega
   clear e8 hx hNin
   go_wp2_with fail
   refine Calls.mono HAs.out ?_
   rintro e w3 ⟨rfl,hb3⟩
   have hB3:Below D w w3:=HB.out.trans (hb3.mono hsX)
   have HB3:Hid (Below D w w3):=hB3
   have hN3:=za6 HN.out hb3
   have HN3:Hid (w3.ownsRow D 9 1 (.slice (some ⟨nb,no,none⟩) os.length nc) os.length (strV os)):=hN3
   have HO3:Hid (za9 w3 D (.slice ta i tc) xs):=HO.out.below hb3
   have HTl:Hid (∀ z∈xs,∀ g,(tvT z).ownBlock=some g→g<w3.heap.size):=fun z hz g e=>Nat.lt_of_lt_of_le ((HO.out.trees z hz).lt g e).2 hb3.size
   obtain ⟨b,off,rfl,hbl,_,ia,il,ic,fa,fl,fc,r1,_,hii,_⟩:=(HI.out w3 hB3).2 j hj
   obtain ⟨_,na',nc',e0,hNin⟩:=zaC hN3
   injection e0 with e1 _ e3
   subst e1
   subst e3
   obtain ⟨ims,hp⟩:∃ p,(ps.getD j pk0).2.1=p:=⟨_,rfl⟩
   rw [hp] at hii hTi hsj
   obtain rfl:ims.length=il:=hii.1
   have HNm:Hid (_):=zlx (some ⟨nb,no,none⟩) os.length nc os ia ims.length ic ims w3 hNin hii (by omega) hsj
   have hnn:=zi0 os ims os.length
   have HTi:Hid (_):=hTi
   generalize zaR os ims os.length=ns at HNm HTi hnn
   have hs3:D≤w3.heap.size:=by have:=hb3.size;omega
   clear hb3 hB3 hN3 hii hNin hTi hp HAs HN HO
   go_wp2_with fail
   refine Calls.mono HNm.out ?_
   rintro e w4 ⟨v4,rfl,ho4,hb4⟩
   obtain ⟨va,vc,rfl⟩:=zb3 ho4
   have hs4:D≤w4.heap.size:=by have:=hb4.size;omega
   have hN4:=za6 HN3.out hb4
   obtain ⟨v',Y,hr,ho,hg⟩:=zop (HO3.out.below hb4) ((x,ns,0,0,0,0),va,vc) (zaI ho4 (by omega)) hs4 (by omega)
   have HN5:Hid (Y.ownsRow D 9 1 (.slice (some ⟨nb,no,none⟩) os.length nc) os.length (strV os)):=hN4.kept hg (zbI hN4 (HO3.out.below hb4).row (by decide))
   obtain ⟨ta',tc',rfl⟩:=zb3 ho.row
   have hlen:(xs++[(((x,ns,0,0,0,0),va,vc):TV)]).length=i+1:=by simp [hxl]
   have HX2:Hid ((xs++[(((x,ns,0,0,0,0),va,vc):TV)]).map (·.1)=(List.range (i+1)).map T):=by exact (by rw [List.map_append,HX.out,List.range_succ,List.map_append,List.map_cons,List.map_nil,List.map_cons,List.map_nil,HTi.out]:(xs++[(((x,ns,0,0,0,0),va,vc):TV)]).map (·.1)=(List.range (i+1)).map T)
   have HA2:Hid (zao ((xs++[(((x,ns,0,0,0,0),va,vc):TV)]).map tvT)):=by exact (by
    rw [List.map_append]
    refine HAp.out.snoc (fun v hv=>?_)
    obtain ⟨z,hz,rfl⟩:=List.mem_map.1 hv
    rcases hvb:(tvT z).ownBlock with _ | g
    ·
     exact Or.inl rfl
    ·
     refine Or.inr (fun e=>?_)
     have h1:=HTl.out z hz g hvb
     have h2:=(ho4.lt g e.symm).1
     omega:zao ((xs++[(((x,ns,0,0,0,0),va,vc):TV)]).map tvT))
   have HB5:Hid (Below D w Y):=(HB3.out.trans (hb4.mono hs3)).grown hg hs4 (fun q e=>((HO3.out.below hb4).row.lt q e).1)
   rw [hlen] at hr ho
   have HO5:Hid (za9 Y D (.slice ta' (i+1) tc') (xs++[(((x,ns,0,0,0,0),va,vc):TV)])):=ho
   simp only [tvT] at hr
   clear ho hg hs4 hN4 hb4 ho4 HTl HO3 HN3 HB3 HNm
   go_wp2_with (at_builtin;refine za0 rfl _ _ 27 rfl _ _ _ rfl rfl hr ?_;clear hr)
   go_roundw
   case rel=>exact ⟨i+1,_,ta',tc',rfl,by go_num,by omega,hlen,HX2,HO5,HA2,HN5,HB5⟩
   case measure=>simp [intOf];omega
  ·
   have HE:Hid (xs.map (·.1)=R):=by exact (by rw [HTs.out,HX.out,show i=os.length by omega]:xs.map (·.1)=R)
   go_wp2
   go_ret
   exact ⟨_,rfl,xs,HE.out,HO.out,HAp.out,HB.out⟩
set_option maxHeartbeats 1000000 in
set_option maxRecDepth 100000 in
theorem zcI (n:Int) (w:World) (ht:zcB w) (h0:-9223372036854775808≤n) (h1:n≤9223372036854775807) :
 Calls Tryz.prog 49 #[.int .i64 n] w fun e w'=>e=.returned (.string ⟨(zaX n).toArray⟩)∧Below w.heap.size w w':=by
 have HF1:Hid (Calls Tryz.prog 82 #[.int .i64 n,.int .i64 10] w fun e w'=>e=.returned (.string ⟨(intL n).toArray⟩)∧Below w.heap.size w w'):=by
  refine (Tryz.strconv_FormatInt_10 n (by omega) (by omega) w ht).mono ?_
  rintro e w' ⟨rfl,k,os,rfl⟩
  exact ⟨by rw [zmw],Lib.below_grow _ w (Nat.le_refl _) k os⟩
 have HT:Hid (zaX n=115 :: 116 :: 97 :: 114 :: 116 :: 32 :: intL n):=rfl
 have hcat:=zbU
 have hi:=zfz h0 h1
 have hd6:(⟨#[115,116,97,114,116,32]⟩:ByteArray)=⟨([115,116,97,114,116,32]:List UInt8).toArray⟩:=rfl
 rw [HT.out]
 clear ht HT
 go_enter Tryz.func49,Tryz.ntmps49
 go_wp2_with fail
 refine Calls.mono HF1.out ?_
 rintro e w1 ⟨rfl,hb1⟩
 have HB1:Hid (Below w.heap.size w w1):=hb1
 clear hb1
 go_wp2
 go_ret
 exact ⟨rfl,HB1.out⟩
end Go.Proofs.YtdbljnddkbpanaaGreatDoor
