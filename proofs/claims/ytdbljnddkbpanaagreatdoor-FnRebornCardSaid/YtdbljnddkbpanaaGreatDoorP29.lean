/-
  Parts of one proof, one behind the other: Draw8N.
-/
import Derived.Test.YtdbljnddkbpanaaGreatDoorP28
namespace Go.Proofs.YtdbljnddkbpanaaGreatDoor
open Go.RowKit
theorem znv {ims:List (List UInt8)} (h:∀ t∈ims,t.length≤9) (i:Nat):(ims.getD i []).length≤1048576:=by
 rw [List.getD_eq_getElem?_getD]
 cases hj:ims[i]? with
 | none=>simp
 | some t=>exact Nat.le_trans (h t (List.mem_of_getElem? hj)) (by omega)
theorem xs8_fn {xs:List FV} (h:ze7 xs) (j:Nat):zjs ((xs.map (·.1)).getD j fn0):=by
 rw [List.getD_eq_getElem?_getD,List.getElem?_map]
 cases hj:xs[j]? with
 | none=>exact ⟨by decide,⟨by decide,by decide⟩,by decide,fun n hn=>by cases hn⟩
 | some t=>exact h t (List.mem_of_getElem? hj)
theorem znW {xs:List FV} (h:ze7 xs):zgc (xs.map (·.1)):=fun j =>
 have hs:=xs8_fn h j
 ⟨Nat.le_trans hs.1 (by omega),Nat.le_trans hs.2.2.1 (by omega),hs.2.2.2.short⟩
theorem xs8_int {xs:List FV} (h:ze7 xs):IntF (xs.map (·.1)):=fun j =>
 have hs:=xs8_fn h j
 ⟨⟨by have:=hs.2.1;omega,by have:=hs.2.1;omega⟩,hs.2.2.2.int⟩
theorem znX {xs:List FV} {x:FV} (h:ze7 xs) (hx:zjs x.1):ze7 (xs.set 0 x):=fun t ht=>(List.mem_or_eq_of_mem_set ht).elim (h t) (fun e=>by rw [e];exact hx)
theorem first8 {xs:List FV} (h:1≤xs.length):xs.getD 0 fv0∈xs:=by
 cases xs with
 | nil=>simp at h
 | cons z r=>simp
section
variable {X Y w:World} {B:Nat} {a:Option Addr} {len cap g lc:Nat} {ys:List PV}
theorem Q8.fns (h:Q8 X w B a len cap g lc ys) (hA:A8 ys) {j:Nat} (hj:j<ys.length) {xs:List FV} (hg:X.grownBy Y (pvF (ys.getD j pv0)).ownBlock) (hf:zaV Y w.heap.size (pvF { ys.getD j pv0 with xs:=xs }) xs) (hl:xs.length=(ys.getD j pv0).xs.length) (hs:ze7 xs):Q8 Y w B a len cap g lc (ys.set j { ys.getD j pv0 with xs:=xs }):=by
 have hy:=h.at hj
 obtain ⟨hc,hgw⟩:=h.keep hg (fun k e=>(hy.fo.row.lt k e).1)
 have hll:(ys.set j { ys.getD j pv0 with xs:=xs }).length=ys.length:=by simp
 refine ⟨by rw [hll,←pvsV_xs ys j xs hl];exact h.row.kept hg (zak h.row hy.fo.row (by decide)),fun z hz=>?_,hc,hgw,h.br,by rw [hll];exact h.n⟩
 obtain ⟨i,hi,rfl⟩:=List.mem_iff_getElem.1 hz
 rw [List.getElem_set]
 rw [hll] at hi
 split
 ·
  exact ⟨hy.im.kept hg (zak hy.im hy.fo.row (by decide)),hf,hs,by show 1≤xs.length∧xs.length≤3;rw [hl];exact hy.n,hy.nm,hy.is⟩
 ·
  rename_i hij
  have hz2:=h.each ys[i] (List.getElem_mem hi)
  have e1:ys.getD i pv0=ys[i]:=by simp [List.getD,hi]
  have hap:=hA.ap i j hi hj (fun e=>hij e.symm)
  rw [e1] at hap
  exact hz2.kept hg (zak hz2.im hy.fo.row (by decide)) (Or.inr hap) (fun x hx=>zak (hz2.fo.trees x hx) hy.fo.row (by decide))
theorem Q8.fn0 (h:Q8 X w B a len cap g lc ys) {j:Nat} (hj:j<ys.length):∃ gF,(ys.getD j pv0).fa=some ⟨gF,0,none⟩:=by
 have hy:=h.at hj
 obtain ⟨gF,c,e⟩:=zaw hy.fo.row (by have:=hy.n;omega)
 unfold pvF at e
 injection e with e
 exact ⟨gF,e⟩
theorem Q8.args (h:Q8 X w B a len cap g lc ys) (hA:A8 ys) {j:Nat} (hj:j<ys.length) {gF:Nat} (hF:(ys.getD j pv0).fa=some ⟨gF,0,none⟩) (y:Int) (hy0:-10≤y∧y≤10):∃ ys',ys'.length=ys.length∧Q8 (X.setCell ⟨gF,1,none⟩ (.int .i64 y)) w B a len cap g lc ys':=by
 have hy:=h.at hj
 have hb:(pvF (ys.getD j pv0)).ownBlock=some gF:=by unfold pvF;rw [hF];rfl
 have hfo:=hy.fo
 have hF2:pvF (ys.getD j pv0)=.slice (some ⟨gF,0,none⟩) (ys.getD j pv0).xs.length (ys.getD j pv0).fc:=by unfold pvF;rw [hF]
 rw [hF2] at hfo
 obtain ⟨hr,hg⟩:=hfo.row.stored 1 (.int .i64 y)
 have hn:=hy.n
 have hsm:=hy.sm
 refine ⟨_,?_,h.fns hA hj (xs:=(ys.getD j pv0).xs.set 0 ((((ys.getD j pv0).xs.getD 0 fv0).1.1,y,((ys.getD j pv0).xs.getD 0 fv0).1.2.2),((ys.getD j pv0).xs.getD 0 fv0).2)) (by rw [hb];exact hg) ?_ (by simp) ?_⟩
 ·
  simp
 ·
  unfold pvF
  simp only [hF]
  revert hfo hr hn
  generalize (ys.getD j pv0).xs=xs
  intro hfo hr hn
  obtain ⟨z,r,rfl⟩:∃ z r,xs=z :: r:=by cases xs with | nil=>simp at hn | cons z r=>exact ⟨z,r,rfl⟩
  refine ⟨hr,fun x hx=>?_⟩
  rcases List.mem_cons.1 hx with rfl | hx
  ·
   exact (hfo.trees z (by simp)).kept hg (zak (hfo.trees z (by simp)) hfo.row (by decide))
  ·
   exact (hfo.trees x (by simp [hx])).kept hg (zak (hfo.trees x (by simp [hx])) hfo.row (by decide))
 ·
  have hz:=hsm _ (first8 hn.1)
  exact znX hsm ⟨hz.1,hy0,hz.2.2⟩
theorem Q8.tree (h:Q8 X w B a len cap g lc ys) (hA:A8 ys) {j:Nat} (hj:j<ys.length) {gF:Nat} (hF:(ys.getD j pv0).fa=some ⟨gF,0,none⟩) (ta:Option Addr) (tc:Nat) (t:List Nd) (ho:X.ownsRow w.heap.size 103 4 (.slice ta t.length tc) t.length (zab t)) (ht:t.length≤100) (hts:zbl t):∃ ys',ys'.length=ys.length∧Q8 (X.setCell ⟨gF,2,none⟩ (.slice ta t.length tc)) w B a len cap g lc ys':=by
 have hy:=h.at hj
 have hb:(pvF (ys.getD j pv0)).ownBlock=some gF:=by unfold pvF;rw [hF];rfl
 have hfo:=hy.fo
 have hF2:pvF (ys.getD j pv0)=.slice (some ⟨gF,0,none⟩) (ys.getD j pv0).xs.length (ys.getD j pv0).fc:=by unfold pvF;rw [hF]
 rw [hF2] at hfo
 obtain ⟨hr,hg⟩:=hfo.row.stored 2 (.slice ta t.length tc)
 have hn:=hy.n
 have hsm:=hy.sm
 refine ⟨_,?_,h.fns hA hj (xs:=(ys.getD j pv0).xs.set 0 ((((ys.getD j pv0).xs.getD 0 fv0).1.1,((ys.getD j pv0).xs.getD 0 fv0).1.2.1,t),ta,tc)) (by rw [hb];exact hg) ?_ (by simp) ?_⟩
 ·
  simp
 ·
  unfold pvF
  simp only [hF]
  revert hfo hr hn
  generalize (ys.getD j pv0).xs=xs
  intro hfo hr hn
  obtain ⟨z,r,rfl⟩:∃ z r,xs=z :: r:=by cases xs with | nil=>simp at hn | cons z r=>exact ⟨z,r,rfl⟩
  refine ⟨hr,fun x hx=>?_⟩
  rcases List.mem_cons.1 hx with rfl | hx
  ·
   exact ho.kept hg (zak ho hfo.row (by decide))
  ·
   exact (hfo.trees x (by simp [hx])).kept hg (zak (hfo.trees x (by simp [hx])) hfo.row (by decide))
 ·
  have hz:=hsm _ (first8 hn.1)
  exact znX hsm ⟨hz.1,hz.2.1,ht,hts⟩
theorem zmi {base:Nat} (hrow:X.ownsRow base 75 3 (.slice (some ⟨g,0,none⟩) ys.length lc) ys.length (pvsV ys)) (heach:∀ y∈ys,Y8 X base y) (hn8:1≤ys.length∧ys.length≤4):zal X (some ⟨g,0,none⟩) ys.length lc (ys.map pvP):=by
 have hcap:ys.length≤lc:=by
  rcases hrow.2 with ⟨e,_⟩ | ⟨g',cap',cur,e,_,_,hc,_⟩
  ·
   cases e
  ·
   injection e with _ _ e3;rw [e3];exact hc
 refine ⟨by simp,(fun e=>(by cases e)),hcap,by omega,fun j hj=>?_⟩
 obtain ⟨v0,v1,v2⟩:=ziJ ys j hj
 have hc:=fun k (hk:k<ys.length*3)=>World.ownsRow.cellAt hrow k hk
 have hy:=heach (ys.getD j pv0) (by simp [List.getD,hj])
 obtain ⟨ai,ci,af,cf,e1,e2,h3,h4,hti,hfi⟩:=zoC hy.im hy.fo rfl
 have hn:=hy.n
 have his:=hy.is
 have hnm:=hy.nm
 rw [zcX ys j]
 refine ⟨g,0,rfl,(hrow.lt g rfl).2,?_,ai,(ys.getD j pv0).ims.length,ci,af,((ys.getD j pv0).xs.map (fun x:FV=>x.1)).length,cf,?_,?_,⟨hti,hfi,h3,h4,xs8_int hy.sm,by omega,by rw [List.length_map];omega,by show (ys.getD j pv0).nm.length≤1048576;omega,fun i=>znv his.2 i,znW hy.sm⟩⟩
 ·
  rw [Nat.zero_add,hc _ (by omega),v0];rfl
 ·
  rw [Nat.zero_add,hc _ (by omega),v1,e1]
 ·
  rw [Nat.zero_add,hc _ (by omega),v2,e2]
theorem zal.take {w:World} {a:Option Addr} {len cap n:Nat} {ps:List Pk} (h:zal w a len cap ps) (hn:n≤len):zal w a n cap (ps.take n):=by
 have hl:=h.hlen
 have hc:=h.hcap
 have hs:=h.small
 refine ⟨by simp;omega,h.nil,by omega,by omega,fun j hj=>?_⟩
 have e:(ps.take n).getD j pk0=ps.getD j pk0:=by simp [List.getD,hj]
 rw [e]
 exact h.each j (by omega)
theorem Q8.ok (h:Q8 X w B a len cap g lc ys):zal X (some ⟨g,0,none⟩) ys.length lc (ys.map pvP):=zmi h.row h.each h.n
def zdM (X Y:World) (b:Nat):Prop:=X.heap.size≤Y.heap.size∧∀ k,b≤k→k<X.heap.size→Y.heap[k]?=X.heap[k]?
theorem zeZ {X Y:World} {b base e size n:Nat} {v:Value} {xs:List Value} (h:X.ownsRow base e size v n xs) (hb:b≤base) (ha:zdM X Y b):Y.ownsRow base e size v n xs:=by
 refine ⟨h.1,?_⟩
 rcases h.2 with hn | ⟨g,cap,cur,rfl,hbg,hgg,rest⟩
 ·
  exact .inl hn
 ·
  refine .inr ⟨g,cap,cur,rfl,hbg,?_,rest⟩
  rw [ha.2 g (by omega) (Array.getElem?_eq_some_iff.1 hgg).1]
  exact hgg
theorem zdM.of_grown {X Y:World} {b B:Nat} (hg:X.grownBy Y (some B)) (hB:B<b):zdM X Y b:=⟨hg.size,fun k hk hkl=>hg.block k hkl (fun e=>by injection e with e;omega)⟩
theorem zdM.refl (X:World) (b:Nat):zdM X X b:=⟨Nat.le_refl _,fun _ _ _=>rfl⟩
theorem Q8.okA (h:Q8 X w B a len cap g lc ys) (ha:zdM X Y w.heap.size):zal Y (some ⟨g,0,none⟩) ys.length lc (ys.map pvP) :=
 zmi (zeZ h.row (Nat.le_refl _) ha) (fun y hy=>⟨zeZ (h.each y hy).im (Nat.le_refl _) ha,⟨zeZ (h.each y hy).fo.row (Nat.le_refl _) ha,fun x hx=>zeZ ((h.each y hy).fo.trees x hx) (Nat.le_refl _) ha⟩,(h.each y hy).sm,(h.each y hy).n,(h.each y hy).nm,(h.each y hy).is⟩) h.n
def L8 (w wx:World) (B:Nat) (a:Option Addr) (len cap:Nat) (v:Value):Prop :=
 ∃ la n lc ps,v=.slice la n lc∧(1≤n∧n≤4∧∀ b off,la=some ⟨b,off,none⟩→w.heap.size≤b)∧(∀ Y,zdM wx Y w.heap.size→zal Y la n lc ps)∧Cur wx B a len cap∧w.grownBy wx (some B)
theorem Q8.l8 (h:Q8 X w B a len cap g lc ys):L8 w X B a len cap (.slice (some ⟨g,0,none⟩) ys.length lc):=⟨_,_,_,_,rfl,⟨h.n.1,h.n.2,fun b off e=>by injection e with e;injection e with e _ _;have h1:=(h.row.lt g rfl).1;omega⟩,fun _ ha=>h.okA ha,h.cur,h.g⟩
theorem Q8.l8cut (h:Q8 X w B a len cap g lc ys) {n:Nat} (hn:n≤ys.length) (hn1:1≤n):L8 w X B a len cap (.slice (some ⟨g,0,none⟩) n lc):=⟨_,_,_,_,rfl,⟨hn1,Nat.le_trans hn h.n.2,fun b off e=>by injection e with e;injection e with e _ _;have h1:=(h.row.lt g rfl).1;omega⟩,fun _ ha=>(h.okA ha).take hn,h.cur,h.g⟩
end
end Go.Proofs.YtdbljnddkbpanaaGreatDoor
