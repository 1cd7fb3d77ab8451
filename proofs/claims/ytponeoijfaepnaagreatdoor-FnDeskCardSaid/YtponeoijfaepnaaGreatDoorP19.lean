/-
  Parts of one proof, one behind the other: DrawTr, Math6D, DrawTr2, DrawTr3, DrawTr4.
-/
import Derived.Test.YtponeoijfaepnaaGreatDoorP18
namespace Go.Proofs.YtponeoijfaepnaaGreatDoor
open Go.RowKit
set_option maxHeartbeats 8000000
set_option maxRecDepth 100000
def zc9 (n:Nd):Prop:=IntN n∧n.2.2.1.length≤9∧n.2.2.2.length≤9
def zbp (ns:List Nd):Prop:=∀ n∈ns,zc9 n
theorem zih {w:World} {base e size n:Nat} {v:Value} {xs:List Value} (h:w.ownsRow base e size v n xs) (h1:∀ u∈xs,u.oneCell'=true):Src w v n size xs:=by
 refine ⟨h.1,h1,?_⟩;rcases zaR h with ⟨rfl,rfl,_⟩ | ⟨g,cp,rfl⟩
 ·exact Or.inl ⟨rfl,rfl⟩
 ·
  refine Or.inr ⟨⟨g,0,none⟩,cp,rfl,fun j u hu=>?_⟩;have e:(⟨g,0,none⟩:Addr).add j=⟨g,j,none⟩:=by unfold Addr.add;split<;>simp_all
  have hj:j<xs.length:=by
   rcases Nat.lt_or_ge j xs.length with h | h
   ·exact h
   ·rw [List.getElem?_eq_none h] at hu;cases hu
  rw [e,h.cellAt j (by rw [←h.1];exact hj)];exact hu
theorem lit1 (w W:World) (n:Nd) (hb:w.heap.size≤W.heap.size) :
 (W.alloc (.cells #[.int .i64 n.1,.int .i64 n.2.1,.string ⟨n.2.2.1.toArray⟩,.string ⟨n.2.2.2.toArray⟩] 104)).ownsRow w.heap.size 104 4 (.slice (some ⟨W.heap.size,0,none⟩) 1 1) 1 (zah [n]):=by
 have:=World.ownsRow_lit (base:=w.heap.size) (e:=104) (size:=4) W #[.int .i64 n.1,.int .i64 n.2.1,.string ⟨n.2.2.1.toArray⟩,.string ⟨n.2.2.2.toArray⟩] 1 hb (by decide) rfl
 simpa [zah] using this
theorem zlR {w:World} {base e size n:Nat} {v:Value} {xs:List Value} (h:w.ownsRow base e size v n xs):∀ q,v.ownBlock=some q→base≤q:=fun q e=>(h.lt q e).1
def BoxN (W:World) (D:Nat) (n:Nd):Prop :=
 W.cell? ⟨D,0,none⟩=some (.int .i64 n.1)∧W.cell? ⟨D,1,none⟩=some (.int .i64 n.2.1)∧W.cell? ⟨D,2,none⟩=some (.string ⟨n.2.2.1.toArray⟩)∧W.cell? ⟨D,3,none⟩=some (.string ⟨n.2.2.2.toArray⟩)∧∀ j,W.frozen? ⟨D,j,none⟩=false
theorem BoxN.lt {W:World} {D:Nat} {n:Nd} (h:BoxN W D n):D<W.heap.size:=World.block_lt_of_cell? _ ⟨D,0,none⟩ h.1
theorem BoxN.kept {W W':World} {D B:Nat} {n:Nd} (h:BoxN W D n) (hg:W.grownBy W' (some B)) (hne:D≠B):BoxN W' D n:=by
 have hb:W'.heap[D]?=W.heap[D]?:=hg.block D h.lt (by simp;omega);obtain ⟨h0,h1,h2,h3,hf⟩:=h;exact ⟨(World.cell?_of_block (a:=⟨D,0,none⟩) hb).trans h0,(World.cell?_of_block (a:=⟨D,1,none⟩) hb).trans h1,(World.cell?_of_block (a:=⟨D,2,none⟩) hb).trans h2,(World.cell?_of_block (a:=⟨D,3,none⟩) hb).trans h3,fun j=>(World.frozen?_of_block (a:=⟨D,j,none⟩) hb).trans (hf j)⟩
theorem box_kind {W:World} {D:Nat} {n:Nd} (h:BoxN W D n) (k:Int):BoxN (W.setCell ⟨D,0,none⟩ (.int .i64 k)) D (k,n.2):=by
 obtain ⟨h0,h1,h2,h3,hf⟩:=h;exact ⟨World.cell?_setCell_same _ _ _ h0,(World.cell?_setCell_other _ _ _ _ (by simp)).trans h1,(World.cell?_setCell_other _ _ _ _ (by simp)).trans h2,(World.cell?_setCell_other _ _ _ _ (by simp)).trans h3,fun j=>by simpa using hf j⟩
theorem zfy (W:World) (D:Nat) (a b c d:Value):W.grownBy ((((W.setCell ⟨D,0,none⟩ a).setCell ⟨D,1,none⟩ b).setCell ⟨D,2,none⟩ c).setCell ⟨D,3,none⟩ d) (some D) :=
 (((zau _ _ _ _).trans (zau _ _ _ _)).trans (zau _ _ _ _)).trans (zau _ _ _ _)
theorem zjc (k:Int) (h0:-9223372036854775808≤k) (h1:k≤9223372036854775807):zc9 ((k,0,[],[]):Nd):=⟨⟨⟨h0,h1⟩,⟨by simp,by simp⟩⟩,by simp,by simp⟩
theorem kids0 (k:Int):zbu ((k,0,[],[]):Nd)≤3:=by unfold zbu;simp only;split<;>(try split)<;>(try split)<;>omega
theorem zer {v:Value} {B:Nat} (hd:∀ q,v.ownBlock=some q→q=B→False):v.ownBlock=none∨v.ownBlock≠some B:=by
 rcases hv:v.ownBlock with _ | q
 ·exact Or.inl rfl
 ·exact Or.inr (fun e=>hd q hv (by injection e))
theorem put4c {W:World} {D:Nat} {u0 u1 u2 u3:Value} (a b c d:Value) (r0:W.cell? ⟨D,0,none⟩=some u0) (r1:W.cell? ⟨D,1,none⟩=some u1) (r2:W.cell? ⟨D,2,none⟩=some u2) (r3:W.cell? ⟨D,3,none⟩=some u3) :
 ((((W.setCell ⟨D,0,none⟩ a).setCell ⟨D,1,none⟩ b).setCell ⟨D,2,none⟩ c).setCell ⟨D,3,none⟩ d).cell? ⟨D,0,none⟩=some a ∧
 ((((W.setCell ⟨D,0,none⟩ a).setCell ⟨D,1,none⟩ b).setCell ⟨D,2,none⟩ c).setCell ⟨D,3,none⟩ d).cell? ⟨D,1,none⟩=some b ∧
 ((((W.setCell ⟨D,0,none⟩ a).setCell ⟨D,1,none⟩ b).setCell ⟨D,2,none⟩ c).setCell ⟨D,3,none⟩ d).cell? ⟨D,2,none⟩=some c ∧
 ((((W.setCell ⟨D,0,none⟩ a).setCell ⟨D,1,none⟩ b).setCell ⟨D,2,none⟩ c).setCell ⟨D,3,none⟩ d).cell? ⟨D,3,none⟩=some d:=by
 refine ⟨?_,?_,?_,?_⟩
 ·exact (World.cell?_setCell_other _ _ _ _ (by simp)).trans ((World.cell?_setCell_other _ _ _ _ (by simp)).trans ((World.cell?_setCell_other _ _ _ _ (by simp)).trans (World.cell?_setCell_same _ _ _ r0)))
 ·exact (World.cell?_setCell_other _ _ _ _ (by simp)).trans ((World.cell?_setCell_other _ _ _ _ (by simp)).trans (World.cell?_setCell_same _ _ _ ((World.cell?_setCell_other _ _ _ _ (by simp)).trans r1)))
 ·exact (World.cell?_setCell_other _ _ _ _ (by simp)).trans (World.cell?_setCell_same _ _ _ ((World.cell?_setCell_other _ _ _ _ (by simp)).trans ((World.cell?_setCell_other _ _ _ _ (by simp)).trans r2)))
 ·exact World.cell?_setCell_same _ _ _ ((World.cell?_setCell_other _ _ _ _ (by simp)).trans ((World.cell?_setCell_other _ _ _ _ (by simp)).trans ((World.cell?_setCell_other _ _ _ _ (by simp)).trans r3)))
theorem box_all {W:World} {D:Nat} {n:Nd} (h:BoxN W D n) (m:Nd):BoxN ((((W.setCell ⟨D,0,none⟩ (.int .i64 m.1)).setCell ⟨D,1,none⟩ (.int .i64 m.2.1)).setCell ⟨D,2,none⟩ (.string ⟨m.2.2.1.toArray⟩)).setCell ⟨D,3,none⟩ (.string ⟨m.2.2.2.toArray⟩)) D m:=by
 obtain ⟨h0,h1,h2,h3,hf⟩:=h;obtain ⟨g0,g1,g2,g3⟩:=put4c (.int .i64 m.1) (.int .i64 m.2.1) (.string ⟨m.2.2.1.toArray⟩) (.string ⟨m.2.2.2.toArray⟩) h0 h1 h2 h3;exact ⟨g0,g1,g2,g3,fun j=>by simpa using hf j⟩
theorem zp3:∀ (d:Nat) (w:World) (B:Nat) (a:Option Addr) (len cap:Nat) (args:Int) (ca:Option Addr) (cl cc:Nat) (calls:List Nd),d≤100→0≤args→args≤1000→Cur w B a len cap→zay w ca cl calls→cl≤1000→(∀ j,zc9 (calls.getD j nd0))→(∀ j,zbu (calls.getD j nd0)≤3)→(∀ b off,ca=some ⟨b,off,none⟩→b≠B) →
 Calls Tryz.prog 127 #[.pointer (some ⟨B,0,none⟩),.int .i64 d,.int .i64 args,.slice ca cl cc] w fun e w'=>∃ v ns,e=.returned v∧w'.ownsRow w.heap.size 104 4 v ns.length (zah ns)∧ns.length≤60∧zbp ns∧Cur w' B a len cap∧w.grownBy w' (some B):=by
 intro d
 induction d with
 | zero =>
  intro w B a len cap args ca cl cc calls hd ha0 ha1 hc hin hcl hsm hkd hne;have hg:w.grownBy w (some B):=World.grownBy.refl _ _;clear hin hsm hkd hne
  go_enter Tryz.func127,Tryz.ntmps127
  by_cases hap:0<args
  ·
   go_wp2_with fail
   refine (zbO _ B a len cap 2 (by omega) (by omega) hc).mono ?_;rintro e wo ⟨bo,rfl,hco,hgo⟩;have hgp:=hg.trans hgo;rcases bo with _ | _
   ·
    go_wp2_with fail
    refine (zgf _ B a len cap hco).mono ?_;rintro e wv ⟨xv,rfl,hv0,hv1,hcv,hgv⟩;have hgw:=hgp.trans hgv;have hown:=lit1 w wv ((1,xv,[],[]):Nd) hgw.size;have hgz:=hgw.trans (World.grownBy_alloc wv (.cells #[.int .i64 1,.int .i64 xv,.string ⟨#[]⟩,.string ⟨#[]⟩] 104) (some B));have hcz:=hcv.kept (World.grownBy_alloc wv (.cells #[.int .i64 1,.int .i64 xv,.string ⟨#[]⟩,.string ⟨#[]⟩] 104) none) (by simp);simp only at hown;go_wp2;go_ret;exact ⟨_,[((1,xv,[],[]):Nd)],rfl,hown,by simp,by intro m hm;rw [List.mem_singleton] at hm;subst hm;exact ⟨⟨⟨by simp,by simp⟩,⟨by simp only;omega,by simp only;omega⟩⟩,by simp,by simp⟩,hcz,hgz⟩
   ·
    go_wp2_with fail
    refine (zad _ B a len cap args (by omega) (by omega) hco).mono ?_;rintro e wv ⟨xv,rfl,hv0,hv1,hcv,hgv⟩;have hgw:=hgp.trans hgv;have hown:=lit1 w wv ((2,xv,[],[]):Nd) hgw.size;have hgz:=hgw.trans (World.grownBy_alloc wv (.cells #[.int .i64 2,.int .i64 xv,.string ⟨#[]⟩,.string ⟨#[]⟩] 104) (some B));have hcz:=hcv.kept (World.grownBy_alloc wv (.cells #[.int .i64 2,.int .i64 xv,.string ⟨#[]⟩,.string ⟨#[]⟩] 104) none) (by simp);simp only at hown;go_wp2;go_ret;exact ⟨_,[((2,xv,[],[]):Nd)],rfl,hown,by simp,by intro m hm;rw [List.mem_singleton] at hm;subst hm;exact ⟨⟨⟨by simp,by simp⟩,⟨by simp only;omega,by simp only;omega⟩⟩,by simp,by simp⟩,hcz,hgz⟩
  ·
   go_wp2_with fail
   refine (zgf _ B a len cap hc).mono ?_;rintro e wv ⟨xv,rfl,hv0,hv1,hcv,hgv⟩;have hgw:=hg.trans hgv;have hown:=lit1 w wv ((1,xv,[],[]):Nd) hgw.size;have hgz:=hgw.trans (World.grownBy_alloc wv (.cells #[.int .i64 1,.int .i64 xv,.string ⟨#[]⟩,.string ⟨#[]⟩] 104) (some B));have hcz:=hcv.kept (World.grownBy_alloc wv (.cells #[.int .i64 1,.int .i64 xv,.string ⟨#[]⟩,.string ⟨#[]⟩] 104) none) (by simp);simp only at hown;go_wp2;go_ret;exact ⟨_,[((1,xv,[],[]):Nd)],rfl,hown,by simp,by intro m hm;rw [List.mem_singleton] at hm;subst hm;exact ⟨⟨⟨by simp,by simp⟩,⟨by simp only;omega,by simp only;omega⟩⟩,by simp,by simp⟩,hcz,hgz⟩
 | succ d ih =>
  intro w B a len cap args ca cl cc calls hd ha0 ha1 hc hin hcl hsm hkd hne;have HIH:Hid (_):=ih;have HIN:Hid (zay w ca cl calls):=hin;have HSM:Hid (∀ j,zc9 (calls.getD j nd0)):=hsm;have HKD:Hid (∀ j,zbu (calls.getD j nd0)≤3):=hkd;have HNE:Hid (∀ b off,ca=some ⟨b,off,none⟩→b≠B):=hne;have hBw:=hc.lt;have hd0:((d+1:Nat):Int)≠0:=by omega
  have hd1:(((d+1:Nat):Int)==0)=false:=by rw [beq_eq_false_iff_ne];exact hd0
  clear ih hin hsm hkd hne
  go_enter Tryz.func127,Tryz.ntmps127
  go_wp2_with fail
  refine (zbO _ B a len cap 4 (by omega) (by omega) hc).mono ?_;rintro e w1 ⟨b1,rfl,hc1,hg1⟩;rcases b1 with _ | _
  rotate_left
  ·
   clear HIH HIN HSM HKD HNE;by_cases hap:0<args
   ·
    go_wp2_with fail
    refine (zbO _ B a len cap 2 (by omega) (by omega) hc1).mono ?_;rintro e wo ⟨bo,rfl,hco,hgo⟩;have hgp:=hg1.trans hgo;rcases bo with _ | _
    ·
     go_wp2_with fail
     refine (zgf _ B a len cap hco).mono ?_;rintro e wv ⟨xv,rfl,hv0,hv1,hcv,hgv⟩;have hgw:=hgp.trans hgv;have hown:=lit1 w wv ((1,xv,[],[]):Nd) hgw.size;have hgz:=hgw.trans (World.grownBy_alloc wv (.cells #[.int .i64 1,.int .i64 xv,.string ⟨#[]⟩,.string ⟨#[]⟩] 104) (some B));have hcz:=hcv.kept (World.grownBy_alloc wv (.cells #[.int .i64 1,.int .i64 xv,.string ⟨#[]⟩,.string ⟨#[]⟩] 104) none) (by simp);simp only at hown;go_wp2;go_ret;exact ⟨_,[((1,xv,[],[]):Nd)],rfl,hown,by simp,by intro m hm;rw [List.mem_singleton] at hm;subst hm;exact ⟨⟨⟨by simp,by simp⟩,⟨by simp only;omega,by simp only;omega⟩⟩,by simp,by simp⟩,hcz,hgz⟩
    ·
     go_wp2_with fail
     refine (zad _ B a len cap args (by omega) (by omega) hco).mono ?_;rintro e wv ⟨xv,rfl,hv0,hv1,hcv,hgv⟩;have hgw:=hgp.trans hgv;have hown:=lit1 w wv ((2,xv,[],[]):Nd) hgw.size;have hgz:=hgw.trans (World.grownBy_alloc wv (.cells #[.int .i64 2,.int .i64 xv,.string ⟨#[]⟩,.string ⟨#[]⟩] 104) (some B));have hcz:=hcv.kept (World.grownBy_alloc wv (.cells #[.int .i64 2,.int .i64 xv,.string ⟨#[]⟩,.string ⟨#[]⟩] 104) none) (by simp);simp only at hown;go_wp2;go_ret;exact ⟨_,[((2,xv,[],[]):Nd)],rfl,hown,by simp,by intro m hm;rw [List.mem_singleton] at hm;subst hm;exact ⟨⟨⟨by simp,by simp⟩,⟨by simp only;omega,by simp only;omega⟩⟩,by simp,by simp⟩,hcz,hgz⟩
   ·
    go_wp2_with fail
    refine (zgf _ B a len cap hc1).mono ?_;rintro e wv ⟨xv,rfl,hv0,hv1,hcv,hgv⟩;have hgw:=hg1.trans hgv;have hown:=lit1 w wv ((1,xv,[],[]):Nd) hgw.size;have hgz:=hgw.trans (World.grownBy_alloc wv (.cells #[.int .i64 1,.int .i64 xv,.string ⟨#[]⟩,.string ⟨#[]⟩] 104) (some B));have hcz:=hcv.kept (World.grownBy_alloc wv (.cells #[.int .i64 1,.int .i64 xv,.string ⟨#[]⟩,.string ⟨#[]⟩] 104) none) (by simp);simp only at hown;go_wp2;go_ret;exact ⟨_,[((1,xv,[],[]):Nd)],rfl,hown,by simp,by intro m hm;rw [List.mem_singleton] at hm;subst hm;exact ⟨⟨⟨by simp,by simp⟩,⟨by simp only;omega,by simp only;omega⟩⟩,by simp,by simp⟩,hcz,hgz⟩
  ·
   go_wp2_with fail
   refine (zad _ B a len cap 4 (by omega) (by omega) hc1).mono ?_;rintro e w2 ⟨x2,rfl,hx20,hx21,hc2,hg2⟩;have hG2:=hg1.trans hg2;have hB2:=hc2.lt;have hw2:=hG2.size;obtain ⟨i0,hi,hz0,hz1,hz2⟩:=info_parts ze5;clear hc1 hg1 hg2;go_wp2_with fail
   obtain ⟨X,hX⟩:∃ X,w2.alloc (.cells #[.int .i64 (3+x2),.int .i64 0,.string ⟨#[]⟩,.string ⟨#[]⟩] 104)=X:=⟨_,rfl⟩
   obtain ⟨D,hD⟩:∃ D,w2.heap.size=D:=⟨_,rfl⟩
   have hAX:X.heap[D]?=some (.cells #[.int .i64 (3+x2),.int .i64 0,.string ⟨#[]⟩,.string ⟨#[]⟩] 104):=by rw [←hX,←hD];exact heap_alloc_new w2 _
   have hcX:Cur X B a len cap:=by rw [←hX];exact hc2.kept (World.grownBy_alloc _ _ none) (by simp)
   have hGX:w.grownBy X (some B):=by rw [←hX];exact hG2.trans (World.grownBy_alloc _ _ (some B))
   have hBX:BoxN X D ((3+x2,0,[],[]):Nd):=⟨by simp [World.cell?,hAX],by simp [World.cell?,hAX],by simp [World.cell?,hAX],by simp [World.cell?,hAX],fun j=>by simp [World.frozen?,hAX]⟩;rw [hX,hD];rw [hD] at hB2 hw2;clear hX hD hAX hc2 hG2;refine (zbO X B a len cap 5 (by omega) (by omega) hcX).mono ?_;rintro e w3 ⟨b3,rfl,hc3,hg3⟩;have hG3:=hGX.trans hg3;have hB3:=hBX.kept hg3 (by omega);clear hcX hGX hBX hg3
   go_upto_if 39 with fail
   go_cut [] from 39 (fun wx=>Hid (∃ n:Nd,BoxN wx D n∧zc9 n∧zbu n≤3∧Cur wx B a len cap∧w.grownBy wx (some B)))
   case first =>
    rcases b3 with _ | _
    ·
     go_wp2_with fail
     go_meet
     case rel=>exact ⟨_,hB3,zjc _ (by omega) (by omega),kids0 _,hc3,hG3⟩
    ·
     obtain ⟨n0,n1,n2,n3,m⟩:=hB3;have e30:=m 0;go_wp2_with fail
     go_meet
     case rel=>exact ⟨((7,0,[],[]):Nd),box_kind (n:=((3+x2,0,[],[]):Nd)) ⟨n0,n1,n2,n3,m⟩ 7,zjc _ (by omega) (by omega),kids0 _,hc3.kept (zau _ _ _ _) (by simp;omega),hG3.andThen (zau _ _ _ _) (fun q e=>Or.inl (by simp at e;omega))⟩
   case rest =>
    clear hB3 hc3 hG3
    go_upto_region 9 with fail
    go_cut [48] from 43 (fun v wx=>∃ b,v=.bool b∧(b=true→(0:Int)<(cl:Int))∧Hid (∃ n:Nd,BoxN wx D n∧zc9 n∧zbu n≤3∧Cur wx B a len cap∧w.grownBy wx (some B)))
    case first =>
     by_cases hclp:(0:Int)<(cl:Int)
     ·
      obtain ⟨n,hBn,hsn,hkn,hcn,hGn⟩:=hcut.out;go_wp2_with fail
      refine (zbO _ B a len cap 4 (by omega) (by omega) hcn).mono ?_;rintro e w4 ⟨b4,rfl,hc4,hg4⟩;go_wp2_with fail
      go_meet
      case rel=>exact ⟨_,rfl,fun _=>hclp,n,hBn.kept hg4 (by omega),hsn,hkn,hc4,hGn.trans hg4⟩
     ·
      go_wp2_with fail
      go_meet
      case rel=>exact ⟨_,rfl,(fun h=>by cases h),hcut⟩
    case rest =>
     obtain ⟨b4,rfl,hbc,hcut⟩:=hcut
     go_upto_if 48 with fail
     go_cut [] from 49 (fun wx=>Hid (∃ n:Nd,BoxN wx D n∧zc9 n∧zbu n≤3∧Cur wx B a len cap∧w.grownBy wx (some B)))
     case first =>
      rcases b4 with _ | _
      ·
       go_wp2_with fail
       go_meet
       case rel=>exact hcut
      ·
       have hclp:=hbc rfl;obtain ⟨n4,hB4,hs4,hk4,hc4,hG4⟩:=hcut.out;go_wp2_with fail
       refine (zad _ B a len cap (cl:Int) (by omega) (by omega) hc4).mono ?_;rintro e w5 ⟨x5,rfl,h50,h51,hc5,hg5⟩;have hG5:=hG4.trans hg5;have hB5:=hB4.kept hg5 (by omega);obtain ⟨j5,rfl⟩:∃ j5:Nat,x5=(j5:Int):=Int.eq_ofNat_of_zero_le h50
       have hin5:zay w5 ca cl calls:=HIN.out.keep hG5.size (fun b off e hlt=>hG5.block b hlt (fun e2=>HNE.out b off e (by injection e2)));obtain ⟨cb,co,hca,hcbl,hcells⟩:=hin5.at (by omega);subst hca;obtain ⟨q0,q1,q2,q3⟩:=hcells j5 (by omega);have hsm5:=HSM.out j5;have hkd5:=HKD.out j5;obtain ⟨n5,hn5⟩:∃ n,calls.getD j5 nd0=n:=⟨_,rfl⟩
       rw [hn5] at q0 q1 q2 q3 hsm5 hkd5;obtain ⟨kd5,a5,p5,f5⟩:=n5;simp only at q0 q1 q2 q3;obtain ⟨n0,n1,n2,n3,m⟩:=hB5;have e50:=m 0;have e51:=m 1;have e52:=m 2;have e53:=m 3;clear hn5 hcells hin5 hg5 hc4 hG4 hB4 hcut;go_wp2_with fail
       go_meet
       case rel=>exact ⟨((kd5,a5,p5,f5):Nd),box_all ⟨n0,n1,n2,n3,m⟩ (kd5,a5,p5,f5),hsm5,hkd5,hc5.kept (zfy _ _ _ _ _ _) (by simp;omega),hG5.andThen (zfy _ _ _ _ _ _) (fun q e=>Or.inl (by simp at e;omega))⟩
     case rest =>
      obtain ⟨n,hBn,hsn,hkn,hcn,hGn⟩:=hcut.out;obtain ⟨kd,aa,p,f⟩:=n;obtain ⟨n0,n1,n2,n3,_⟩:=hBn;simp only at n0 n1 n2 n3;clear hcut;have HK:Hid (_):=fun W:World=>zlE ((kd,aa,p,f):Nd) W
      unfold za9 at HK;simp only at HK;obtain ⟨q,hq⟩:∃ q,zbu ((kd,aa,p,f):Nd)=q:=⟨_,rfl⟩
      rw [hq] at HK hkn;clear hq;have hownT:=lit1 w wc ((kd,aa,p,f):Nd) hGn.size;simp only at hownT;have hcT:=hcn.kept (World.grownBy_alloc wc (.cells #[.int .i64 kd,.int .i64 aa,.string ⟨p.toArray⟩,.string ⟨f.toArray⟩] 104) none) (by simp);have hGT:=hGn.trans (World.grownBy_alloc wc (.cells #[.int .i64 kd,.int .i64 aa,.string ⟨p.toArray⟩,.string ⟨f.toArray⟩] 104) (some B));have HSO:Hid (∀ n∈[((kd,aa,p,f):Nd)],zc9 n):=by intro m hm;rw [List.mem_singleton] at hm;subst hm;exact hsn
      have hDl:D<wc.heap.size:=World.block_lt_of_cell? _ ⟨D,0,none⟩ n0;go_wp2_with fail
      refine Calls.mono (HK.out _) ?_;rintro e wk ⟨rfl,hbk⟩;have hownk:=za5 hownT hbk;have hck:Cur wk B a len cap:=hcT.below hbk;have hGk:w.grownBy wk (some B):=hGT.andThen (Below.by hbk) (by simp);clear hownT hcT hGT hbk HK hGn hcn n0 n1 n2 n3;go_wp2
      go_loopw [11,12] (fun v kv wr=>∃ (ns:List Nd) (r:Int),kv=.int .i64 r∧r≤3∧ns.length≤181∧(0≤r→(ns.length:Int)+60*r≤181)∧Hid (∀ n∈ns,zc9 n)∧Hid (wr.ownsRow w.heap.size 104 4 v ns.length (zah ns))∧Hid (Cur wr B a len cap)∧Hid (w.grownBy wr (some B))) (fun _ kv _=>(intOf kv).toNat)
      case atStart=>exact ⟨[((kd,aa,p,f):Nd)],q,rfl,hkn,by simp,(fun h=>by simp only [List.length_singleton];omega),HSO,hownk,hck,hGk⟩
      case round =>
       obtain ⟨ns,r,rfl,hr3,hl1,hl2,HSN,HV,hcr,hGr⟩:=hrel;clear hownk hck hGk HSO;by_cases hr0:0<r
       ·
        have hin8:zay wr ca cl calls:=HIN.out.keep hGr.out.size (fun b off e hlt=>hGr.out.block b hlt (fun e2=>HNE.out b off e (by injection e2)));have hC8:Hid (_):=HIH.out wr B a len cap args ca cl cc calls (by omega) ha0 ha1 hcr.out hin8 hcl HSM.out HKD.out HNE.out;clear hin8;go_wp2_with fail
        refine Calls.mono hC8.out ?_;rintro e w8 ⟨v8,ns8,rfl,hown8,hl8,hs8,hc8,hg8⟩;have hvl:=zlR HV.out;have hV8:=HV.out.kept hg8 (zer (fun q e1 e2=>by have:=hvl q e1;omega));have hG8:=hGr.out.trans hg8;obtain ⟨v9,w9,hrun,hown9,hg9,_⟩:=zar (P:=Tryz.prog) w8 w.heap.size 102 102 104 i0 _ 4 48 Tryz.underlying102 hi hz0 hz1 hz2 rfl (by decide) _ _ _ hV8 v8 ns8.length (zah ns8) (zih hown8 (zcE _)) (by unfold maxLen;omega) (by omega) hG8.size;have hG9:Hid (w.grownBy w9 (some B)):=hG8.andThen hg9 (fun q e=>Or.inl (hvl q e));have hc9:Hid (Cur w9 B a len cap):=hc8.kept hg9 (fun q e=>by have:=hvl q e;omega);have HV9:Hid (w9.ownsRow w.heap.size 104 4 v9 (ns++ns8).length (zah (ns++ns8))):=by exact (by rw [zc3,List.length_append];exact hown9:w9.ownsRow w.heap.size 104 4 v9 (ns++ns8).length (zah (ns++ns8)))
        have HS9:Hid (∀ n∈ns++ns8,zc9 n):=fun m hm=>(List.mem_append.1 hm).elim (HSN.out m) (hs8 m)
        have hl9:(ns++ns8).length=ns.length+ns8.length:=List.length_append;clear hown9 hg9 hG8 hV8 hown8 hg8 hc8 hC8 hGr hcr HV HSN hs8 hvl
        go_wp2_with (at_builtin;refine za0 rfl (.tmp 63) (.tmp 69) 102 rfl _ _ _ rfl rfl hrun ?_;clear hrun)
        go_roundw
        case rel=>exact ⟨ns++ns8,r-1,by go_num,by omega,by rw [hl9];have:=hl2 (by omega);omega,(fun h=>by rw [hl9];have:=hl2 (by omega);omega),HS9,HV9,hc9,hG9⟩
        case measure=>simp [intOf];omega
       ·
        obtain ⟨_,av,cv,rfl,_⟩:=zcj HV.out;by_cases hbig:60<(ns.length:Int)
        ·have hownE:=(World.ownsRow_lit (base:=w.heap.size) (e:=104) (size:=4) wr #[] 0 hGr.out.size (by decide) rfl);have hcE:=hcr.out.kept (World.grownBy_alloc wr (.cells #[] 104) none) (by simp);have hGE:=hGr.out.trans (World.grownBy_alloc wr (.cells #[] 104) (some B));go_wp2;go_ret;exact ⟨_,rfl,[],hownE,by simp,(fun m hm=>by cases hm),hcE,hGE⟩
        ·go_wp2;go_ret;exact ⟨_,rfl,ns,HV.out,by omega,HSN.out,hcr.out,hGr.out⟩
def zmm (ns:List Nd):Prop:=∀ k:Nat,0≤endV ns (k:Int)→endV ns (k:Int)-k≤60
theorem zge {ns:List Nd} (h:ns.length≤60):zmm ns:=fun k hk=>by
 have:=(zgT hk).2.2.2.2;omega
theorem zfT:∀ (l r:List Nd) (o d:Nat),zbN l o=some d→zbN (l++r) o=some d
 | l,r,0,d,h=>by rw [zcG] at h ⊢;exact h
 | [],r,o+1,d,h=>by rw [zcp] at h;cases h
 | n :: l,r,o+1,d,h=>by
  rw [zbb] at h;rw [List.cons_append,zbb]
  split at h
  ·
   rename_i hn;rw [if_pos hn];cases he:zbN l (o+zct n) with
   | none=>rw [he] at h;cases h
   | some q=>rw [he] at h;rw [zfT l r _ q he];exact h
  ·cases h
theorem zp0 {ns:List Nd} (h:zch ns=true) (m:Nd):zmm (ns++[m]):=fun k hk=>by
 obtain ⟨⟨h1,h2⟩,he⟩:=zi7 h;have hb:=(zgT hk).2.2.2.2;rw [List.length_append,List.length_singleton] at hb;cases k with
 | zero =>
  have:endV (ns++[m]) ((0:Nat):Int)=ns.length:=by rw [zea];have:=zfc (l:=ns++[m]) (k:=0) (d:=ns.length) (by rw [List.drop_zero];exact zfT _ _ _ _ he) (by simp);rw [this];omega
  rw [this];omega
 | succ k=>omega
def zjw:Nd:=(3,0,[],[])
def zeV:Nd:=(1,0,[],[])
def zbh:Nat→List Nd
 | 0=>[]
 | j+1=>zjw :: zeV :: zbh j
theorem zbD:∀ j,(zbh j).length=2*j
 | 0=>rfl
 | j+1=>by simp only [zbh,List.length_cons,zbD j];omega
theorem zfo:∀ j,zbh j++[zjw,zeV]=zbh (j+1)
 | 0=>rfl
 | j+1=>by
  show zjw :: zeV :: (zbh j++[zjw,zeV])=_
  rw [zfo j];rfl
theorem zob (j:Nat):(zbh (j+1)).take (2*j+1)++[zeV]=zbh (j+1):=by
 rw [←zfo j,List.take_append,zbD,List.take_of_length_le (by rw [zbD];omega),show 2*j+1-2*j=1 by omega];simp
theorem zmW:zaM zjw=true:=by decide
theorem zhC:zaM zeV=true:=by decide
theorem zoC:zct zjw=2:=by decide
theorem zjC:zct zeV=0:=by decide
theorem zhy:∀ j o,zbN (zbh j) (o+1)=none
 | 0,o=>zcp o
 | j+1,o=>by
  show zbN (zjw :: zeV :: zbh j) (o+1)=none
  rw [zbb,if_pos zmW,zoC,show o+2=(o+1)+1 by omega,zbb,if_pos zhC,zjC,Nat.add_zero,zhy j o]
  rfl
theorem zlQ:∀ j k,zbN ((zbh j).drop k) 1=none∨zbN ((zbh j).drop k) 1=some 1
 | 0,k=>by simp [zbh,zcp]
 | j+1,0=>Or.inl (zhy (j+1) 0)
 | j+1,1=>Or.inr (by
  show zbN (zeV :: zbh j) (0+1)=some 1
  rw [zbb,if_pos zhC,zjC,zcG];rfl)
 | j+1,k+2=>by simpa [zbh] using zlQ j k
theorem znj (j:Nat):zmm (zbh j):=fun k hk=>by
 have hlt:=(zgT hk).1;rw [zea] at hk ⊢;rcases zlQ j k with h | h
 ·unfold endN at hk;rw [if_pos hlt,h] at hk;simp at hk
 ·rw [zfc h hlt];omega
theorem zdX {ns:List Nd} (h:zbp ns) (j:Nat):zc9 (ns.getD j nd0):=by
 rw [List.getD_eq_getElem?_getD];rcases Nat.lt_or_ge j ns.length with hj | hj
 ·rw [List.getElem?_eq_getElem hj];exact h _ (List.getElem_mem hj)
 ·rw [List.getElem?_eq_none hj];exact ⟨zm2,by decide,by decide⟩
theorem zbp.short {ns:List Nd} (h:zbp ns):zdo ns:=fun j=>⟨Nat.le_trans (zdX h j).2.1 (by omega),Nat.le_trans (zdX h j).2.2 (by omega)⟩
theorem zbp.int {ns:List Nd} (h:zbp ns):IntT ns:=fun j=>(zdX h j).1
theorem zhV (w:World) (B:Nat) (a:Option Addr) (len cap:Nat) (args:Int) (ca:Option Addr) (cl cc:Nat) (calls:List Nd) (ha0:0≤args) (ha1:args≤1000) (hc:Cur w B a len cap) (hin:zay w ca cl calls) (hcl:cl≤1000) (hsm:∀ j,zc9 (calls.getD j nd0)) (hkd:∀ j,zbu (calls.getD j nd0)≤3) (hne:∀ b off,ca=some ⟨b,off,none⟩→b≠B) :
 Calls Tryz.prog 106 #[.pointer (some ⟨B,0,none⟩),.int .i64 args,.slice ca cl cc] w fun e w'=>∃ v ns,e=.returned v∧w'.ownsRow w.heap.size 104 4 v ns.length (zah ns)∧zch ns=true∧zbp ns∧Cur w' B a len cap∧w.grownBy w' (some B):=by
 have HIN:Hid (zay w ca cl calls):=hin;have HSM:Hid (∀ j,zc9 (calls.getD j nd0)):=hsm;have HKD:Hid (∀ j,zbu (calls.getD j nd0)≤3):=hkd;have HNE:Hid (∀ b off,ca=some ⟨b,off,none⟩→b≠B):=hne;clear hin hsm hkd hne
 go_enter Tryz.func106,Tryz.ntmps106
 go_wp2_with fail
 refine (zad _ B a len cap 3 (by omega) (by omega) hc).mono ?_;rintro e w1 ⟨x1,rfl,h10,h11,hc1,hg1⟩;obtain ⟨d1,rfl⟩:∃ d1:Nat,x1=(d1:Int):=Int.eq_ofNat_of_zero_le h10
 have hin1:zay w1 ca cl calls:=HIN.out.keep hg1.size (fun b off e hlt=>hg1.block b hlt (fun e2=>HNE.out b off e (by injection e2)));have hC:Hid (_):=zp3 (1+d1) w1 B a len cap args ca cl cc calls (by omega) ha0 ha1 hc1 hin1 hcl HSM.out HKD.out HNE.out;rw [show ((1+d1:Nat):Int)=1+(d1:Int) by omega] at hC;clear HIN HSM HKD HNE hin1 hc hc1;go_wp2_with fail
 refine Calls.mono hC.out ?_;rintro e w2 ⟨v2,ns,rfl,hown2,hl2,hs2,hc2,hg2⟩;have hG2:=hg1.trans hg2;obtain ⟨_,a2,c2,rfl,hin2⟩:=zcj hown2;have hT:Hid (_):=zhu a2 ns.length c2 ns w2 hin2 hs2.short (by omega);have hown3:=zaD hown2 hg1.size;clear hC hg1 hg2 hown2 hin2;go_wp2_with fail
 refine Calls.mono hT.out ?_;rintro e w4 ⟨rfl,hb4⟩;have hown4:=za5 hown3 hb4;have hc4:=hc2.below hb4;have hG4:w.grownBy w4 (some B):=hG2.andThen (Below.by hb4) (by simp);clear hT hb4 hown3 hc2 hG2;rcases htb:zch ns with _ | _
 ·have hown:=lit1 w w4 ((1,7,[],[]):Nd) hG4.size;have hgz:=hG4.trans (World.grownBy_alloc w4 (.cells #[.int .i64 1,.int .i64 7,.string ⟨#[]⟩,.string ⟨#[]⟩] 104) (some B));have hcz:=hc4.kept (World.grownBy_alloc w4 (.cells #[.int .i64 1,.int .i64 7,.string ⟨#[]⟩,.string ⟨#[]⟩] 104) none) (by simp);simp only at hown;go_wp2;go_ret;exact ⟨_,[((1,7,[],[]):Nd)],rfl,hown,by decide,by intro m hm;rw [List.mem_singleton] at hm;subst hm;exact ⟨⟨by decide,by decide⟩,by decide,by decide⟩,hcz,hgz⟩
 ·have HB:Hid (zch ns=true):=htb;clear htb;go_wp2;go_ret;exact ⟨_,ns,rfl,hown4,HB.out,hs2,hc4,hG4⟩
theorem zfn (W:World) (base:Nat) (v:Value) (ns ms:List Nd) (cs:Array Value) (hcs:cs.toList=zah ms) (hown:W.ownsRow base 104 4 v ns.length (zah ns)) (hb:base≤W.heap.size) (hl:ns.length+ms.length≤100000) :
 ∃ v' w',(Builtin.append_ #[102,102] 102 #[v,.slice (some ⟨W.heap.size,0,none⟩) ms.length ms.length]).run Tryz.prog (W.alloc (.cells cs 104))=.ok v' w'∧w'.ownsRow base 104 4 v' (ns++ms).length (zah (ns++ms))∧W.grownBy w' v.ownBlock:=by
 obtain ⟨i0,hi,hz0,hz1,hz2⟩:=info_parts ze5;have hsz:cs.size=ms.length*4:=by rw [←zbX,←hcs];simp
 have hlit:=World.ownsRow_lit (base:=base) (e:=104) (size:=4) W cs ms.length hb (by unfold maxLen;omega) hsz;rw [hcs] at hlit;obtain ⟨v',w',hrun,hown',hg,_⟩:=zar (P:=Tryz.prog) (W.alloc (.cells cs 104)) base 102 102 104 i0 _ 4 48 Tryz.underlying102 hi hz0 hz1 hz2 rfl (by decide) _ _ _ (hown.alloc _) _ ms.length (zah ms) (zih hlit (zcE _)) (by unfold maxLen;omega) (by omega) (by simp;omega);exact ⟨v',w',hrun,by rw [zc3,List.length_append];exact hown',(World.grownBy_alloc W _ _).trans hg⟩
theorem zkE (ns:List Nd) (k:Nat):(zah ns).take (k*4)=zah (ns.take k):=by
 induction ns generalizing k with
 | nil=>simp [zah]
 | cons n r ih =>
  cases k with
  | zero=>simp [zah]
  | succ k=>rw [show (k+1)*4=k*4+1+1+1+1 by omega];simp [zah,ih]
theorem zjm {w:World} {base g n cp:Nat} {ns:List Nd} (h:w.ownsRow base 104 4 (.slice (some ⟨g,0,none⟩) n cp) n (zah ns)) (hn:ns.length=n) (m:Nat) (hm:m≤n):w.ownsRow base 104 4 (.slice (some ⟨g,0,none⟩) m cp) (ns.take m).length (zah (ns.take m)):=by
 have hl:(ns.take m).length=m:=by rw [List.length_take];omega
 rw [hl];have h0:=h.1;rcases h.2 with ⟨h',_⟩ | ⟨g',cap',cur,h',hb,hg,hnc,hcm,hcs,htake⟩
 ·simp at h'
 ·
  simp only [Value.slice.injEq,Option.some.injEq,Addr.mk.injEq,and_true,true_and] at h';obtain ⟨rfl,rfl⟩:=h';refine ⟨by rw [zbX,hl],.inr ⟨g,cp,cur,rfl,hb,hg,by omega,hcm,hcs,?_⟩⟩;rw [←zkE,←htake,List.take_take];congr 1
  omega
theorem zmK {ns:List Nd} (h:zbp ns) (k:Nat):zbp (ns.take k):=fun n hn=>h n (List.mem_of_mem_take hn)
theorem zeH {ns ms:List Nd} (h:zbp ns) (k:zbp ms):zbp (ns++ms):=fun n hn=>(List.mem_append.1 hn).elim (h n) (k n)
theorem zjb {ns:List Nd} (h:zbp ns) {n:Nd} (hn:zc9 n) (k:Nat):zbp (ns.set k n):=fun m hm=>(List.mem_or_eq_of_mem_set hm).elim (h m) (fun e=>by rw [e];exact hn)
theorem znU:zbp [zeV]:=by intro m hm;rw [List.mem_singleton] at hm;subst hm;exact zjc 1 (by omega) (by omega)
theorem zgp:∀ j,zbp (zbh j)
 | 0=>fun n hn=>by cases hn
 | j+1=>fun n hn=>by
  rcases List.mem_cons.1 hn with rfl | hn
  ·exact zjc 3 (by omega) (by omega)
  ·
   rcases List.mem_cons.1 hn with rfl | hn
   ·exact zjc 1 (by omega) (by omega)
   ·exact zgp j n hn
def zfV:List Nd:=[(8,2,[108,105,98],[102]),(8,0,[108,105,98],[103])]
theorem zpd (j:Nat):zfV.getD j nd0=(8,2,[108,105,98],[102])∨zfV.getD j nd0=(8,0,[108,105,98],[103])∨zfV.getD j nd0=nd0:=by
 match j with
 | 0=>exact Or.inl rfl
 | 1=>exact Or.inr (Or.inl rfl)
 | j+2=>exact Or.inr (Or.inr (by simp [zfV,List.getD]))
theorem zfU (j:Nat):zc9 (zfV.getD j nd0)∧zbu (zfV.getD j nd0)≤3:=by
 rcases zpd j with h | h | h<;>rw [h]<;>exact ⟨⟨⟨by decide,by decide⟩,by decide,by decide⟩,by decide⟩
def lenV:Value→Nat
 | .slice _ n _=>n
 | _=>0
theorem zlS {w:World} {base e size g n cp:Nat} {xs:List Value} (h:w.ownsRow base e size (.slice (some ⟨g,0,none⟩) n cp) n xs):n≤cp∧cp≤maxLen:=by
 rcases h.2 with ⟨h',_⟩ | ⟨g',cap',cur,h',hb,hg,hnc,hcm,hcs,htake⟩
 ·simp at h'
 ·simp only [Value.slice.injEq,Option.some.injEq,Addr.mk.injEq,and_true,true_and] at h';obtain ⟨rfl,rfl⟩:=h';exact ⟨hnc,hcm⟩
theorem zmU (ns:List Nd) (p:List UInt8) (h:0<ns.length):(zah ns).set 2 (.string ⟨p.toArray⟩)=zah (ns.set 0 ((ns.getD 0 nd0).1,(ns.getD 0 nd0).2.1,p,(ns.getD 0 nd0).2.2.2)):=by
 cases ns with
 | nil=>simp at h
 | cons n r=>simp [zah]
def Any6 (w wx:World) (B:Nat) (a:Option Addr) (len cap:Nat) (v:Value):Prop :=
 ∃ ns:List Nd,wx.ownsRow w.heap.size 104 4 v ns.length (zah ns)∧ns.length≤62∧zbp ns∧zmm ns∧Cur wx B a len cap∧w.grownBy wx (some B)
theorem drawAny6 (w:World) (B:Nat) (a:Option Addr) (len cap:Nat) (hc:Cur w B a len cap) :
 Calls Tryz.prog 91 #[.pointer (some ⟨B,0,none⟩)] w fun e w'=>∃ v,e=.returned v∧Any6 w w' B a len cap v:=by
 have hBw:=hc.lt;have hlit:=World.ownsRow_lit (base:=w.heap.size) (e:=104) (size:=4) w #[.int .i64 8,.int .i64 2,.string ⟨#[108,105,98]⟩,.string ⟨#[102]⟩,.int .i64 8,.int .i64 0,.string ⟨#[108,105,98]⟩,.string ⟨#[103]⟩] 2 (Nat.le_refl _) (by decide) rfl;obtain ⟨_,a0,c0,he0,hin0⟩:=zcj (ns:=zfV) hlit;have hc0:=hc.kept (World.grownBy_alloc w (.cells #[.int .i64 8,.int .i64 2,.string ⟨#[108,105,98]⟩,.string ⟨#[102]⟩,.int .i64 8,.int .i64 0,.string ⟨#[108,105,98]⟩,.string ⟨#[103]⟩] 104) none) (by simp);have hg0:=World.grownBy_alloc w (.cells #[.int .i64 8,.int .i64 2,.string ⟨#[108,105,98]⟩,.string ⟨#[102]⟩,.int .i64 8,.int .i64 0,.string ⟨#[108,105,98]⟩,.string ⟨#[103]⟩] 104) (some B)
 obtain ⟨rfl,rfl⟩:a0=some ⟨w.heap.size,0,none⟩∧c0=2:=by simp only [Value.slice.injEq,true_and] at he0;exact ⟨he0.1.symm,he0.2.symm⟩
 have hT:Hid (_):=zhV _ B a len cap 3 (some ⟨w.heap.size,0,none⟩) 2 2 zfV (by omega) (by omega) hc0 hin0 (by omega) (fun j=>(zfU j).1) (fun j=>(zfU j).2) (fun b off e=>by simp only [Option.some.injEq,Addr.mk.injEq,and_true] at e;omega);clear hlit hin0 he0 hc hc0
 go_enter Tryz.func91,Tryz.ntmps91
 go_wp2_with fail
 refine Calls.mono hT.out ?_;rintro e w2 ⟨v2,ns,rfl,hown2,htr,hs2,hc2,hg2⟩;have hG2:=hg0.trans hg2;have hown3:=zaD hown2 hg0.size;obtain ⟨⟨ht1,ht2⟩,_⟩:=zi7 htr;have HTR:Hid (zch ns=true):=htr;clear hT hg0 hg2 hown2 htr;go_wp2_with fail
 refine (zbO _ B a len cap 6 (by omega) (by omega) hc2).mono ?_;rintro e w4 ⟨b4,rfl,hc4,hg4⟩;have hvl:=zlR hown3;have hown4:=hown3.kept hg4 (zer (fun q e1 e2=>by have:=hvl q e1;omega));have hG4:=hG2.trans hg4;clear hown3 hc2 hG2 hg4
 go_upto_if 10 with fail
 go_cut [3] from 4 (fun v wx=>Hid (Any6 w wx B a len cap v))
 case first =>
  rcases b4 with _ | _
  ·
   go_wp2_with fail
   go_meet
   case rel=>exact ⟨ns,hown4,by omega,hs2,zge ht2,hc4,hG4⟩
  ·
   go_wp2_with fail
   refine (zad _ B a len cap 4 (by omega) (by omega) hc4).mono ?_;rintro e w5 ⟨x5,rfl,h50,h51,hc5,hg5⟩;have hown5:=hown4.kept hg5 (zer (fun q e1 e2=>by have:=hvl q e1;omega));have hG5:=hG4.trans hg5;obtain ⟨g,cp,rfl⟩:=zaw hown5 (by omega);have hgl:w.heap.size≤g:=hvl g rfl;clear hown4 hc4 hG4 hg5;rcases (show x5=0∨x5=1∨x5=2∨x5=3 by omega) with rfl | rfl | rfl | rfl
   ·
    obtain ⟨v6,w6,hrun,hown6,hg6⟩:=zfn w5 w.heap.size _ ns [zeV] #[.int .i64 1,.int .i64 0,.string ⟨#[]⟩,.string ⟨#[]⟩] rfl hown5 hG5.size (by simp;omega)
    go_wp2_with (at_builtin;refine za0 rfl (.tmp 15) (.tmp 17) 102 rfl _ _ _ rfl rfl hrun ?_;clear hrun)
    go_meet
    case rel=>exact ⟨ns++[zeV],hown6,by simp;omega,zeH hs2 znU,zp0 HTR.out _,hc5.kept hg6 (fun q e=>by have:=hvl q e;omega),hG5.andThen hg6 (fun q e=>Or.inl (hvl q e))⟩
   ·
    have hown6:=zjm hown5 rfl (ns.length-1) (by omega);obtain ⟨hcp,_⟩:=zlS hown5;have hlc:((ns.length:Int)-1).toNat=ns.length-1:=by omega
    go_wp2_with fail
    go_meet
    case rel=>exact ⟨ns.take (ns.length-1),by simpa [hlc] using hown6,by rw [List.length_take];omega,zmK hs2 _,zge (by rw [List.length_take];omega),hc5,hG5⟩
   ·
    go_wp2_with fail
    refine (zdS _ B a len cap (-1) 11 (by omega) (by omega) (by omega) hc5).mono ?_;rintro e w6 ⟨x6,rfl,h60,h61,hc6,hg6⟩;have hown6:=hown5.kept hg6 (zer (fun q e1 e2=>by have:=hvl q e1;omega));have hG6:=hG5.trans hg6;clear hown5 hc5 hG5 hg6;go_wp2_with fail
    refine (zdS _ B a len cap (-1) 5 (by omega) (by omega) (by omega) hc6).mono ?_;rintro e w7 ⟨x7,rfl,h70,h71,hc7,hg7⟩;have hown7:=hown6.kept hg7 (zer (fun q e1 e2=>by have:=hvl q e1;omega));have hG7:=hG6.trans hg7;clear hown6 hc6 hG6 hg7;have hset:=((((hown7.stored 0 (.int .i64 x6)).1.stored 1 (.int .i64 x7)).1.stored 2 (.string ⟨#[]⟩)).1.stored 3 (.string ⟨#[]⟩)).1;have hsv:=zmT ns 0 x6 x7 [] [];simp only [Nat.zero_mul,Nat.zero_add] at hsv;rw [hsv] at hset;have c0:=hown7.cellAt 0 (by omega);have c1:=hown7.cellAt 1 (by omega);have c2:=hown7.cellAt 2 (by omega);have c3:=hown7.cellAt 3 (by omega);obtain ⟨v0,v1,v2,v3⟩:=zeS ns 0 (by omega);simp only [Nat.zero_mul,Nat.zero_add] at v0 v1 v2 v3;rw [v0] at c0;rw [v1] at c1;rw [v2] at c2;rw [v3] at c3;have f0:=hown7.frozenAt 0;have f1:=hown7.frozenAt 1;have f2:=hown7.frozenAt 2;have f3:=hown7.frozenAt 3;have hgg:=zfy w7 g (.int .i64 x6) (.int .i64 x7) (.string ⟨#[]⟩) (.string ⟨#[]⟩);clear hsv v0 v1 v2 v3 hown7;go_wp2_with fail
    go_meet
    case rel=>exact ⟨ns.set 0 (x6,x7,[],[]),by rw [List.length_set];exact hset,by rw [List.length_set];omega,zjb hs2 ⟨⟨⟨by simp only;omega,by simp only;omega⟩,⟨by simp only;omega,by simp only;omega⟩⟩,by simp,by simp⟩ 0,zge (by rw [List.length_set];omega),hc7.kept hgg (by simp;omega),hG7.andThen hgg (fun q e=>Or.inl (by simp at e;omega))⟩
   ·
    have hset:=(hown5.stored 2 (.string ⟨#[120]⟩)).1;have hsv:=zmU ns [120] (by omega);rw [hsv] at hset;have c2:=hown5.cellAt 2 (by omega);obtain ⟨_,_,v2,_⟩:=zeS ns 0 (by omega);simp only [Nat.zero_mul,Nat.zero_add] at v2;rw [v2] at c2;have f2:=hown5.frozenAt 2;have hgg:=zau w5 g 2 (.string ⟨#[120]⟩);clear hsv v2 hown5;go_wp2_with fail
    go_meet
    case rel=>exact ⟨ns.set 0 ((ns.getD 0 nd0).1,(ns.getD 0 nd0).2.1,[120],(ns.getD 0 nd0).2.2.2),by rw [List.length_set];exact hset,by rw [List.length_set];omega,zjb hs2 (n:=((ns.getD 0 nd0).1,(ns.getD 0 nd0).2.1,[120],(ns.getD 0 nd0).2.2.2)) ⟨(zdX hs2 0).1,by simp,(zdX hs2 0).2.2⟩ 0,zge (by rw [List.length_set];omega),hc5.kept hgg (by simp;omega),hG5.andThen hgg (fun q e=>Or.inl (by simp at e;omega))⟩
 case rest =>
  clear hown4 hc4 hG4 hs2 HTR hvl ht1 ht2;obtain ⟨ns1,hown,hl1,hs1,he1,hc1,hG1⟩:=hcut.out;go_wp2_with fail
  refine (zbO _ B a len cap 40 (by omega) (by omega) hc1).mono ?_;rintro e w8 ⟨b8,rfl,hc8,hg8⟩;have hvl:=zlR hown;have hown8:=hown.kept hg8 (zer (fun q e1 e2=>by have:=hvl q e1;omega));have hG8:=hG1.trans hg8;clear hown hc1 hG1 hg8 hcut;rcases b8 with _ | _
  ·go_wp2;go_ret;exact ⟨_,rfl,ns1,hown8,hl1,hs1,he1,hc8,hG8⟩
  ·
   clear hown8 hs1 he1 hl1 hvl;have hownE:=World.ownsRow_lit (base:=w.heap.size) (e:=104) (size:=4) w8 #[] 0 hG8.size (by decide) rfl;have hcE:=hc8.kept (World.grownBy_alloc w8 (.cells #[] 104) none) (by simp);have hGE:=hG8.trans (World.grownBy_alloc w8 (.cells #[] 104) (some B));go_wp2
   go_loopw [3] (fun v wr=>∃ (j:Nat) (av:Option Addr) (cv:Nat),v=.slice av (2*j) cv∧j≤31∧Hid (wr.ownsRow w.heap.size 104 4 v (zbh j).length (zah (zbh j)))∧Hid (Cur wr B a len cap)∧Hid (w.grownBy wr (some B))) (fun v _=>64-lenV v)
   case atStart=>exact ⟨0,_,_,rfl,by omega,hownE,hcE,hGE⟩
   case round =>
    obtain ⟨j,av,cv,rfl,hj,HV,hcr,hGr⟩:=hrel;clear hownE hcE hGE hc8 hG8;have hvl:=zlR HV.out;go_wp2_with fail
    refine (zad _ B a len cap 2 (by omega) (by omega) hcr.out).mono ?_;rintro e w9 ⟨x9,rfl,h90,h91,hc9,hg9⟩;have hown9:=HV.out.kept hg9 (zer (fun q e1 e2=>by have:=hvl q e1;omega));have hG9:=hGr.out.trans hg9;clear HV hcr hGr hg9;by_cases hlt:((2*j:Nat):Int)<59+2*x9
    ·
     obtain ⟨v6,w6,hrun,hown6,hg6⟩:=zfn w9 w.heap.size _ (zbh j) [zjw,zeV] #[.int .i64 3,.int .i64 0,.string ⟨#[]⟩,.string ⟨#[]⟩,.int .i64 1,.int .i64 0,.string ⟨#[]⟩,.string ⟨#[]⟩] rfl hown9 hG9.size (by rw [zbD];simp;omega);rw [zfo] at hown6;obtain ⟨_,a6,c6,rfl,_⟩:=zcj hown6;have hl6:(zbh (j+1)).length=2*(j+1):=zbD (j+1);have HO:Hid (w6.ownsRow w.heap.size 104 4 (.slice a6 (2*(j+1)) c6) (zbh (j+1)).length (zah (zbh (j+1)))):=by exact (by rw [←hl6];exact hown6:w6.ownsRow w.heap.size 104 4 (.slice a6 (2*(j+1)) c6) (zbh (j+1)).length (zah (zbh (j+1))))
     have hc6:Hid (Cur w6 B a len cap):=hc9.kept hg6 (fun q e=>by have:=hvl q e;omega);have hG6:Hid (w.grownBy w6 (some B)):=hG9.andThen hg6 (fun q e=>Or.inl (hvl q e));rw [hl6] at hrun;clear hown6 hg6 hown9 hc9 hG9 hvl hl6
     go_wp2_with (at_builtin;refine za0 rfl (.tmp 50) (.tmp 53) 102 rfl _ _ _ rfl rfl hrun ?_;clear hrun)
     go_roundw
     case rel=>exact ⟨j+1,a6,c6,rfl,by omega,HO,hc6,hG6⟩
     case measure=>simp [lenV];omega
    ·
     obtain ⟨i,rfl⟩:∃ i,j=i+1:=⟨j-1,by omega⟩
     obtain ⟨g,cp,hgf⟩:=zaw hown9 (by rw [zbD];omega);rw [zbD] at hgf;simp only [Value.slice.injEq] at hgf;obtain ⟨rfl,_,rfl⟩:=hgf;rw [show (zbh (i+1)).length=2*(i+1) from zbD _] at hown9;obtain ⟨hcp,_⟩:=zlS hown9;have hown5:=zjm hown9 (zbD _) (2*i+1) (by omega);obtain ⟨v6,w6,hrun,hown6,hg6⟩:=zfn w9 w.heap.size _ _ [zeV] #[.int .i64 1,.int .i64 0,.string ⟨#[]⟩,.string ⟨#[]⟩] rfl hown5 hG9.size (by rw [List.length_take,zbD];simp;omega);rw [zob] at hown6;have hlc:(((2*(i+1):Nat):Int)-1).toNat=2*i+1:=by omega
     have hc6:Cur w6 B a len cap:=hc9.kept hg6 (fun q e=>by have:=hvl q e;omega);have hG6:w.grownBy w6 (some B):=hG9.andThen hg6 (fun q e=>Or.inl (hvl q e));clear hown5 hown9 hg6 hc9 hG9
     go_wp2_with (at_builtin;refine za0 rfl (.tmp 59) (.tmp 61) 102 rfl _ _ _ (by first | rfl | simp [hlc]) rfl hrun ?_;clear hrun)
     go_ret;exact ⟨_,rfl,zbh (i+1),hown6,by rw [zbD];omega,zgp _,znj _,hc6,hG6⟩

end Go.Proofs.YtponeoijfaepnaaGreatDoor
