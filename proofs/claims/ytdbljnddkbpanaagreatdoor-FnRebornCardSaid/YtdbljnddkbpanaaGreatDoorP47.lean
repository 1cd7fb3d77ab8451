/-
  Parts of one proof, one behind the other: FramesI, NewK.
-/
import Derived.Test.YtdbljnddkbpanaaGreatDoorP46
import Derived.RangeFuncNested
import Derived.RangeFuncBound
import Derived.RangeFuncCalls
import Derived.RangeFuncLeaves
import Derived.RangeFuncBox
import Derived.Shelf.Abstract
import Derived.Shelf.RegionOpen
import Derived.WalkKit
import Derived.OwnWalkIn
import Derived.TacticsInMore
import Derived.LoopNIn
import Derived.LoopIn
import Derived.Maps.AppendAt
import Derived.Test.YtdbljnddkbpanaaGreatDoorP21
import Derived.Test.YtdbljnddkbpanaaGreatDoorP35
import Derived.Test.YtdbljnddkbpanaaGreatDoorP2
import Derived.Test.YtdbljnddkbpanaaGreatDoorP34
namespace Go.Proofs.YtdbljnddkbpanaaGreatDoor
open Go.RowKit
section
open Go.RowKit Go.Shelf
attribute [local go_sem] Oper.semAt_some
abbrev Txt:={ t:List UInt8 // t.length≤20000 }
def txts (xs:List Txt):List (List UInt8):=xs.map (·.1)
theorem zgs (xs:List Txt) (x:Txt):txts (xs++[x])=txts xs++[x.1]:=by simp [txts]
theorem zb6 (xs:List Txt):(txts xs).length=xs.length:=by simp [txts]
theorem zdI:∀ (j k:Nat) (l:List UInt8),j≤k→zad j l=(zad k l).take j
 | 0,_,_,_=>by simp [zad]
 | j+1,0,_,h=>absurd h (by omega)
 | j+1,k+1,l,h=>by
  unfold zad
  by_cases hb:zaU l=true
  ·
   rw [if_pos hb,if_pos hb,List.take_succ_cons,zdI j k _ (by omega)]
  ·
   rw [if_neg hb,if_neg hb,List.take_nil]
theorem zdq:∀ xs:List Txt,za1 (txts xs)≤xs.length*20016
 | []=>by simp [txts,za1]
 | x :: xs=>by
  have h:=zdq xs
  have hx:=x.2
  have e:za1 (txts (x :: xs))=16+x.1.length+za1 (txts xs):=rfl
  rw [e,List.length_cons]
  omega
set_option maxHeartbeats 1000000 in
set_option maxRecDepth 100000 in
theorem zmU (l:List UInt8) (n:Nat) (w:World) :
 CallsIn Fence.wide n Tryz.prog 47 #[.string ⟨l.toArray⟩] w fun e w'=>e=.returned (.func (.func 79) #[] #[.pointer (some ⟨w.heap.size,0,none⟩)])∧w'=w.alloc (.cells #[.string ⟨l.toArray⟩] 9):=by
 refine callsIn_of_wp Tryz.func47 rfl trivial ?_ rfl
 simp only [Tryz.ntmps47,List.size_toArray,List.length_cons,List.length_nil,Nat.reduceAdd,Nat.reduceSub,Array.replicate_succ,Array.replicate_zero,List.push_toArray,List.append_toArray,List.nil_append,List.cons_append]
 gi_wp2
 go_ret
 exact ⟨rfl,rfl⟩
theorem zmT (K:Nat) (l r:List UInt8) (pre:List Txt) (hlen:pre.length+r.length<K) (hgo:txts pre++zad (K-pre.length) r=zad K l) (hb:zaU r=true) :
 (zap r).length≤20000∧16+(zap r).length≤r.length∧∀ x:Txt,x.1=zap r→txts (pre++[x])++zad (K-(pre++[x]).length) (r.drop (16+(zap r).length))=zad K l:=by
 refine ⟨(zen r hb).1,zfG r hb,fun x hx=>?_⟩
 rw [zgs,hx,List.length_append,List.length_singleton,←hgo,show K-pre.length=(K-(pre.length+1))+1 by omega,zc2 _ _ hb,List.append_assoc,List.singleton_append]
set_option maxRecDepth 100000 in
set_option maxHeartbeats 2000000 in
set_option maxRecDepth 100000 in
theorem whole1 (n l Bn K:Nat) (h1:1≤n) (s:List UInt8) (hs:s.length≤1048576) (hK:s.length<K) (n₀:Nat) (J Jx:List Txt→World→Prop)
 (hY:∀ pre x W,J pre W→pre.length<K→YieldAt Fence.wide (n-1) Tryz.prog l #[.string ⟨x.1.toArray⟩] W fun e W' =>
  (e=.returned (.bool true)∧J (pre++[x]) W'∧Below n₀ W W')∨(e=.returned (.bool false)∧Jx (pre++[x]) W'))
 (W:World) (hBn:W.cell? ⟨Bn,0,none⟩=some (.string ⟨s.toArray⟩)) (h0:J [] W) :
 CallsIn Fence.wide n Tryz.prog 79 #[.func (.yield l) #[] #[],.pointer (some ⟨Bn,0,none⟩)] W fun e W'=>(∃ v,e=.returned v) ∧
  ((∃ ys,txts ys=zad K s∧J ys W')∨(∃ pre,txts pre <+: zad K s∧Jx pre W')):=by
 have hext:=zbL
 refine callsIn_of_wp Tryz.func79 rfl trivial ?_ rfl
 simp only [Tryz.ntmps79,List.size_toArray,List.length_cons,List.length_nil,Nat.reduceAdd,Nat.reduceSub,Array.replicate_succ,Array.replicate_zero,List.push_toArray,List.append_toArray,List.nil_append,List.cons_append]
 gi_wp2
 gi_loopw [3] (fun p wr=>∃ (pre:List Txt) (r:List UInt8),p=.string ⟨r.toArray⟩∧r.length≤s.length∧pre.length+r.length<K∧txts pre++zad (K-pre.length) r=zad K s∧J pre wr)
  (fun p _=>match p with | .string b=>b.size | _=>0)
 case atStart=>exact ⟨[],s,rfl,Nat.le_refl _,by simpa using hK,by simp [txts],h0⟩
 case round =>
  obtain ⟨pre,r,rfl,hrl,hlen,hgo,hJs⟩:=hrel
  have HG:Hid (txts pre++zad (K-pre.length) r=zad K s):=hgo
  clear hgo
  have hr1:r.length≤1048576:=by omega
  rcases hbb:zaU r with _ | _
  ·
   have HX:Hid (zap r=[]∧zaU r=false):=⟨(zcw r (of_decide_eq_false hbb)).1,hbb⟩
   have HE:Hid (txts pre=zad K s):=by
    have:=HG.out
    rw [zbX _ _ hbb,List.append_nil] at this
    exact this
   clear hbb
   gi_wp2_with (refine ⟨trivial,?_⟩;gi_at_call 80;refine (callsIn_wide.2 (zib r [] false _ hr1 HX.out.1 HX.out.2)).mono ?_;rintro e w1 ⟨rfl,rfl⟩)
   refine ⟨fun _ h=>(by cases h),?_⟩
   gi_wp2
   refine bodyPost_ret (results_none rfl _ _ _) rfl ?_
   exact ⟨⟨_,rfl⟩,.inl ⟨pre,HE.out,hJs⟩⟩
  ·
   obtain ⟨hT,hfit,hst⟩:=zmT K s r pre hlen HG.out hbb
   obtain ⟨x,hx⟩:∃ x:Txt,x.1=zap r:=⟨⟨zap r,hT⟩,rfl⟩
   have HS:Hid (txts (pre++[x])++zad (K-(pre++[x]).length) (r.drop (16+x.1.length))=zad K s):=by
    have:=hst x hx
    rw [←hx] at this
    exact this
   rw [←hx] at hfit hT
   have HX:Hid (zap r=x.1∧zaU r=true):=⟨hx.symm,hbb⟩
   clear hst hx hbb
   have hfit2:16+(x.1.length:Int)≤(r.length:Int):=by omega
   have htk:List.take (r.length-(16+x.1.length)) (List.drop (16+x.1.length) r)=List.drop (16+x.1.length) r:=List.take_of_length_le (by rw [List.length_drop];omega)
   obtain ⟨fn,tmps,assign,body,hy,hR⟩:=hY pre x wr hJs (by omega)
   gi_wp2_with (refine ⟨trivial,?_⟩;gi_at_call 80;refine (callsIn_wide.2 (zib r x.1 true _ hr1 HX.out.1 HX.out.2)).mono ?_;rintro e w1 ⟨rfl,rfl⟩)
   refine hR.mono ?_
   rintro e W3 (⟨rfl,hJ3,hk3⟩ | ⟨rfl,hJx3⟩)
   ·
    gi_wp2
    refine ⟨⟨pre++[x],r.drop (16+x.1.length),by rw [htk],by rw [List.length_drop];omega,by rw [List.length_drop,List.length_append,List.length_singleton];omega,HS.out,hJ3⟩,?_⟩
    rw [htk]
    show (List.drop (16+x.1.length) r).toArray.size<r.toArray.size
    rw [List.size_toArray,List.size_toArray,List.length_drop]
    omega
   ·
    gi_wp2
    refine bodyPost_ret (results_none rfl _ _ _) rfl ?_
    refine ⟨⟨_,rfl⟩,.inr ⟨pre++[x],?_,hJx3⟩⟩
    rw [←HS.out]
    exact List.prefix_append _ _
theorem zkV (n Bn K:Nat) (h1:1≤n) (s:List UInt8) (hs:s.length≤1048576) (hK:s.length<K) (n₀:Nat) (w:World) (hBn:Bn<w.heap.size) (hc:w.cell? ⟨Bn,0,none⟩=some (.string ⟨s.toArray⟩)) :
 SeqStopsK Fence.wide n Tryz.prog 79 #[.pointer (some ⟨Bn,0,none⟩)] (fun x:Txt=>#[Value.string ⟨x.1.toArray⟩]) (Below n₀) (fun ys=>txts ys=zad K s) (fun pre=>txts pre <+: zad K s) K w:=fun l J Jx W hW _ _ hY h0 =>
 whole1 n l Bn K h1 s hs hK n₀ J Jx hY W ((hW.cell (p:=⟨Bn,0,none⟩) hBn).trans hc) h0
theorem zcD {F:Fence} {n:Nat} {P:Program} {w w':World} {ops:Array Oper} {o:Oper} {a:Act} {K:Act→World→Prop} {Q:Exit→Act→World→Prop} {E:Prop} (hgd:o.guard=none) (s x:Operand) (t:TypeId)
 (hop:o.op=.call { callee:=.builtin .append,args:=#[s,x],argTypes:=#[t,t] }) (v u v':Value) (hs:a.eval s=v) (hx:a.eval x=u)
 (hrun:(Builtin.append_ #[t,t] o.type #[v,u]).run P w=.ok v' w') (h:K (a.put o.dst v') w') :
 if Region.wanted o (yielded ops a.tmps)=true then Oper.wpIn F n P o a w K Q else E:=by
 have hw:Region.wanted o (yielded ops a.tmps)=true:=by simp [Region.wanted,hgd]
 rw [if_pos hw]
 unfold Oper.wpIn
 refine ⟨?_,?_⟩
 ·
  simp [Oper.about,hop,resolve,Target.leads,Sem.run_pure]
 ·
  rw [Oper.semAt_plain F _ _ (by rw [hop];intro c hc';cases hc')]
  simp [execOp,hop,resolve,invoke,builtin,hs,hx,hrun,Result.andThen]
  exact h
theorem ziF {W w1:World} {h n g k cp:Nat} {xs:List Value} (hrow:W.ownsRow h 9 1 (.slice (some ⟨g,0,none⟩) k cp) n xs) (hb:Below W.drew.heap.size W.drew w1):w1.ownsRow h 9 1 (.slice (some ⟨g,0,none⟩) k cp) n xs :=
 World.ownsRow.kept (show W.drew.ownsRow h 9 1 (.slice (some ⟨g,0,none⟩) k cp) n xs from hrow) (Below.by hb) (.inr (by simp [Value.ownBlock]))
theorem zeu {W w1:World} {B:Nat} {t:TypeId} {v:Value} (hv:Boxed W B t v) (hb:Below W.drew.heap.size W.drew w1):Boxed w1 B t v:=(hb.block B hv.lt).trans hv
theorem zbs {W X:World} {h B g k cp:Nat} {pre:List Txt} {x:Txt} {u:Value} (hkk:KeepsOthers W X) (hbb:Below h W X) (hv:Boxed X (h+1) 35 (.slice (some ⟨g,0,none⟩) k cp)) (hu:Boxed X (h+1+1) 3 u)
 (hr:X.ownsRow h 9 1 (.slice (some ⟨g,0,none⟩) k cp) (txts pre++[x.1]).length (strV (txts pre++[x.1]))) (Y:World) (hY:Y=X.setCell ⟨h+1+1,0,none⟩ (.int .i64 ((za1 (txts pre):Int)+(16+(x.1.length:Int))))) :
 KeepsFrom B W Y∧Below h W Y∧(∃ v,Boxed Y (h+1) 35 v∧Y.ownsRow h 9 1 v (txts (pre++[x])).length (strV (txts (pre++[x])))∧v≠.slice none 0 0)∧Boxed Y (h+1+1) 3 (.int .i64 (za1 (txts (pre++[x])):Nat)):=by
 subst hY
 refine ⟨(hkk.trans (KeepsOthers.setCell _ _ _)).from _,hbb.setCell (p:=⟨h+1+1,0,none⟩) (by show h≤h+1+1;omega) _,⟨_,hv.other (by omega) _,?_,by simp⟩,?_⟩
 ·
  rw [zgs]
  exact hr.kept (grownBy_setCell' X (h+1+1) _) (.inr (hu.not_row (by decide) hr).symm)
 ·
  rw [zgs,zbF]
  have e:((za1 (txts pre)+(16+x.1.length):Nat):Int)=(za1 (txts pre):Int)+(16+(x.1.length:Int)):=by omega
  rw [e]
  exact hu.set _
set_option maxRecDepth 100000 in
set_option maxHeartbeats 4000000 in
set_option maxRecDepth 100000 in
theorem zlH (l:List UInt8) (w:World) (hl:l.length≤1048576) :
 Calls Tryz.prog 21 #[.string ⟨l.toArray⟩] w fun e w'=>∃ v,e=.returned (.tuple #[v,.int .i64 (za1 (za2 l):Nat)])∧w'.ownsRow w.heap.size 9 1 v (za2 l).length (strV (za2 l))∧v≠.slice none 0 0∧Below w.heap.size w w':=by
 obtain ⟨i0,hi,hz0,hz1,hz2⟩:=info_parts zlp
 have hown0:=(World.ownsRow_lit (base:=w.heap.size) (e:=9) (size:=1) w #[] 0 (Nat.le_refl _) (by decide) rfl)
 refine (callsIn_wide (n:=6)).1 ?_
 refine callsIn_of_wp_marks Tryz.func21 rfl trivial ?_ rfl
 simp only [Tryz.ntmps21,List.size_toArray,List.length_cons,List.length_nil,Nat.reduceAdd,Nat.reduceSub,Array.replicate_succ,Array.replicate_zero,List.push_toArray,List.append_toArray,List.nil_append,List.cons_append]
 gi_wp2_with (refine ⟨trivial,?_⟩;gi_at_call 47;refine (zmU l _ _).mono ?_;rintro e w' ⟨rfl,rfl⟩)
 obtain ⟨h,hh⟩:∃ h,w.heap.size=h:=⟨_,rfl⟩
 obtain ⟨W0,hW0⟩:∃ W0,((((w.alloc (.cells #[] 9)).alloc (.cells #[.slice (some ⟨w.heap.size,0,none⟩) 0 0] 35)).alloc (.cells #[.int .i64 0] 3)).alloc (.cells #[.string ⟨l.toArray⟩] 9))=W0:=⟨_,rfl⟩
 have hB0:Below w.heap.size w W0:=by
  rw [←hW0];exact ((((Below.refl _ w).alloc (Nat.le_refl _) _).alloc (by simp) _).alloc (by simp;omega) _).alloc (by simp;omega) _
 have hsz:W0.heap.size=h+4:=by rw [←hW0];simp [hh]
 have bT:Boxed W0 (h+1) 35 (.slice (some ⟨h,0,none⟩) 0 0):=by
  have b:=Boxed.new (w.alloc (.cells #[] 9)) 35 (.slice (some ⟨w.heap.size,0,none⟩) 0 0)
  rw [World.size_alloc,hh] at b
  rw [←hW0,hh];exact (b.alloc _).alloc _
 have bU:Boxed W0 (h+1+1) 3 (.int .i64 0):=by
  have b:=Boxed.new ((w.alloc (.cells #[] 9)).alloc (.cells #[.slice (some ⟨w.heap.size,0,none⟩) 0 0] 35)) 3 (.int .i64 0)
  rw [World.size_alloc,World.size_alloc,hh] at b
  rw [←hW0,hh];exact b.alloc _
 have bS:Boxed W0 (h+1+1+1) 9 (.string ⟨l.toArray⟩):=by
  have b:=Boxed.new (((w.alloc (.cells #[] 9)).alloc (.cells #[.slice (some ⟨w.heap.size,0,none⟩) 0 0] 35)).alloc (.cells #[.int .i64 0] 3)) 9 (.string ⟨l.toArray⟩)
  rw [World.size_alloc,World.size_alloc,World.size_alloc,hh] at b
  rw [←hW0,hh];exact b
 have hown:W0.ownsRow h 9 1 (.slice (some ⟨h,0,none⟩) 0 0) 0 (strV []):=by
  rw [hh] at hown0
  rw [←hW0,hh];exact ((hown0.alloc _).alloc _).alloc _
 rw [hW0,hh]
 rw [hh] at hB0
 clear hown0 hW0
 have hmix:Tryz.prog.follows .mixedOrders=true:=by kernel_rfl
 refine wpIn_rangeFunc_ownG rfl (by omega) (gf:=79) (lb:=#[.pointer (some ⟨h+1+1+1,0,none⟩)]) rfl trivial (enters_of Tryz.func79 (by kernel_rfl) rfl)
  (zkV _ (h+1+1+1) (l.length+401) (by omega) l hl (by omega) h W0 bS.lt bS.cell) belowK_t (belowK_b (by omega)) (Below.refl _ _) (fun _=>rfl)
  (fun pre W=>(∃ v,Boxed W (h+1) 35 v∧W.ownsRow h 9 1 v (txts pre).length (strV (txts pre))∧v≠.slice none 0 0)∧Boxed W (h+1+1) 3 (.int .i64 (za1 (txts pre):Nat))∧pre.length<400∧Below h w W)
  (fun c pre W=>(∃ v,Boxed W (h+1) 35 v∧W.ownsRow h 9 1 v (txts pre).length (strV (txts pre))∧v≠.slice none 0 0)∧Boxed W (h+1+1) 3 (.int .i64 (za1 (txts pre):Nat))∧(c=.exit 0∧pre.length=400)∧Below h w W)
  (OwnFrom.and (Own.from (holdsRow_own h (h+1) 35 9 1 (fun pre=>(txts pre).length) (fun pre=>strV (txts pre)) (fun _ v=>v≠.slice none 0 0)) _) (OwnFrom.and (Own.from (boxed_own _ _ _) _) (OwnFrom.and (ownFrom_pure _ _) (ownFrom_below (by omega) (by omega)))))
  (fun c=>OwnFrom.and (Own.from (holdsRow_own h (h+1) 35 9 1 (fun pre=>(txts pre).length) (fun pre=>strV (txts pre)) (fun _ v=>v≠.slice none 0 0)) _) (OwnFrom.and (Own.from (boxed_own _ _ _) _) (OwnFrom.and (ownFrom_pure _ _) (ownFrom_below (by omega) (by omega)))))
  ⟨⟨_,bT,hown,by simp⟩,bU,by simp,hB0⟩
  (fun x=>{ tmps:=#[.string ⟨l.toArray⟩,undef,.slice none 0 0,.int .i64 0,.pointer (some ⟨h+1,0,none⟩),.pointer (some ⟨h+1+1,0,none⟩),.string ⟨x.1.toArray⟩,.slice (some ⟨h,0,none⟩) 0 0,.string ⟨l.toArray⟩,.func (.func 79) #[] #[.pointer (some ⟨h+1+1+1,0,none⟩)],.string ⟨x.1.toArray⟩,undef,undef,undef,undef,undef,undef,undef,undef,undef,undef,undef,undef,undef,undef,undef],defers:=[] }) ?assign ?body ?done ?stop
 case assign =>
  intro l x W K hK
  gi_wp2
  exact hK
 case body =>
  rintro l' pre x W ⟨⟨v,hv,hrow,hne⟩,hu,hlt,hB⟩ _
  obtain ⟨g,cp,rfl⟩:=zdk hrow hne
  have hc:=hv.cell
  have hcu:=hu.cell
  have hx:=x.2
  gi_wp2
  refine wpIn_region_any hmix ?_
  change wpAnyIn _ _ _ _ _ _ _ _ _ (World.drew _)
  refine wpAnyIn_ready (rs:=[0,1]) (by kernel_rfl) (by simp) ?_
  refine AllReadyIn.cons rfl (fun K hK=>?_) (AllReadyIn.cons rfl (fun K hK=>?_) AllReadyIn.nil)
  ·
   go_simp
   refine hK _ _ ?_
   clear hK K
   refine wpAnyIn_ready (rs:=[1]) (by kernel_rfl) (by simp) ?_
   refine AllReadyIn.cons rfl (fun K hK=>?_) AllReadyIn.nil
   go_simp
   refine hK _ _ ?_
   clear hK K
   refine wpAnyIn_ready (rs:=[2]) (by kernel_rfl) (by simp) ?_
   refine AllReadyIn.cons rfl (fun K hK=>?_) AllReadyIn.nil
   go_simp
   refine ⟨trivial,(CallsIn.inRound l' (callsIn_wide.2 (zbb x.1 _ (by omega)))).mono ?_⟩
   rintro e w1 ⟨rfl,hb1⟩
   have hv1:=zeu hv hb1
   have hu1:=zeu hu hb1
   have hrow1:=ziF hrow hb1
   have hc1:=hv1.cell
   have hc1a:=(hv1.alloc (.cells #[.string ⟨x.1.toArray⟩] 9)).cell
   refine hK _ _ ?_
   clear hK K
   refine wpAnyIn_ready (rs:=[3]) (by kernel_rfl) (by simp) ?_
   refine AllReadyIn.cons rfl (fun K hK=>?_) AllReadyIn.nil
   go_simp
   refine hK _ _ ?_
   clear hK K
   refine wpAnyIn_ready (rs:=[4]) (by kernel_rfl) (by simp) ?_
   refine AllReadyIn.cons rfl (fun K hK=>?_) AllReadyIn.nil
   obtain ⟨v',w3,hrun3,hown3,hgrow3,_⟩:=run_append_own (P:=Tryz.prog) (w1.alloc (.cells #[.string ⟨x.1.toArray⟩] 9)) h 35 35 9 i0 (.string ⟨#[]⟩) 1 16 Tryz.underlying35 hi hz0 hz1 hz2 rfl (by decide) _ _ _ (hrow1.alloc _) ⟨w1.heap.size,0,none⟩ 1 1 [.string ⟨x.1.toArray⟩] rfl (cell_one_new _ _ _) (by simp [Value.oneCell']) (by rw [zb6];unfold maxLen;omega) (by rw [zb6];omega) (by have:=hB.size;have:=hb1.size;simp at this ⊢;omega)
   obtain ⟨g',cap',rfl⟩:=ownsRow_succ hown3
   refine zcD rfl _ _ 35 rfl _ _ _ rfl rfl hrun3 ?_
   obtain ⟨hv2,hv3,hr3,hk3,hb3⟩:=hv1.appended (by decide) hrow1 (by have:=hB.size;have:=hb1.size;simp at this;omega) (by omega) hown3 hgrow3
   have hu2:Boxed w3 (h+1+1) 3 _:=(hu1.alloc _).kept hgrow3 (hu1.not_row (by decide) hrow1)
   have hu3:=hu2.other (B':=h+1) (by omega) (.slice (some ⟨g',0,none⟩) ((txts pre).length+1) cap')
   have hc2:=hv2.cell
   have hf2:=hv2.frozen
   have hc3:=hv3.cell
   have hcu3:=hu3.cell
   have hfu3:=hu3.frozen
   have hkk:KeepsOthers W (w3.setCell ⟨h+1,0,none⟩ (.slice (some ⟨g',0,none⟩) ((txts pre).length+1) cap')):=((KeepsOthers.drew W).trans (KeepsOthers.of_grownBy (Below.by hb1) (fun _ _ e=>by cases e))).trans hk3
   have hbb:Below h W (w3.setCell ⟨h+1,0,none⟩ (.slice (some ⟨g',0,none⟩) ((txts pre).length+1) cap')):=(show Below h W w1 from (⟨hb1.os,hb1.tape,hb1.output,hb1.size,fun k hk=>hb1.block k (by have:=hB.size;simp;omega)⟩)).trans hb3
   go_simp
   refine hK _ _ ?_
   clear hK K
   refine wpAnyIn_ready (rs:=[5]) (by kernel_rfl) (by simp) ?_
   refine AllReadyIn.cons rfl (fun K hK=>?_) AllReadyIn.nil
   go_simp
   refine hK _ _ ?_
   clear hK K
   refine wpAnyIn_done (by kernel_rfl) ?_ _
   have hbd:=zdq pre
   have hbd2:(za1 (txts pre):Int)≤8006400:=by omega
   have hr4:=zdA hr3
   by_cases hq:(((txts pre).length:Int)+1)=400
   ·
    gi_wp2
    obtain ⟨e1,_,e3,e4⟩:=zbs (B:=W0.heap.size) hkk hbb hv3 hu3 hr4 _ rfl
    exact ⟨e1,e3,e4,⟨rfl,by rw [List.length_append,List.length_singleton];rw [zb6] at hq;omega⟩,hB.trans (zbs (B:=0) hkk hbb hv3 hu3 hr4 _ rfl).2.1⟩
   ·
    gi_wp2
    obtain ⟨e1,e2,e3,e4⟩:=zbs (B:=W0.heap.size) hkk hbb hv3 hu3 hr4 _ rfl
    exact ⟨e1,e2,e3,e4,by rw [List.length_append,List.length_singleton];rw [zb6] at hq;omega,hB.trans e2⟩
  ·
   go_simp
   refine hK _ _ ?_
   clear hK K
   refine wpAnyIn_ready (rs:=[0,2]) (by kernel_rfl) (by simp) ?_
   refine AllReadyIn.cons rfl (fun K hK=>?_) (AllReadyIn.cons rfl (fun K hK=>?_) AllReadyIn.nil)
   ·
    go_simp
    refine hK _ _ ?_
    clear hK K
    refine wpAnyIn_ready (rs:=[2]) (by kernel_rfl) (by simp) ?_
    refine AllReadyIn.cons rfl (fun K hK=>?_) AllReadyIn.nil
    go_simp
    refine ⟨trivial,(CallsIn.inRound l' (callsIn_wide.2 (zbb x.1 _ (by omega)))).mono ?_⟩
    rintro e w1 ⟨rfl,hb1⟩
    have hv1:=zeu hv hb1
    have hu1:=zeu hu hb1
    have hrow1:=ziF hrow hb1
    have hc1:=hv1.cell
    have hc1a:=(hv1.alloc (.cells #[.string ⟨x.1.toArray⟩] 9)).cell
    refine hK _ _ ?_
    clear hK K
    refine wpAnyIn_ready (rs:=[3]) (by kernel_rfl) (by simp) ?_
    refine AllReadyIn.cons rfl (fun K hK=>?_) AllReadyIn.nil
    go_simp
    refine hK _ _ ?_
    clear hK K
    refine wpAnyIn_ready (rs:=[4]) (by kernel_rfl) (by simp) ?_
    refine AllReadyIn.cons rfl (fun K hK=>?_) AllReadyIn.nil
    obtain ⟨v',w3,hrun3,hown3,hgrow3,_⟩:=run_append_own (P:=Tryz.prog) (w1.alloc (.cells #[.string ⟨x.1.toArray⟩] 9)) h 35 35 9 i0 (.string ⟨#[]⟩) 1 16 Tryz.underlying35 hi hz0 hz1 hz2 rfl (by decide) _ _ _ (hrow1.alloc _) ⟨w1.heap.size,0,none⟩ 1 1 [.string ⟨x.1.toArray⟩] rfl (cell_one_new _ _ _) (by simp [Value.oneCell']) (by rw [zb6];unfold maxLen;omega) (by rw [zb6];omega) (by have:=hB.size;have:=hb1.size;simp at this ⊢;omega)
    obtain ⟨g',cap',rfl⟩:=ownsRow_succ hown3
    refine zcD rfl _ _ 35 rfl _ _ _ rfl rfl hrun3 ?_
    obtain ⟨hv2,hv3,hr3,hk3,hb3⟩:=hv1.appended (by decide) hrow1 (by have:=hB.size;have:=hb1.size;simp at this;omega) (by omega) hown3 hgrow3
    have hu2:Boxed w3 (h+1+1) 3 _:=(hu1.alloc _).kept hgrow3 (hu1.not_row (by decide) hrow1)
    have hu3:=hu2.other (B':=h+1) (by omega) (.slice (some ⟨g',0,none⟩) ((txts pre).length+1) cap')
    have hc2:=hv2.cell
    have hf2:=hv2.frozen
    have hc3:=hv3.cell
    have hcu3:=hu3.cell
    have hfu3:=hu3.frozen
    have hkk:KeepsOthers W (w3.setCell ⟨h+1,0,none⟩ (.slice (some ⟨g',0,none⟩) ((txts pre).length+1) cap')):=((KeepsOthers.drew W).trans (KeepsOthers.of_grownBy (Below.by hb1) (fun _ _ e=>by cases e))).trans hk3
    have hbb:Below h W (w3.setCell ⟨h+1,0,none⟩ (.slice (some ⟨g',0,none⟩) ((txts pre).length+1) cap')):=(show Below h W w1 from (⟨hb1.os,hb1.tape,hb1.output,hb1.size,fun k hk=>hb1.block k (by have:=hB.size;simp;omega)⟩)).trans hb3
    go_simp
    refine hK _ _ ?_
    clear hK K
    refine wpAnyIn_ready (rs:=[5]) (by kernel_rfl) (by simp) ?_
    refine AllReadyIn.cons rfl (fun K hK=>?_) AllReadyIn.nil
    go_simp
    refine hK _ _ ?_
    clear hK K
    refine wpAnyIn_done (by kernel_rfl) ?_ _
    have hbd:=zdq pre
    have hbd2:(za1 (txts pre):Int)≤8006400:=by omega
    have hr4:=zdA hr3
    by_cases hq:(((txts pre).length:Int)+1)=400
    ·
     gi_wp2
     obtain ⟨e1,_,e3,e4⟩:=zbs (B:=W0.heap.size) hkk hbb hv3 hu3 hr4 _ rfl
     exact ⟨e1,e3,e4,⟨rfl,by rw [List.length_append,List.length_singleton];rw [zb6] at hq;omega⟩,hB.trans (zbs (B:=0) hkk hbb hv3 hu3 hr4 _ rfl).2.1⟩
    ·
     gi_wp2
     obtain ⟨e1,e2,e3,e4⟩:=zbs (B:=W0.heap.size) hkk hbb hv3 hu3 hr4 _ rfl
     exact ⟨e1,e2,e3,e4,by rw [List.length_append,List.length_singleton];rw [zb6] at hq;omega,hB.trans e2⟩
   ·
    go_simp
    refine ⟨trivial,(CallsIn.inRound l' (callsIn_wide.2 (zbb x.1 _ (by omega)))).mono ?_⟩
    rintro e w1 ⟨rfl,hb1⟩
    have hv1:=zeu hv hb1
    have hu1:=zeu hu hb1
    have hrow1:=ziF hrow hb1
    have hc1:=hv1.cell
    have hc1a:=(hv1.alloc (.cells #[.string ⟨x.1.toArray⟩] 9)).cell
    refine hK _ _ ?_
    clear hK K
    refine wpAnyIn_ready (rs:=[0,3]) (by kernel_rfl) (by simp) ?_
    refine AllReadyIn.cons rfl (fun K hK=>?_) (AllReadyIn.cons rfl (fun K hK=>?_) AllReadyIn.nil)
    ·
     go_simp
     refine hK _ _ ?_
     clear hK K
     refine wpAnyIn_ready (rs:=[3]) (by kernel_rfl) (by simp) ?_
     refine AllReadyIn.cons rfl (fun K hK=>?_) AllReadyIn.nil
     go_simp
     refine hK _ _ ?_
     clear hK K
     refine wpAnyIn_ready (rs:=[4]) (by kernel_rfl) (by simp) ?_
     refine AllReadyIn.cons rfl (fun K hK=>?_) AllReadyIn.nil
     obtain ⟨v',w3,hrun3,hown3,hgrow3,_⟩:=run_append_own (P:=Tryz.prog) (w1.alloc (.cells #[.string ⟨x.1.toArray⟩] 9)) h 35 35 9 i0 (.string ⟨#[]⟩) 1 16 Tryz.underlying35 hi hz0 hz1 hz2 rfl (by decide) _ _ _ (hrow1.alloc _) ⟨w1.heap.size,0,none⟩ 1 1 [.string ⟨x.1.toArray⟩] rfl (cell_one_new _ _ _) (by simp [Value.oneCell']) (by rw [zb6];unfold maxLen;omega) (by rw [zb6];omega) (by have:=hB.size;have:=hb1.size;simp at this ⊢;omega)
     obtain ⟨g',cap',rfl⟩:=ownsRow_succ hown3
     refine zcD rfl _ _ 35 rfl _ _ _ rfl rfl hrun3 ?_
     obtain ⟨hv2,hv3,hr3,hk3,hb3⟩:=hv1.appended (by decide) hrow1 (by have:=hB.size;have:=hb1.size;simp at this;omega) (by omega) hown3 hgrow3
     have hu2:Boxed w3 (h+1+1) 3 _:=(hu1.alloc _).kept hgrow3 (hu1.not_row (by decide) hrow1)
     have hu3:=hu2.other (B':=h+1) (by omega) (.slice (some ⟨g',0,none⟩) ((txts pre).length+1) cap')
     have hc2:=hv2.cell
     have hf2:=hv2.frozen
     have hc3:=hv3.cell
     have hcu3:=hu3.cell
     have hfu3:=hu3.frozen
     have hkk:KeepsOthers W (w3.setCell ⟨h+1,0,none⟩ (.slice (some ⟨g',0,none⟩) ((txts pre).length+1) cap')):=((KeepsOthers.drew W).trans (KeepsOthers.of_grownBy (Below.by hb1) (fun _ _ e=>by cases e))).trans hk3
     have hbb:Below h W (w3.setCell ⟨h+1,0,none⟩ (.slice (some ⟨g',0,none⟩) ((txts pre).length+1) cap')):=(show Below h W w1 from (⟨hb1.os,hb1.tape,hb1.output,hb1.size,fun k hk=>hb1.block k (by have:=hB.size;simp;omega)⟩)).trans hb3
     go_simp
     refine hK _ _ ?_
     clear hK K
     refine wpAnyIn_ready (rs:=[5]) (by kernel_rfl) (by simp) ?_
     refine AllReadyIn.cons rfl (fun K hK=>?_) AllReadyIn.nil
     go_simp
     refine hK _ _ ?_
     clear hK K
     refine wpAnyIn_done (by kernel_rfl) ?_ _
     have hbd:=zdq pre
     have hbd2:(za1 (txts pre):Int)≤8006400:=by omega
     have hr4:=zdA hr3
     by_cases hq:(((txts pre).length:Int)+1)=400
     ·
      gi_wp2
      obtain ⟨e1,_,e3,e4⟩:=zbs (B:=W0.heap.size) hkk hbb hv3 hu3 hr4 _ rfl
      exact ⟨e1,e3,e4,⟨rfl,by rw [List.length_append,List.length_singleton];rw [zb6] at hq;omega⟩,hB.trans (zbs (B:=0) hkk hbb hv3 hu3 hr4 _ rfl).2.1⟩
     ·
      gi_wp2
      obtain ⟨e1,e2,e3,e4⟩:=zbs (B:=W0.heap.size) hkk hbb hv3 hu3 hr4 _ rfl
      exact ⟨e1,e2,e3,e4,by rw [List.length_append,List.length_singleton];rw [zb6] at hq;omega,hB.trans e2⟩
    ·
     go_simp
     refine hK _ _ ?_
     clear hK K
     refine wpAnyIn_ready (rs:=[0]) (by kernel_rfl) (by simp) ?_
     refine AllReadyIn.cons rfl (fun K hK=>?_) AllReadyIn.nil
     go_simp
     refine hK _ _ ?_
     clear hK K
     refine wpAnyIn_ready (rs:=[4]) (by kernel_rfl) (by simp) ?_
     refine AllReadyIn.cons rfl (fun K hK=>?_) AllReadyIn.nil
     obtain ⟨v',w3,hrun3,hown3,hgrow3,_⟩:=run_append_own (P:=Tryz.prog) (w1.alloc (.cells #[.string ⟨x.1.toArray⟩] 9)) h 35 35 9 i0 (.string ⟨#[]⟩) 1 16 Tryz.underlying35 hi hz0 hz1 hz2 rfl (by decide) _ _ _ (hrow1.alloc _) ⟨w1.heap.size,0,none⟩ 1 1 [.string ⟨x.1.toArray⟩] rfl (cell_one_new _ _ _) (by simp [Value.oneCell']) (by rw [zb6];unfold maxLen;omega) (by rw [zb6];omega) (by have:=hB.size;have:=hb1.size;simp at this ⊢;omega)
     obtain ⟨g',cap',rfl⟩:=ownsRow_succ hown3
     refine zcD rfl _ _ 35 rfl _ _ _ rfl rfl hrun3 ?_
     obtain ⟨hv2,hv3,hr3,hk3,hb3⟩:=hv1.appended (by decide) hrow1 (by have:=hB.size;have:=hb1.size;simp at this;omega) (by omega) hown3 hgrow3
     have hu2:Boxed w3 (h+1+1) 3 _:=(hu1.alloc _).kept hgrow3 (hu1.not_row (by decide) hrow1)
     have hu3:=hu2.other (B':=h+1) (by omega) (.slice (some ⟨g',0,none⟩) ((txts pre).length+1) cap')
     have hc2:=hv2.cell
     have hf2:=hv2.frozen
     have hc3:=hv3.cell
     have hcu3:=hu3.cell
     have hfu3:=hu3.frozen
     have hkk:KeepsOthers W (w3.setCell ⟨h+1,0,none⟩ (.slice (some ⟨g',0,none⟩) ((txts pre).length+1) cap')):=((KeepsOthers.drew W).trans (KeepsOthers.of_grownBy (Below.by hb1) (fun _ _ e=>by cases e))).trans hk3
     have hbb:Below h W (w3.setCell ⟨h+1,0,none⟩ (.slice (some ⟨g',0,none⟩) ((txts pre).length+1) cap')):=(show Below h W w1 from (⟨hb1.os,hb1.tape,hb1.output,hb1.size,fun k hk=>hb1.block k (by have:=hB.size;simp;omega)⟩)).trans hb3
     go_simp
     refine hK _ _ ?_
     clear hK K
     refine wpAnyIn_ready (rs:=[5]) (by kernel_rfl) (by simp) ?_
     refine AllReadyIn.cons rfl (fun K hK=>?_) AllReadyIn.nil
     go_simp
     refine hK _ _ ?_
     clear hK K
     refine wpAnyIn_done (by kernel_rfl) ?_ _
     have hbd:=zdq pre
     have hbd2:(za1 (txts pre):Int)≤8006400:=by omega
     have hr4:=zdA hr3
     by_cases hq:(((txts pre).length:Int)+1)=400
     ·
      gi_wp2
      obtain ⟨e1,_,e3,e4⟩:=zbs (B:=W0.heap.size) hkk hbb hv3 hu3 hr4 _ rfl
      exact ⟨e1,e3,e4,⟨rfl,by rw [List.length_append,List.length_singleton];rw [zb6] at hq;omega⟩,hB.trans (zbs (B:=0) hkk hbb hv3 hu3 hr4 _ rfl).2.1⟩
     ·
      gi_wp2
      obtain ⟨e1,e2,e3,e4⟩:=zbs (B:=W0.heap.size) hkk hbb hv3 hu3 hr4 _ rfl
      exact ⟨e1,e2,e3,e4,by rw [List.length_append,List.length_singleton];rw [zb6] at hq;omega,hB.trans e2⟩
 case done =>
  rintro D ys W hD hS ⟨⟨v,hv,hrow,hne⟩,hu,hlt,hB⟩ hK
  have HF:Hid (za2 l=txts ys):=by
   unfold za2
   rw [zdI 400 (l.length+401) l (by omega),←hS]
   exact List.take_of_length_le (by rw [zb6];omega)
  have hc:=hv.cell
  have hcu:=hu.cell
  clear hS
  gi_wp2
  gi_region
  gi_wp2
  have hKd:W.drew.heap[D]?=some (.deferred (some [])):=hK
  refine ⟨by simp,.inl ⟨_,_,rfl,run_takeDeferred hKd,?_⟩⟩
  refine ⟨_,results_tmp2 rfl _ _ _,v,?_,?_,hne,?_⟩
  ·
   rw [HF.out];rfl
  ·
   rw [HF.out,hh];exact ownsRow_putObj (show W.drew.ownsRow h 9 1 v _ _ from hrow) _ hKd rfl
  ·
   rw [hh];exact (show Below h w W.drew from ⟨hB.os,hB.tape,hB.output,hB.size,hB.block⟩).trans (belowK_b (w:=w) (by omega) W.drew D _ _ (by omega) hKd rfl rfl)
 case stop =>
  rintro D c pre W hD hS ⟨⟨v,hv,hrow,hne⟩,hu,⟨rfl,hlt⟩,hB⟩ hK
  have HF:Hid (za2 l=txts pre):=by
   unfold za2
   rw [zdI 400 (l.length+401) l (by omega)]
   obtain ⟨r,hr⟩:=hS
   rw [←hr,List.take_append_of_le_length (by rw [zb6];omega)]
   exact List.take_of_length_le (by rw [zb6];omega)
  have hc:=hv.cell
  have hcu:=hu.cell
  clear hS
  gi_wp2
  gi_region
  gi_wp2
  have hKd:W.drew.heap[D]?=some (.deferred (some [])):=hK
  refine ⟨by simp,.inl ⟨_,_,rfl,run_takeDeferred hKd,?_⟩⟩
  refine ⟨_,results_tmp2 rfl _ _ _,v,?_,?_,hne,?_⟩
  ·
   rw [HF.out];rfl
  ·
   rw [HF.out,hh];exact ownsRow_putObj (show W.drew.ownsRow h 9 1 v _ _ from hrow) _ hKd rfl
  ·
   rw [hh];exact (show Below h w W.drew from ⟨hB.os,hB.tape,hB.output,hB.size,hB.block⟩).trans (belowK_b (w:=w) (by omega) W.drew D _ _ (by omega) hKd rfl rfl)
theorem znC (l:List UInt8) (w:World) (hl:l.length≤1048576) :
 Calls Tryz.prog 21 #[.string ⟨l.toArray⟩] w fun e w'=>∃ v,e=.returned (.tuple #[v,.int .i64 (za1 (za2 l):Nat)])∧w'.ownsRow w.heap.size 9 1 v (za2 l).length (strV (za2 l))∧Below w.heap.size w w' :=
 (zlH l w hl).mono fun _ _ ⟨v,h,k,_,m⟩=>⟨v,h,k,m⟩
theorem zlG (l:List UInt8) (fs:List (List UInt8)) (k u:Nat) (w:World) (hl:l.length≤1048576) (hf:za2 l=fs) (hk:fs.length=k) (hu:za1 fs=u) :
 Calls Tryz.prog 21 #[.string ⟨l.toArray⟩] w fun e w'=>∃ v,e=.returned (.tuple #[v,.int .i64 (u:Int)])∧w'.ownsRow w.heap.size 9 1 v k (strV fs)∧Below w.heap.size w w':=by
 subst hf hk hu;exact znC l w hl
end

end Go.Proofs.YtdbljnddkbpanaaGreatDoor
