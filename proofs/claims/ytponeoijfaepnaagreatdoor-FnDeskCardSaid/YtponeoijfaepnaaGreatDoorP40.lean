/-
  Parts of one proof, one behind the other: FramesI, NewK.
-/
import Derived.Test.YtponeoijfaepnaaGreatDoorP39
namespace Go.Proofs.YtponeoijfaepnaaGreatDoor
open Go.RowKit
set_option maxHeartbeats 8000000
set_option maxRecDepth 100000
section
open Go.RowKit Go.Shelf
attribute [local go_sem] Oper.semAt_some
abbrev Txt:={ t:List UInt8 // t.length≤20000 }
def txts (xs:List Txt):List (List UInt8):=xs.map (·.1)
theorem zgj (xs:List Txt) (x:Txt):txts (xs++[x])=txts xs++[x.1]:=by simp [txts]
theorem zb5 (xs:List Txt):(txts xs).length=xs.length:=by simp [txts]
theorem zdy:∀ (j k:Nat) (l:List UInt8),j≤k→zal j l=(zal k l).take j
 | 0,_,_,_=>by simp [zal]
 | j+1,0,_,h=>absurd h (by omega)
 | j+1,k+1,l,h=>by
  unfold zal;by_cases hb:zb1 l=true
  ·rw [if_pos hb,if_pos hb,List.take_succ_cons,zdy j k _ (by omega)]
  ·rw [if_neg hb,if_neg hb,List.take_nil]
theorem zdj:∀ xs:List Txt,za3 (txts xs)≤xs.length*20016
 | []=>by simp [txts,za3]
 | x :: xs=>by
  have h:=zdj xs;have hx:=x.2;have e:za3 (txts (x :: xs))=16+x.1.length+za3 (txts xs):=rfl;rw [e,List.length_cons];omega
theorem zmo (l:List UInt8) (n:Nat) (w:World) :
 CallsIn Fence.wide n Tryz.prog 96 #[.string ⟨l.toArray⟩] w fun e w'=>e=.returned (.func (.func 117) #[] #[.pointer (some ⟨w.heap.size,0,none⟩)])∧w'=w.alloc (.cells #[.string ⟨l.toArray⟩] 9):=by
 refine callsIn_of_wp Tryz.func96 rfl trivial ?_ rfl;simp only [Tryz.ntmps96,List.size_toArray,List.length_cons,List.length_nil,Nat.reduceAdd,Nat.reduceSub,Array.replicate_succ,Array.replicate_zero,List.push_toArray,List.append_toArray,List.nil_append,List.cons_append]
 gi_wp2
 go_ret;exact ⟨rfl,rfl⟩
theorem zmn (K:Nat) (l r:List UInt8) (pre:List Txt) (hlen:pre.length+r.length<K) (hgo:txts pre++zal (K-pre.length) r=zal K l) (hb:zb1 r=true) :
 (zax r).length≤20000∧16+(zax r).length≤r.length∧∀ x:Txt,x.1=zax r→txts (pre++[x])++zal (K-(pre++[x]).length) (r.drop (16+(zax r).length))=zal K l:=by
 refine ⟨(zf9 r hb).1,zhS r hb,fun x hx=>?_⟩;rw [zgj,hx,List.length_append,List.length_singleton,←hgo,show K-pre.length=(K-(pre.length+1))+1 by omega,zd0 _ _ hb,List.append_assoc,List.singleton_append]
theorem whole1 (n l Bn K:Nat) (h1:1≤n) (s:List UInt8) (hs:s.length≤1048576) (hK:s.length<K) (n₀:Nat) (J Jx:List Txt→World→Prop)
 (hY:∀ pre x W,J pre W→pre.length<K→YieldAt Fence.wide (n-1) Tryz.prog l #[.string ⟨x.1.toArray⟩] W fun e W' =>
  (e=.returned (.bool true)∧J (pre++[x]) W'∧Below n₀ W W')∨(e=.returned (.bool false)∧Jx (pre++[x]) W'))
 (W:World) (hBn:W.cell? ⟨Bn,0,none⟩=some (.string ⟨s.toArray⟩)) (h0:J [] W) :
 CallsIn Fence.wide n Tryz.prog 117 #[.func (.yield l) #[] #[],.pointer (some ⟨Bn,0,none⟩)] W fun e W'=>(∃ v,e=.returned v) ∧
  ((∃ ys,txts ys=zal K s∧J ys W')∨(∃ pre,txts pre <+: zal K s∧Jx pre W')):=by
 have hext:=zd1;refine callsIn_of_wp Tryz.func117 rfl trivial ?_ rfl;simp only [Tryz.ntmps117,List.size_toArray,List.length_cons,List.length_nil,Nat.reduceAdd,Nat.reduceSub,Array.replicate_succ,Array.replicate_zero,List.push_toArray,List.append_toArray,List.nil_append,List.cons_append]
 gi_wp2
 gi_loopw [3] (fun p wr=>∃ (pre:List Txt) (r:List UInt8),p=.string ⟨r.toArray⟩∧r.length≤s.length∧pre.length+r.length<K∧txts pre++zal (K-pre.length) r=zal K s∧J pre wr)
  (fun p _=>match p with | .string b=>b.size | _=>0)
 case atStart=>exact ⟨[],s,rfl,Nat.le_refl _,by simpa using hK,by simp [txts],h0⟩
 case round =>
  obtain ⟨pre,r,rfl,hrl,hlen,hgo,hJs⟩:=hrel;have HG:Hid (txts pre++zal (K-pre.length) r=zal K s):=hgo;clear hgo;have hr1:r.length≤1048576:=by omega
  rcases hbb:zb1 r with _ | _
  ·
   have HX:Hid (zax r=[]∧zb1 r=false):=⟨(zco r (of_decide_eq_false hbb)).1,hbb⟩
   have HE:Hid (txts pre=zal K s):=by have:=HG.out;rw [zdz _ _ hbb,List.append_nil] at this;exact this
   clear hbb
   gi_wp2_with (refine ⟨trivial,?_⟩;gi_at_call 118;refine (callsIn_wide.2 (zhK r [] false _ hr1 HX.out.1 HX.out.2)).mono ?_;rintro e w1 ⟨rfl,rfl⟩)
   refine ⟨fun _ h=>(by cases h),?_⟩
   gi_wp2
   refine bodyPost_ret (results_none rfl _ _ _) rfl ?_;exact ⟨⟨_,rfl⟩,.inl ⟨pre,HE.out,hJs⟩⟩
  ·
   obtain ⟨hT,hfit,hst⟩:=zmn K s r pre hlen HG.out hbb;obtain ⟨x,hx⟩:∃ x:Txt,x.1=zax r:=⟨⟨zax r,hT⟩,rfl⟩
   have HS:Hid (txts (pre++[x])++zal (K-(pre++[x]).length) (r.drop (16+x.1.length))=zal K s):=by have:=hst x hx;rw [←hx] at this;exact this
   rw [←hx] at hfit hT;have HX:Hid (zax r=x.1∧zb1 r=true):=⟨hx.symm,hbb⟩;clear hst hx hbb;have hfit2:16+(x.1.length:Int)≤(r.length:Int):=by omega
   have htk:List.take (r.length-(16+x.1.length)) (List.drop (16+x.1.length) r)=List.drop (16+x.1.length) r:=List.take_of_length_le (by rw [List.length_drop];omega);obtain ⟨fn,tmps,assign,body,hy,hR⟩:=hY pre x wr hJs (by omega)
   gi_wp2_with (refine ⟨trivial,?_⟩;gi_at_call 118;refine (callsIn_wide.2 (zhK r x.1 true _ hr1 HX.out.1 HX.out.2)).mono ?_;rintro e w1 ⟨rfl,rfl⟩)
   refine hR.mono ?_;rintro e W3 (⟨rfl,hJ3,hk3⟩ | ⟨rfl,hJx3⟩)
   ·
    gi_wp2
    refine ⟨⟨pre++[x],r.drop (16+x.1.length),by rw [htk],by rw [List.length_drop];omega,by rw [List.length_drop,List.length_append,List.length_singleton];omega,HS.out,hJ3⟩,?_⟩;rw [htk]
    show (List.drop (16+x.1.length) r).toArray.size<r.toArray.size
    rw [List.size_toArray,List.size_toArray,List.length_drop];omega
   ·
    gi_wp2
    refine bodyPost_ret (results_none rfl _ _ _) rfl ?_;refine ⟨⟨_,rfl⟩,.inr ⟨pre++[x],?_,hJx3⟩⟩;rw [←HS.out];exact List.prefix_append _ _
theorem zkg (n Bn K:Nat) (h1:1≤n) (s:List UInt8) (hs:s.length≤1048576) (hK:s.length<K) (n₀:Nat) (w:World) (hBn:Bn<w.heap.size) (hc:w.cell? ⟨Bn,0,none⟩=some (.string ⟨s.toArray⟩)) :
 SeqStopsK Fence.wide n Tryz.prog 117 #[.pointer (some ⟨Bn,0,none⟩)] (fun x:Txt=>#[Value.string ⟨x.1.toArray⟩]) (Below n₀) (fun ys=>txts ys=zal K s) (fun pre=>txts pre <+: zal K s) K w:=fun l J Jx W hW _ _ hY h0 =>
 whole1 n l Bn K h1 s hs hK n₀ J Jx hY W ((hW.cell (p:=⟨Bn,0,none⟩) hBn).trans hc) h0
theorem zcy {F:Fence} {n:Nat} {P:Program} {w w':World} {ops:Array Oper} {o:Oper} {a:Act} {K:Act→World→Prop} {Q:Exit→Act→World→Prop} {E:Prop} (hgd:o.guard=none) (s x:Operand) (t:TypeId)
 (hop:o.op=.call { callee:=.builtin .append,args:=#[s,x],argTypes:=#[t,t] }) (v u v':Value) (hs:a.eval s=v) (hx:a.eval x=u)
 (hrun:(Builtin.append_ #[t,t] o.type #[v,u]).run P w=.ok v' w') (h:K (a.put o.dst v') w') :
 if Region.wanted o (yielded ops a.tmps)=true then Oper.wpIn F n P o a w K Q else E:=by
 have hw:Region.wanted o (yielded ops a.tmps)=true:=by simp [Region.wanted,hgd]
 rw [if_pos hw];unfold Oper.wpIn;refine ⟨?_,?_⟩
 ·simp [Oper.about,hop,resolve,Target.leads,Sem.run_pure]
 ·rw [Oper.semAt_plain F _ _ (by rw [hop];intro c hc';cases hc')];simp [execOp,hop,resolve,invoke,builtin,hs,hx,hrun,Result.andThen];exact h
theorem zic {W w1:World} {h n g k cp:Nat} {xs:List Value} (hrow:W.ownsRow h 9 1 (.slice (some ⟨g,0,none⟩) k cp) n xs) (hb:Below W.drew.heap.size W.drew w1):w1.ownsRow h 9 1 (.slice (some ⟨g,0,none⟩) k cp) n xs :=
 World.ownsRow.kept (show W.drew.ownsRow h 9 1 (.slice (some ⟨g,0,none⟩) k cp) n xs from hrow) (Below.by hb) (.inr (by simp [Value.ownBlock]))
theorem zee {W w1:World} {B:Nat} {t:TypeId} {v:Value} (hv:Boxed W B t v) (hb:Below W.drew.heap.size W.drew w1):Boxed w1 B t v:=(hb.block B hv.lt).trans hv
theorem zbt {W X:World} {h B g k cp:Nat} {pre:List Txt} {x:Txt} {u:Value} (hkk:KeepsOthers W X) (hbb:Below h W X) (hv:Boxed X (h+1) 67 (.slice (some ⟨g,0,none⟩) k cp)) (hu:Boxed X (h+1+1) 3 u)
 (hr:X.ownsRow h 9 1 (.slice (some ⟨g,0,none⟩) k cp) (txts pre++[x.1]).length (strV (txts pre++[x.1]))) (Y:World) (hY:Y=X.setCell ⟨h+1+1,0,none⟩ (.int .i64 ((za3 (txts pre):Int)+(16+(x.1.length:Int))))) :
 KeepsFrom B W Y∧Below h W Y∧(∃ v,Boxed Y (h+1) 67 v∧Y.ownsRow h 9 1 v (txts (pre++[x])).length (strV (txts (pre++[x])))∧v≠.slice none 0 0)∧Boxed Y (h+1+1) 3 (.int .i64 (za3 (txts (pre++[x])):Nat)):=by
 subst hY;refine ⟨(hkk.trans (KeepsOthers.setCell _ _ _)).from _,hbb.setCell (p:=⟨h+1+1,0,none⟩) (by show h≤h+1+1;omega) _,⟨_,hv.other (by omega) _,?_,by simp⟩,?_⟩
 ·rw [zgj];exact hr.kept (grownBy_setCell' X (h+1+1) _) (.inr (hu.not_row (by decide) hr).symm)
 ·
  rw [zgj,zbY];have e:((za3 (txts pre)+(16+x.1.length):Nat):Int)=(za3 (txts pre):Int)+(16+(x.1.length:Int)):=by omega
  rw [e];exact hu.set _
theorem zl9 (l:List UInt8) (w:World) (hl:l.length≤1048576) :
 Calls Tryz.prog 67 #[.string ⟨l.toArray⟩] w fun e w'=>∃ v,e=.returned (.tuple #[v,.int .i64 (za3 (zaa l):Nat)])∧w'.ownsRow w.heap.size 9 1 v (zaa l).length (strV (zaa l))∧v≠.slice none 0 0∧Below w.heap.size w w':=by
 obtain ⟨i0,hi,hz0,hz1,hz2⟩:=info_parts zn1;have hown0:=(World.ownsRow_lit (base:=w.heap.size) (e:=9) (size:=1) w #[] 0 (Nat.le_refl _) (by decide) rfl);refine (callsIn_wide (n:=6)).1 ?_;refine callsIn_of_wp_marks Tryz.func67 rfl trivial ?_ rfl;simp only [Tryz.ntmps67,List.size_toArray,List.length_cons,List.length_nil,Nat.reduceAdd,Nat.reduceSub,Array.replicate_succ,Array.replicate_zero,List.push_toArray,List.append_toArray,List.nil_append,List.cons_append]
 gi_wp2_with (refine ⟨trivial,?_⟩;gi_at_call 96;refine (zmo l _ _).mono ?_;rintro e w' ⟨rfl,rfl⟩)
 obtain ⟨h,hh⟩:∃ h,w.heap.size=h:=⟨_,rfl⟩
 obtain ⟨W0,hW0⟩:∃ W0,((((w.alloc (.cells #[] 9)).alloc (.cells #[.slice (some ⟨w.heap.size,0,none⟩) 0 0] 67)).alloc (.cells #[.int .i64 0] 3)).alloc (.cells #[.string ⟨l.toArray⟩] 9))=W0:=⟨_,rfl⟩
 have hB0:Below w.heap.size w W0:=by rw [←hW0];exact ((((Below.refl _ w).alloc (Nat.le_refl _) _).alloc (by simp) _).alloc (by simp;omega) _).alloc (by simp;omega) _
 have hsz:W0.heap.size=h+4:=by rw [←hW0];simp [hh]
 have bT:Boxed W0 (h+1) 67 (.slice (some ⟨h,0,none⟩) 0 0):=by have b:=Boxed.new (w.alloc (.cells #[] 9)) 67 (.slice (some ⟨w.heap.size,0,none⟩) 0 0);rw [World.size_alloc,hh] at b;rw [←hW0,hh];exact (b.alloc _).alloc _
 have bU:Boxed W0 (h+1+1) 3 (.int .i64 0):=by have b:=Boxed.new ((w.alloc (.cells #[] 9)).alloc (.cells #[.slice (some ⟨w.heap.size,0,none⟩) 0 0] 67)) 3 (.int .i64 0);rw [World.size_alloc,World.size_alloc,hh] at b;rw [←hW0,hh];exact b.alloc _
 have bS:Boxed W0 (h+1+1+1) 9 (.string ⟨l.toArray⟩):=by have b:=Boxed.new (((w.alloc (.cells #[] 9)).alloc (.cells #[.slice (some ⟨w.heap.size,0,none⟩) 0 0] 67)).alloc (.cells #[.int .i64 0] 3)) 9 (.string ⟨l.toArray⟩);rw [World.size_alloc,World.size_alloc,World.size_alloc,hh] at b;rw [←hW0,hh];exact b
 have hown:W0.ownsRow h 9 1 (.slice (some ⟨h,0,none⟩) 0 0) 0 (strV []):=by rw [hh] at hown0;rw [←hW0,hh];exact ((hown0.alloc _).alloc _).alloc _
 rw [hW0,hh];rw [hh] at hB0;clear hown0 hW0;have hmix:Tryz.prog.follows .mixedOrders=true:=by kernel_rfl
 refine wpIn_rangeFunc_ownG rfl (by omega) (gf:=117) (lb:=#[.pointer (some ⟨h+1+1+1,0,none⟩)]) rfl trivial (enters_of Tryz.func117 (by kernel_rfl) rfl)
  (zkg _ (h+1+1+1) (l.length+401) (by omega) l hl (by omega) h W0 bS.lt bS.cell) belowK_t (belowK_b (by omega)) (Below.refl _ _) (fun _=>rfl)
  (fun pre W=>(∃ v,Boxed W (h+1) 67 v∧W.ownsRow h 9 1 v (txts pre).length (strV (txts pre))∧v≠.slice none 0 0)∧Boxed W (h+1+1) 3 (.int .i64 (za3 (txts pre):Nat))∧pre.length<400∧Below h w W)
  (fun c pre W=>(∃ v,Boxed W (h+1) 67 v∧W.ownsRow h 9 1 v (txts pre).length (strV (txts pre))∧v≠.slice none 0 0)∧Boxed W (h+1+1) 3 (.int .i64 (za3 (txts pre):Nat))∧(c=.exit 0∧pre.length=400)∧Below h w W)
  (OwnFrom.and (Own.from (holdsRow_own h (h+1) 67 9 1 (fun pre=>(txts pre).length) (fun pre=>strV (txts pre)) (fun _ v=>v≠.slice none 0 0)) _) (OwnFrom.and (Own.from (boxed_own _ _ _) _) (OwnFrom.and (ownFrom_pure _ _) (ownFrom_below (by omega) (by omega)))))
  (fun c=>OwnFrom.and (Own.from (holdsRow_own h (h+1) 67 9 1 (fun pre=>(txts pre).length) (fun pre=>strV (txts pre)) (fun _ v=>v≠.slice none 0 0)) _) (OwnFrom.and (Own.from (boxed_own _ _ _) _) (OwnFrom.and (ownFrom_pure _ _) (ownFrom_below (by omega) (by omega)))))
  ⟨⟨_,bT,hown,by simp⟩,bU,by simp,hB0⟩
  (fun x=>{ tmps:=#[.string ⟨l.toArray⟩,undef,.slice none 0 0,.int .i64 0,.pointer (some ⟨h+1,0,none⟩),.pointer (some ⟨h+1+1,0,none⟩),.string ⟨x.1.toArray⟩,.slice (some ⟨h,0,none⟩) 0 0,.string ⟨l.toArray⟩,.func (.func 117) #[] #[.pointer (some ⟨h+1+1+1,0,none⟩)],.string ⟨x.1.toArray⟩,undef,undef,undef,undef,undef,undef,undef,undef,undef,undef,undef,undef,undef,undef,undef],defers:=[] }) ?assign ?body ?done ?stop
 case assign =>
  intro l x W K hK
  gi_wp2
  exact hK
 case body =>
  rintro l' pre x W ⟨⟨v,hv,hrow,hne⟩,hu,hlt,hB⟩ _;obtain ⟨g,cp,rfl⟩:=zeM hrow hne;have hc:=hv.cell;have hcu:=hu.cell;have hx:=x.2
  gi_wp2
  refine wpIn_region_any hmix ?_
  change wpAnyIn _ _ _ _ _ _ _ _ _ (World.drew _)
  refine wpAnyIn_ready (rs:=[0,1]) (by kernel_rfl) (by simp) ?_;refine AllReadyIn.cons rfl (fun K hK=>?_) (AllReadyIn.cons rfl (fun K hK=>?_) AllReadyIn.nil)
  ·
   go_simp;refine hK _ _ ?_;clear hK K;refine wpAnyIn_ready (rs:=[1]) (by kernel_rfl) (by simp) ?_;refine AllReadyIn.cons rfl (fun K hK=>?_) AllReadyIn.nil;go_simp;refine hK _ _ ?_;clear hK K;refine wpAnyIn_ready (rs:=[2]) (by kernel_rfl) (by simp) ?_;refine AllReadyIn.cons rfl (fun K hK=>?_) AllReadyIn.nil;go_simp;refine ⟨trivial,(CallsIn.inRound l' (callsIn_wide.2 (zbc x.1 _ (by omega)))).mono ?_⟩;rintro e w1 ⟨rfl,hb1⟩;have hv1:=zee hv hb1;have hu1:=zee hu hb1;have hrow1:=zic hrow hb1;have hc1:=hv1.cell;have hc1a:=(hv1.alloc (.cells #[.string ⟨x.1.toArray⟩] 9)).cell;refine hK _ _ ?_;clear hK K;refine wpAnyIn_ready (rs:=[3]) (by kernel_rfl) (by simp) ?_;refine AllReadyIn.cons rfl (fun K hK=>?_) AllReadyIn.nil;go_simp;refine hK _ _ ?_;clear hK K;refine wpAnyIn_ready (rs:=[4]) (by kernel_rfl) (by simp) ?_;refine AllReadyIn.cons rfl (fun K hK=>?_) AllReadyIn.nil;obtain ⟨v',w3,hrun3,hown3,hgrow3,_⟩:=run_append_own (P:=Tryz.prog) (w1.alloc (.cells #[.string ⟨x.1.toArray⟩] 9)) h 67 67 9 i0 (.string ⟨#[]⟩) 1 16 Tryz.underlying67 hi hz0 hz1 hz2 rfl (by decide) _ _ _ (hrow1.alloc _) ⟨w1.heap.size,0,none⟩ 1 1 [.string ⟨x.1.toArray⟩] rfl (cell_one_new _ _ _) (by simp [Value.oneCell']) (by rw [zb5];unfold maxLen;omega) (by rw [zb5];omega) (by have:=hB.size;have:=hb1.size;simp at this ⊢;omega);obtain ⟨g',cap',rfl⟩:=ownsRow_succ hown3;refine zcy rfl _ _ 67 rfl _ _ _ rfl rfl hrun3 ?_;obtain ⟨hv2,hv3,hr3,hk3,hb3⟩:=hv1.appended (by decide) hrow1 (by have:=hB.size;have:=hb1.size;simp at this;omega) (by omega) hown3 hgrow3;have hu2:Boxed w3 (h+1+1) 3 _:=(hu1.alloc _).kept hgrow3 (hu1.not_row (by decide) hrow1);have hu3:=hu2.other (B':=h+1) (by omega) (.slice (some ⟨g',0,none⟩) ((txts pre).length+1) cap');have hc2:=hv2.cell;have hf2:=hv2.frozen;have hc3:=hv3.cell;have hcu3:=hu3.cell;have hfu3:=hu3.frozen
   have hkk:KeepsOthers W (w3.setCell ⟨h+1,0,none⟩ (.slice (some ⟨g',0,none⟩) ((txts pre).length+1) cap')):=((KeepsOthers.drew W).trans (KeepsOthers.of_grownBy (Below.by hb1) (fun _ _ e=>by cases e))).trans hk3;have hbb:Below h W (w3.setCell ⟨h+1,0,none⟩ (.slice (some ⟨g',0,none⟩) ((txts pre).length+1) cap')):=(show Below h W w1 from (⟨hb1.os,hb1.tape,hb1.output,hb1.size,fun k hk=>hb1.block k (by have:=hB.size;simp;omega)⟩)).trans hb3;go_simp;refine hK _ _ ?_;clear hK K;refine wpAnyIn_ready (rs:=[5]) (by kernel_rfl) (by simp) ?_;refine AllReadyIn.cons rfl (fun K hK=>?_) AllReadyIn.nil;go_simp;refine hK _ _ ?_;clear hK K;refine wpAnyIn_done (by kernel_rfl) ?_ _;have hbd:=zdj pre;have hbd2:(za3 (txts pre):Int)≤8006400:=by omega
   have hr4:=zeq hr3;by_cases hq:(((txts pre).length:Int)+1)=400
   ·
    gi_wp2
    obtain ⟨e1,_,e3,e4⟩:=zbt (B:=W0.heap.size) hkk hbb hv3 hu3 hr4 _ rfl;exact ⟨e1,e3,e4,⟨rfl,by rw [List.length_append,List.length_singleton];rw [zb5] at hq;omega⟩,hB.trans (zbt (B:=0) hkk hbb hv3 hu3 hr4 _ rfl).2.1⟩
   ·
    gi_wp2
    obtain ⟨e1,e2,e3,e4⟩:=zbt (B:=W0.heap.size) hkk hbb hv3 hu3 hr4 _ rfl;exact ⟨e1,e2,e3,e4,by rw [List.length_append,List.length_singleton];rw [zb5] at hq;omega,hB.trans e2⟩
  ·
   go_simp;refine hK _ _ ?_;clear hK K;refine wpAnyIn_ready (rs:=[0,2]) (by kernel_rfl) (by simp) ?_;refine AllReadyIn.cons rfl (fun K hK=>?_) (AllReadyIn.cons rfl (fun K hK=>?_) AllReadyIn.nil)
   ·
    go_simp;refine hK _ _ ?_;clear hK K;refine wpAnyIn_ready (rs:=[2]) (by kernel_rfl) (by simp) ?_;refine AllReadyIn.cons rfl (fun K hK=>?_) AllReadyIn.nil;go_simp;refine ⟨trivial,(CallsIn.inRound l' (callsIn_wide.2 (zbc x.1 _ (by omega)))).mono ?_⟩;rintro e w1 ⟨rfl,hb1⟩;have hv1:=zee hv hb1;have hu1:=zee hu hb1;have hrow1:=zic hrow hb1;have hc1:=hv1.cell;have hc1a:=(hv1.alloc (.cells #[.string ⟨x.1.toArray⟩] 9)).cell;refine hK _ _ ?_;clear hK K;refine wpAnyIn_ready (rs:=[3]) (by kernel_rfl) (by simp) ?_;refine AllReadyIn.cons rfl (fun K hK=>?_) AllReadyIn.nil;go_simp;refine hK _ _ ?_;clear hK K;refine wpAnyIn_ready (rs:=[4]) (by kernel_rfl) (by simp) ?_;refine AllReadyIn.cons rfl (fun K hK=>?_) AllReadyIn.nil;obtain ⟨v',w3,hrun3,hown3,hgrow3,_⟩:=run_append_own (P:=Tryz.prog) (w1.alloc (.cells #[.string ⟨x.1.toArray⟩] 9)) h 67 67 9 i0 (.string ⟨#[]⟩) 1 16 Tryz.underlying67 hi hz0 hz1 hz2 rfl (by decide) _ _ _ (hrow1.alloc _) ⟨w1.heap.size,0,none⟩ 1 1 [.string ⟨x.1.toArray⟩] rfl (cell_one_new _ _ _) (by simp [Value.oneCell']) (by rw [zb5];unfold maxLen;omega) (by rw [zb5];omega) (by have:=hB.size;have:=hb1.size;simp at this ⊢;omega);obtain ⟨g',cap',rfl⟩:=ownsRow_succ hown3;refine zcy rfl _ _ 67 rfl _ _ _ rfl rfl hrun3 ?_;obtain ⟨hv2,hv3,hr3,hk3,hb3⟩:=hv1.appended (by decide) hrow1 (by have:=hB.size;have:=hb1.size;simp at this;omega) (by omega) hown3 hgrow3;have hu2:Boxed w3 (h+1+1) 3 _:=(hu1.alloc _).kept hgrow3 (hu1.not_row (by decide) hrow1);have hu3:=hu2.other (B':=h+1) (by omega) (.slice (some ⟨g',0,none⟩) ((txts pre).length+1) cap');have hc2:=hv2.cell;have hf2:=hv2.frozen;have hc3:=hv3.cell;have hcu3:=hu3.cell;have hfu3:=hu3.frozen;have hkk:KeepsOthers W (w3.setCell ⟨h+1,0,none⟩ (.slice (some ⟨g',0,none⟩) ((txts pre).length+1) cap')):=((KeepsOthers.drew W).trans (KeepsOthers.of_grownBy (Below.by hb1) (fun _ _ e=>by cases e))).trans hk3
    have hbb:Below h W (w3.setCell ⟨h+1,0,none⟩ (.slice (some ⟨g',0,none⟩) ((txts pre).length+1) cap')):=(show Below h W w1 from (⟨hb1.os,hb1.tape,hb1.output,hb1.size,fun k hk=>hb1.block k (by have:=hB.size;simp;omega)⟩)).trans hb3;go_simp;refine hK _ _ ?_;clear hK K;refine wpAnyIn_ready (rs:=[5]) (by kernel_rfl) (by simp) ?_;refine AllReadyIn.cons rfl (fun K hK=>?_) AllReadyIn.nil;go_simp;refine hK _ _ ?_;clear hK K;refine wpAnyIn_done (by kernel_rfl) ?_ _;have hbd:=zdj pre;have hbd2:(za3 (txts pre):Int)≤8006400:=by omega
    have hr4:=zeq hr3;by_cases hq:(((txts pre).length:Int)+1)=400
    ·
     gi_wp2
     obtain ⟨e1,_,e3,e4⟩:=zbt (B:=W0.heap.size) hkk hbb hv3 hu3 hr4 _ rfl;exact ⟨e1,e3,e4,⟨rfl,by rw [List.length_append,List.length_singleton];rw [zb5] at hq;omega⟩,hB.trans (zbt (B:=0) hkk hbb hv3 hu3 hr4 _ rfl).2.1⟩
    ·
     gi_wp2
     obtain ⟨e1,e2,e3,e4⟩:=zbt (B:=W0.heap.size) hkk hbb hv3 hu3 hr4 _ rfl;exact ⟨e1,e2,e3,e4,by rw [List.length_append,List.length_singleton];rw [zb5] at hq;omega,hB.trans e2⟩
   ·
    go_simp;refine ⟨trivial,(CallsIn.inRound l' (callsIn_wide.2 (zbc x.1 _ (by omega)))).mono ?_⟩;rintro e w1 ⟨rfl,hb1⟩;have hv1:=zee hv hb1;have hu1:=zee hu hb1;have hrow1:=zic hrow hb1;have hc1:=hv1.cell;have hc1a:=(hv1.alloc (.cells #[.string ⟨x.1.toArray⟩] 9)).cell;refine hK _ _ ?_;clear hK K;refine wpAnyIn_ready (rs:=[0,3]) (by kernel_rfl) (by simp) ?_;refine AllReadyIn.cons rfl (fun K hK=>?_) (AllReadyIn.cons rfl (fun K hK=>?_) AllReadyIn.nil)
    ·
     go_simp;refine hK _ _ ?_;clear hK K;refine wpAnyIn_ready (rs:=[3]) (by kernel_rfl) (by simp) ?_;refine AllReadyIn.cons rfl (fun K hK=>?_) AllReadyIn.nil;go_simp;refine hK _ _ ?_;clear hK K;refine wpAnyIn_ready (rs:=[4]) (by kernel_rfl) (by simp) ?_;refine AllReadyIn.cons rfl (fun K hK=>?_) AllReadyIn.nil;obtain ⟨v',w3,hrun3,hown3,hgrow3,_⟩:=run_append_own (P:=Tryz.prog) (w1.alloc (.cells #[.string ⟨x.1.toArray⟩] 9)) h 67 67 9 i0 (.string ⟨#[]⟩) 1 16 Tryz.underlying67 hi hz0 hz1 hz2 rfl (by decide) _ _ _ (hrow1.alloc _) ⟨w1.heap.size,0,none⟩ 1 1 [.string ⟨x.1.toArray⟩] rfl (cell_one_new _ _ _) (by simp [Value.oneCell']) (by rw [zb5];unfold maxLen;omega) (by rw [zb5];omega) (by have:=hB.size;have:=hb1.size;simp at this ⊢;omega);obtain ⟨g',cap',rfl⟩:=ownsRow_succ hown3;refine zcy rfl _ _ 67 rfl _ _ _ rfl rfl hrun3 ?_;obtain ⟨hv2,hv3,hr3,hk3,hb3⟩:=hv1.appended (by decide) hrow1 (by have:=hB.size;have:=hb1.size;simp at this;omega) (by omega) hown3 hgrow3;have hu2:Boxed w3 (h+1+1) 3 _:=(hu1.alloc _).kept hgrow3 (hu1.not_row (by decide) hrow1);have hu3:=hu2.other (B':=h+1) (by omega) (.slice (some ⟨g',0,none⟩) ((txts pre).length+1) cap');have hc2:=hv2.cell;have hf2:=hv2.frozen;have hc3:=hv3.cell;have hcu3:=hu3.cell;have hfu3:=hu3.frozen;have hkk:KeepsOthers W (w3.setCell ⟨h+1,0,none⟩ (.slice (some ⟨g',0,none⟩) ((txts pre).length+1) cap')):=((KeepsOthers.drew W).trans (KeepsOthers.of_grownBy (Below.by hb1) (fun _ _ e=>by cases e))).trans hk3;have hbb:Below h W (w3.setCell ⟨h+1,0,none⟩ (.slice (some ⟨g',0,none⟩) ((txts pre).length+1) cap')):=(show Below h W w1 from (⟨hb1.os,hb1.tape,hb1.output,hb1.size,fun k hk=>hb1.block k (by have:=hB.size;simp;omega)⟩)).trans hb3;go_simp;refine hK _ _ ?_;clear hK K;refine wpAnyIn_ready (rs:=[5]) (by kernel_rfl) (by simp) ?_;refine AllReadyIn.cons rfl (fun K hK=>?_) AllReadyIn.nil;go_simp;refine hK _ _ ?_;clear hK K;refine wpAnyIn_done (by kernel_rfl) ?_ _;have hbd:=zdj pre;have hbd2:(za3 (txts pre):Int)≤8006400:=by omega
     have hr4:=zeq hr3;by_cases hq:(((txts pre).length:Int)+1)=400
     ·
      gi_wp2
      obtain ⟨e1,_,e3,e4⟩:=zbt (B:=W0.heap.size) hkk hbb hv3 hu3 hr4 _ rfl;exact ⟨e1,e3,e4,⟨rfl,by rw [List.length_append,List.length_singleton];rw [zb5] at hq;omega⟩,hB.trans (zbt (B:=0) hkk hbb hv3 hu3 hr4 _ rfl).2.1⟩
     ·
      gi_wp2
      obtain ⟨e1,e2,e3,e4⟩:=zbt (B:=W0.heap.size) hkk hbb hv3 hu3 hr4 _ rfl;exact ⟨e1,e2,e3,e4,by rw [List.length_append,List.length_singleton];rw [zb5] at hq;omega,hB.trans e2⟩
    ·
     go_simp;refine hK _ _ ?_;clear hK K;refine wpAnyIn_ready (rs:=[0]) (by kernel_rfl) (by simp) ?_;refine AllReadyIn.cons rfl (fun K hK=>?_) AllReadyIn.nil;go_simp;refine hK _ _ ?_;clear hK K;refine wpAnyIn_ready (rs:=[4]) (by kernel_rfl) (by simp) ?_;refine AllReadyIn.cons rfl (fun K hK=>?_) AllReadyIn.nil;obtain ⟨v',w3,hrun3,hown3,hgrow3,_⟩:=run_append_own (P:=Tryz.prog) (w1.alloc (.cells #[.string ⟨x.1.toArray⟩] 9)) h 67 67 9 i0 (.string ⟨#[]⟩) 1 16 Tryz.underlying67 hi hz0 hz1 hz2 rfl (by decide) _ _ _ (hrow1.alloc _) ⟨w1.heap.size,0,none⟩ 1 1 [.string ⟨x.1.toArray⟩] rfl (cell_one_new _ _ _) (by simp [Value.oneCell']) (by rw [zb5];unfold maxLen;omega) (by rw [zb5];omega) (by have:=hB.size;have:=hb1.size;simp at this ⊢;omega);obtain ⟨g',cap',rfl⟩:=ownsRow_succ hown3;refine zcy rfl _ _ 67 rfl _ _ _ rfl rfl hrun3 ?_;obtain ⟨hv2,hv3,hr3,hk3,hb3⟩:=hv1.appended (by decide) hrow1 (by have:=hB.size;have:=hb1.size;simp at this;omega) (by omega) hown3 hgrow3;have hu2:Boxed w3 (h+1+1) 3 _:=(hu1.alloc _).kept hgrow3 (hu1.not_row (by decide) hrow1);have hu3:=hu2.other (B':=h+1) (by omega) (.slice (some ⟨g',0,none⟩) ((txts pre).length+1) cap');have hc2:=hv2.cell;have hf2:=hv2.frozen;have hc3:=hv3.cell;have hcu3:=hu3.cell;have hfu3:=hu3.frozen;have hkk:KeepsOthers W (w3.setCell ⟨h+1,0,none⟩ (.slice (some ⟨g',0,none⟩) ((txts pre).length+1) cap')):=((KeepsOthers.drew W).trans (KeepsOthers.of_grownBy (Below.by hb1) (fun _ _ e=>by cases e))).trans hk3;have hbb:Below h W (w3.setCell ⟨h+1,0,none⟩ (.slice (some ⟨g',0,none⟩) ((txts pre).length+1) cap')):=(show Below h W w1 from (⟨hb1.os,hb1.tape,hb1.output,hb1.size,fun k hk=>hb1.block k (by have:=hB.size;simp;omega)⟩)).trans hb3;go_simp;refine hK _ _ ?_;clear hK K;refine wpAnyIn_ready (rs:=[5]) (by kernel_rfl) (by simp) ?_;refine AllReadyIn.cons rfl (fun K hK=>?_) AllReadyIn.nil;go_simp;refine hK _ _ ?_;clear hK K;refine wpAnyIn_done (by kernel_rfl) ?_ _;have hbd:=zdj pre;have hbd2:(za3 (txts pre):Int)≤8006400:=by omega
     have hr4:=zeq hr3;by_cases hq:(((txts pre).length:Int)+1)=400
     ·
      gi_wp2
      obtain ⟨e1,_,e3,e4⟩:=zbt (B:=W0.heap.size) hkk hbb hv3 hu3 hr4 _ rfl;exact ⟨e1,e3,e4,⟨rfl,by rw [List.length_append,List.length_singleton];rw [zb5] at hq;omega⟩,hB.trans (zbt (B:=0) hkk hbb hv3 hu3 hr4 _ rfl).2.1⟩
     ·
      gi_wp2
      obtain ⟨e1,e2,e3,e4⟩:=zbt (B:=W0.heap.size) hkk hbb hv3 hu3 hr4 _ rfl;exact ⟨e1,e2,e3,e4,by rw [List.length_append,List.length_singleton];rw [zb5] at hq;omega,hB.trans e2⟩
 case done =>
  rintro D ys W hD hS ⟨⟨v,hv,hrow,hne⟩,hu,hlt,hB⟩ hK
  have HF:Hid (zaa l=txts ys):=by unfold zaa;rw [zdy 400 (l.length+401) l (by omega),←hS];exact List.take_of_length_le (by rw [zb5];omega)
  have hc:=hv.cell;have hcu:=hu.cell;clear hS
  gi_wp2
  gi_region
  gi_wp2
  have hKd:W.drew.heap[D]?=some (.deferred (some [])):=hK;refine ⟨by simp,.inl ⟨_,_,rfl,run_takeDeferred hKd,?_⟩⟩;refine ⟨_,results_tmp2 rfl _ _ _,v,?_,?_,hne,?_⟩
  ·rw [HF.out];rfl
  ·rw [HF.out,hh];exact ownsRow_putObj (show W.drew.ownsRow h 9 1 v _ _ from hrow) _ hKd rfl
  ·rw [hh];exact (show Below h w W.drew from ⟨hB.os,hB.tape,hB.output,hB.size,hB.block⟩).trans (belowK_b (w:=w) (by omega) W.drew D _ _ (by omega) hKd rfl rfl)
 case stop =>
  rintro D c pre W hD hS ⟨⟨v,hv,hrow,hne⟩,hu,⟨rfl,hlt⟩,hB⟩ hK
  have HF:Hid (zaa l=txts pre):=by unfold zaa;rw [zdy 400 (l.length+401) l (by omega)];obtain ⟨r,hr⟩:=hS;rw [←hr,List.take_append_of_le_length (by rw [zb5];omega)];exact List.take_of_length_le (by rw [zb5];omega)
  have hc:=hv.cell;have hcu:=hu.cell;clear hS
  gi_wp2
  gi_region
  gi_wp2
  have hKd:W.drew.heap[D]?=some (.deferred (some [])):=hK;refine ⟨by simp,.inl ⟨_,_,rfl,run_takeDeferred hKd,?_⟩⟩;refine ⟨_,results_tmp2 rfl _ _ _,v,?_,?_,hne,?_⟩
  ·rw [HF.out];rfl
  ·rw [HF.out,hh];exact ownsRow_putObj (show W.drew.ownsRow h 9 1 v _ _ from hrow) _ hKd rfl
  ·rw [hh];exact (show Below h w W.drew from ⟨hB.os,hB.tape,hB.output,hB.size,hB.block⟩).trans (belowK_b (w:=w) (by omega) W.drew D _ _ (by omega) hKd rfl rfl)
theorem zn8 (l:List UInt8) (w:World) (hl:l.length≤1048576) :
 Calls Tryz.prog 67 #[.string ⟨l.toArray⟩] w fun e w'=>∃ v,e=.returned (.tuple #[v,.int .i64 (za3 (zaa l):Nat)])∧w'.ownsRow w.heap.size 9 1 v (zaa l).length (strV (zaa l))∧Below w.heap.size w w' :=
 (zl9 l w hl).mono fun _ _ ⟨v,h,k,_,m⟩=>⟨v,h,k,m⟩
theorem zl8 (l:List UInt8) (fs:List (List UInt8)) (k u:Nat) (w:World) (hl:l.length≤1048576) (hf:zaa l=fs) (hk:fs.length=k) (hu:za3 fs=u) :
 Calls Tryz.prog 67 #[.string ⟨l.toArray⟩] w fun e w'=>∃ v,e=.returned (.tuple #[v,.int .i64 (u:Int)])∧w'.ownsRow w.heap.size 9 1 v k (strV fs)∧Below w.heap.size w w':=by
 subst hf hk hu;exact zn8 l w hl
end
theorem zkW (a:Option Addr) (len cap:Nat) (ps:List Pk) (er:Nat→Addr) (w:World) (hE:Err8 w er) (ht:zb0 w) (h:zab w a len cap ps) :
 Calls Tryz.prog 34 #[.slice a len cap,.string ⟨#[]⟩] w fun e w'=>∃ v,e=.returned (.tuple #[v,.bool (newV ps).2])∧zbQ w w' v (newV ps).1:=by
 obtain ⟨D,hD⟩:∃ D,w.heap.size=D:=⟨_,rfl⟩
 obtain ⟨W1,hW1⟩:∃ W,w.alloc (.cells #[.slice none 0 0,.int .i64 0,.int .i64 0,.string ⟨#[]⟩] 26)=W:=⟨_,rfl⟩
 have hs1:W1.heap.size=D+1:=by rw [←hW1,←hD];simp
 have hb1:Below D w W1:=by rw [←hW1,←hD];exact (Below.refl _ _).alloc (Nat.le_refl _) _
 have bR:=B4.new w (.slice none 0 0) (.int .i64 0) (.int .i64 0) (.string ⟨#[]⟩) 26;rw [hW1,hD] at bR
 have HD:Hid (∀ Z,Below W1.heap.size W1 Z→B4 Z D (.slice none 0 0) (.int .i64 0) (.int .i64 0) (.string ⟨#[]⟩)∧Below D w Z):=fun Z hz =>
  ⟨bR.below hz,hb1.trans (hz.mono (by omega))⟩
 have HPw:Hid (∀ Z,Below D w Z→zb0 Z):=fun Z hz=>ht.below (by rw [hD];exact hz)
 have HT:Hid (_):=zkT a len cap ps er W1 (hE.below (by rw [hD];exact hb1)) (h.below (by rw [hD];exact hb1));have HFr:Hid (∀ Z,Calls Tryz.prog 67 #[.string ⟨#[]⟩] Z fun e w'=>∃ v,e=.returned (.tuple #[v,.int .i64 ((0:Nat):Int)])∧w'.ownsRow Z.heap.size 9 1 v 0 (strV [])∧Below Z.heap.size Z w'):=fun Z=>zl8 [] [] 0 0 Z (by simp) (by rfl) rfl (by rfl)
 have hsh:=zdw ps;have hdk:=zde ps;have h9:=zju ps;have HY:Hid ((newV ps).2=true→_):=fun e=>zdM (ps:=ps) e
 have HN:Hid ((newV ps).2=false→_):=fun e=>ze2 (ps:=ps) e
 generalize newV ps=nv at HT hsh hdk h9 HY HN ⊢;obtain ⟨d,ok⟩:=nv;simp only at HT hsh hdk h9 HY HN ⊢;generalize hts:d.1=ts at HT hsh hdk h9 HY;have HSt:Hid (_):=fun (B base:Nat) (v0:Value) (Z:World) (hb4:B4 Z B v0 (.int .i64 0) (.int .i64 0) (.string ⟨([]:List UInt8).toArray⟩)) (h1:base≤Z.heap.size) (h2:base≤B) (h3:∀ X,Below base Z X→zb0 X)=>zoF B base v0 0 0 [] Z hb4 h1 h2 (by omega) (by omega) (by simp) h3
 rw [show (0:Int)+1=1 from rfl] at HSt;have HDk:Hid (_):=fun (va:Option Addr) (vc:Nat) (Z:World) (h1:zat Z va ts.length ts) (h2:ts.length≤vc)=>zbw va ts.length vc ts 1 0 (zaV 1) Z h1 h2 hsh (by omega)
 rw [hdk] at HDk;simp only [List.nil_append] at HSt;generalize zaV 1=sl at HSt HDk HY;clear hE ht h bR hb1 hsh hdk
 go_enter Tryz.func34,Tryz.ntmps34
 go_wp2_with fail
 refine Calls.mono HT.out ?_;rintro e w2 ⟨v2,xs,rfl,hx,ho2,hap,hb2⟩;have hxl:xs.length=ts.length:=by rw [←hx,List.length_map]
 obtain ⟨va,vc,rfl⟩:=zb4 ho2.row;rw [hxl] at ho2;rw [hxl];have HB2:Hid (Below W1.heap.size W1 w2):=hb2;obtain ⟨Q,hQ⟩:∃ Q,w2.heap.size=Q:=⟨_,rfl⟩
 obtain ⟨Z0,hZ0⟩:∃ Z0,w2.alloc (.cells #[.slice none 0 0,.int .i64 0,.int .i64 0,.string ⟨#[]⟩] 26)=Z0:=⟨_,rfl⟩
 have bz:=B4.new w2 (.slice none 0 0) (.int .i64 0) (.int .i64 0) (.string ⟨#[]⟩) 26;have hbZ:Below w2.heap.size w2 Z0:=by rw [←hZ0];exact (Below.refl _ _).alloc (Nat.le_refl _) _
 rw [hZ0] at bz;rw [hQ] at bz hbZ;have z0:=bz.c0;have z1:=bz.c1;have z2:=bz.c2;have z3:=bz.c3;have zf:=bz.fr;have b4:=(((bz.s0 (.slice va ts.length vc)).s1 (.int .i64 0)).s2 (.int .i64 0)).s3 (.string ⟨#[]⟩);have hbX:Below Q w2 ((((Z0.setCell ⟨Q,0,none⟩ (.slice va ts.length vc)).setCell ⟨Q,1,none⟩ (.int .i64 0)).setCell ⟨Q,2,none⟩ (.int .i64 0)).setCell ⟨Q,3,none⟩ (.string ⟨#[]⟩)):=(((hbZ.setCell (Nat.le_refl _) _).setCell (Nat.le_refl _) _).setCell (Nat.le_refl _) _).setCell (Nat.le_refl _) _;obtain ⟨w3,hw3⟩:∃ W,(((Z0.setCell ⟨Q,0,none⟩ (.slice va ts.length vc)).setCell ⟨Q,1,none⟩ (.int .i64 0)).setCell ⟨Q,2,none⟩ (.int .i64 0)).setCell ⟨Q,3,none⟩ (.string ⟨#[]⟩)=W:=⟨_,rfl⟩
 rw [hw3] at b4 hbX
 have HQ:Hid (W1.heap.size≤Q∧D+1≤Q):=by have:=hb2.size;exact (by omega:W1.heap.size≤Q∧D+1≤Q)
 have HB3:Hid (Below W1.heap.size W1 w3):=hb2.trans (hbX.mono HQ.out.1);have HO3:Hid (za2 w3 W1.heap.size (.slice va ts.length vc) xs∧xs.map (·.1)=ts∧zai (xs.map tvT)):=⟨ho2.below (by rw [hQ];exact hbX),hx,hap⟩
 have hOl:∀ k,(Value.slice va ts.length vc).ownBlock=some k∨(∃ x∈xs,(tvT x).ownBlock=some k)→k<Q:=by
  intro k hk;rw [←hQ];rcases hk with e | ⟨x,hx,e⟩
  ·exact (ho2.row.lt k e).2
  ·exact ((ho2.trees x hx).lt k e).2
 have HOl:Hid (_):=hOl;have HQ4:Hid (B4 w3 Q (.slice va ts.length vc) (.int .i64 0) (.int .i64 0) (.string ⟨#[]⟩)):=b4;have HFm:Hid (_):=HFr.out w3;clear ho2 hx hap hb2 bz hbZ hbX b4 hOl HT HFr;go_wp2_with fail
 refine Calls.mono HFm.out ?_;rintro e w4 ⟨v4,rfl,ho4,hb4⟩;obtain ⟨a4,c4,rfl⟩:=zb4 ho4;have HB4:Hid (Below W1.heap.size W1 w4):=HB3.out.trans (hb4.mono HB3.out.size);have HO4:Hid (za2 w4 W1.heap.size (.slice va ts.length vc) xs):=HO3.out.1.below hb4;have HQ5:Hid (B4 w4 Q (.slice va ts.length vc) (.int .i64 0) (.int .i64 0) (.string ⟨#[]⟩)):=HQ4.out.below hb4;have HS4:Hid (_):=HSt.out Q W1.heap.size (.slice va ts.length vc) w4 HQ5.out HB4.out.size HQ.out.1 (fun X hX=>HPw.out X ((HD.out X (HB4.out.trans hX)).2));clear ho4 hb4 HFm HSt hZ0 hw3 z0 z1 z2 z3 zf;go_wp2
 go_loopw [21] (fun iv wr=>iv=.int .i64 0∧wr=w4) (fun _ _=>0)
 case atStart=>exact ⟨rfl,rfl⟩
 case round =>
  obtain ⟨rfl,hwr⟩:=hrel;obtain rfl:=hwr.symm;go_wp2_with fail
  refine Calls.mono HS4.out ?_;rintro e w5 ⟨rfl,b5,hg5⟩
  have hne:(Value.slice va ts.length vc).ownBlock=none∨(Value.slice va ts.length vc).ownBlock≠some Q:=by
   rcases hv:(Value.slice va ts.length vc).ownBlock with _ | k
   ·exact Or.inl rfl
   ·exact Or.inr (fun e=>by injection e with e;have:=HOl.out k (Or.inl hv);omega)
  have hO5:=HO4.out.kept hg5 hne (fun x hx=>by
   rcases hv:(tvT x).ownBlock with _ | k
   ·exact Or.inl rfl
   ·exact Or.inr (fun e=>by injection e with e;have:=HOl.out k (Or.inr ⟨x,hx,hv⟩);omega))
  have HB5:Hid (Below W1.heap.size W1 w5):=HB4.out.grown hg5 HB4.out.size (fun k e=>by injection e with e;have:=HQ.out.1;omega);have HO5:Hid (za2 w5 W1.heap.size (.slice va ts.length vc) xs):=hO5;obtain ⟨a7,c7,e7,hok7⟩:=hO5.ok;rw [HO3.out.2.1,hxl] at hok7;rw [hxl] at e7;injection e7 with e7 _ e8;subst e7;subst e8;have HK:Hid (_):=HDk.out va vc w5 hok7.in (by have:=hO5.row;rw [hxl] at this;exact zjn this);have HQ6:Hid (B4 w5 Q (.slice va ts.length vc) (.int .i64 1) (.int .i64 0) (.string ⟨sl.toArray⟩)):=b5;have q0:=b5.c0;have q1:=b5.c1;have q2:=b5.c2;have q3:=b5.c3;clear hne hO5 hok7 b5 hg5 HDk HS4 HQ5 HQ4;rcases ok with _ | _
  ·
   have HR:Hid (d=dk0):=HN.out rfl;go_wp2_with fail
   refine Calls.mono HK.out ?_;rintro e w6 ⟨rfl,hb6⟩;have HB6:Hid (Below W1.heap.size W1 w6):=HB5.out.trans (hb6.mono HB5.out.size);obtain ⟨br,hbD⟩:=HD.out w6 HB6.out;have r0:=br.c0;have r1:=br.c1;have r2:=br.c2;have r3:=br.c3;have f0:=br.fr 0;have f1:=br.fr 1;have f2:=br.fr 2;have f3:=br.fr 3;have HBD:Hid (Below D w w6):=hbD;clear hbD br hb6 q0 q1 q2 q3;go_wp2;obtain ⟨X,hX,y0,y1,y2,y3,hg⟩:=set4 (.slice none 0 0) (.int .i64 0) (.int .i64 0) (.string ⟨#[]⟩) r0 r1 r2 r3;rw [hX];refine bodyPost_ret (v:=.tuple #[.agg #[.slice none 0 0,.int .i64 0,.int .i64 0,.string ⟨#[]⟩],.bool false]) (by simp [results,Tryz.results34,go_sem,y0,y1,y2,y3]) rfl ?_;rw [HR.out];exact ⟨_,rfl,zbQ.zero (by rw [hD];exact HBD.out.grown hg (by have:=HBD.out.size;omega) (fun k e=>by injection e with e;omega))⟩
  ·
   have HR:Hid (_):=HY.out rfl;go_wp2_with fail
   refine Calls.mono HK.out ?_;rintro e w6 ⟨rfl,hb6⟩;have HB6:Hid (Below W1.heap.size W1 w6):=HB5.out.trans (hb6.mono HB5.out.size);obtain ⟨br,hbD⟩:=HD.out w6 HB6.out;have bq:=HQ6.out.below hb6;have HO6:Hid (za2 w6 W1.heap.size (.slice va ts.length vc) xs):=HO5.out.below hb6;clear q0 q1 q2 q3;have q0:=bq.c0;have q1:=bq.c1;have q2:=bq.c2;have q3:=bq.c3;have r0:=br.c0;have r1:=br.c1;have r2:=br.c2;have r3:=br.c3;have f0:=br.fr 0;have f1:=br.fr 1;have f2:=br.fr 2;have f3:=br.fr 3;have HBD:Hid (Below D w w6):=hbD;clear hbD br bq hb6;go_wp2;obtain ⟨X,hX,y0,y1,y2,y3,hg⟩:=set4 (.slice va ts.length vc) (.int .i64 1) (.int .i64 0) (.string ⟨sl.toArray⟩) r0 r1 r2 r3;rw [hX];refine bodyPost_ret (v:=.tuple #[.agg #[.slice va ts.length vc,.int .i64 1,.int .i64 0,.string ⟨sl.toArray⟩],.bool true]) (by simp [results,Tryz.results34,go_sem,y0,y1,y2,y3]) rfl ?_;rw [HR.out];have hk:=HO6.out.kept hg (za8 HO6.out.row (by omega)) (fun y hy=>za8 (HO6.out.trees y hy) (by omega));exact ⟨_,rfl,va,vc,xs,rfl,HO3.out.2.1,hk.base (by omega),HO3.out.2.2,by rw [hD];exact HBD.out.grown hg (by have:=HBD.out.size;omega) (fun k e=>by injection e with e;omega)⟩
theorem zkZ (a:Option Addr) (len cap:Nat) (ps:List Pk) (er:Nat→Addr) (w:World) (hE:Err8 w er) (ht:zb0 w) (h:zab w a len cap ps) :
 Calls Tryz.prog 12 #[.slice a len cap] w fun e w'=>∃ v,e=.returned (.tuple #[v,.bool (newV ps).2])∧zbQ w w' v (newV ps).1:=by
 obtain ⟨D,hD⟩:∃ D,w.heap.size=D:=⟨_,rfl⟩
 obtain ⟨W1,hW1⟩:∃ W,w.alloc (.cells #[.slice none 0 0,.int .i64 0,.int .i64 0,.string ⟨#[]⟩] 26)=W:=⟨_,rfl⟩
 have hs1:W1.heap.size=D+1:=by rw [←hW1,←hD];simp
 have hb1:Below D w W1:=by rw [←hW1,←hD];exact (Below.refl _ _).alloc (Nat.le_refl _) _
 have bR:=B4.new w (.slice none 0 0) (.int .i64 0) (.int .i64 0) (.string ⟨#[]⟩) 26;rw [hW1,hD] at bR
 have HD:Hid (∀ Z,Below W1.heap.size W1 Z→B4 Z D (.slice none 0 0) (.int .i64 0) (.int .i64 0) (.string ⟨#[]⟩)∧Below D w Z):=fun Z hz =>
  ⟨bR.below hz,hb1.trans (hz.mono (by omega))⟩
 have HR:Hid (_):=zkW a len cap ps er W1 (hE.below (by rw [hD];exact hb1)) (ht.below (by rw [hD];exact hb1)) (h.below (by rw [hD];exact hb1));generalize newV ps=nv at HR ⊢;obtain ⟨d,ok⟩:=nv;simp only at HR ⊢;clear hE ht h bR hb1
 go_enter Tryz.func12,Tryz.ntmps12
 go_wp2_with fail
 refine Calls.mono HR.out ?_;rintro e w2 ⟨_,rfl,va,vc,xs,rfl,hx,ho,hap,hb⟩;obtain ⟨br,hbD⟩:=HD.out w2 hb;have r0:=br.c0;have r1:=br.c1;have r2:=br.c2;have r3:=br.c3;have f0:=br.fr 0;have f1:=br.fr 1;have f2:=br.fr 2;have f3:=br.fr 3;have HBD:Hid (Below D w w2):=hbD;have HO:Hid (za2 w2 W1.heap.size (.slice va d.1.length vc) xs∧xs.map (·.1)=d.1∧zai (xs.map tvT)):=⟨ho,hx,hap⟩;clear hbD br hb ho hx hap HR;go_wp2;obtain ⟨X,hX,y0,y1,y2,y3,hg⟩:=set4 (.slice va d.1.length vc) (.int .i64 d.2.1) (.int .i64 d.2.2.1) (.string ⟨d.2.2.2.toArray⟩) r0 r1 r2 r3;rw [hX];refine bodyPost_ret (v:=.tuple #[.agg #[.slice va d.1.length vc,.int .i64 d.2.1,.int .i64 d.2.2.1,.string ⟨d.2.2.2.toArray⟩],.bool ok]) (by simp [results,Tryz.results12,go_sem,y0,y1,y2,y3]) rfl ?_;have hk:=HO.out.1.kept hg (za8 HO.out.1.row (by omega)) (fun y hy=>za8 (HO.out.1.trees y hy) (by omega));exact ⟨_,rfl,va,vc,xs,rfl,HO.out.2.1,hk.base (by omega),HO.out.2.2,by rw [hD];exact HBD.out.grown hg (by have:=HBD.out.size;omega) (fun k e=>by injection e with e;omega)⟩
end Go.Proofs.YtponeoijfaepnaaGreatDoor
