/-
  Parts of one proof, one behind the other: RegT, Tk, TkR, HexOf, WordS, TextS, TextS2, TextS3, Turned, TextS4.
-/
import Derived.Test.YtponeoijfaepnaaGreatDoorP1
namespace Go.Proofs.YtponeoijfaepnaaGreatDoor
open Go.RowKit
set_option maxHeartbeats 4000000
set_option maxRecDepth 100000
section
variable {P:Program} {ops:Array Oper} {Q:Exit→Act→World→Prop} {md:Region.Mode} {S:World→Prop} {E:List Nat}
def Till (P:Program) (md:Region.Mode) (ops:Array Oper) (Q:Exit→Act→World→Prop) (E:List Nat) (S:World→Prop):Nat→Array Bool→Act→World→Prop
 | 0=>fun listed a w=>Region.ready md ops listed=[]∧Q .normal a w
 | k+1=>fun listed a w=>(Region.ready md ops listed=[]→Q .normal a w) ∧
  ∀ i,i∈Region.ready md ops listed→wpOp P ops Q i (fun b v=>(i ∉ E→S v)∧Till P md ops Q E S k (listed.setIfInBounds i true) b v) a w
theorem Till.any:∀ (k:Nat) {listed:Array Bool} {a:Act} {w:World},Till P md ops Q E S k listed a w→wpAny P md ops Q k listed a w
 | 0,_,_,_,h=>h
 | k+1,_,_,_,h=>⟨h.1,fun i hi=>wpOp_mono (fun _ _ x=>Till.any k x.2) (h.2 i hi)⟩
theorem Till.done {listed:Array Bool} {a:Act} {w:World} (hr:Region.ready md ops listed=[]) (h:Q .normal a w):∀ k,Till P md ops Q E S k listed a w
 | 0=>⟨hr,h⟩
 | _+1=>⟨fun _=>h,fun i hi=>by rw [hr] at hi;cases hi⟩
def zaI (md:Region.Mode) (ops:Array Oper) (listed:Array Bool):Prop:=∀ j o,ops[j]?=some o→listed.getD j false=true→∀ e∈o.after,Region.binds md e=true→listed.getD e.on false=true
theorem zaI.start (n:Nat):zaI md ops (Array.replicate n false):=fun j o _ h=>by
 rw [Array.getD_eq_getD_getElem?] at h;simp only [Array.getElem?_replicate] at h
 split at h<;>cases h
theorem zaI.set {listed:Array Bool} {i:Nat} (h:zaI md ops listed) (hi:i∈Region.ready md ops listed):zaI md ops (listed.setIfInBounds i true):=fun j o ho hj e he hb=>by
 refine getD_set_true ?_;rcases Nat.decEq i j with hne | heq
 ·rw [getD_set_ne false hne] at hj;exact h j o ho hj e he hb
 ·subst heq;obtain ⟨_,p,hp,hall⟩:=mem_ready.1 hi;rw [ho] at hp;injection hp with hp;subst hp;exact hall e he hb
def zho (md:Region.Mode) (ops:Array Oper):Nat→Nat→Nat→Bool
 | 0,_,_=>false
 | k+1,m,i=>match ops[m]? with
  | some o=>o.after.any (fun e=>Region.binds md e && (e.on==i || zho md ops k e.on i))
  | none=>false
theorem zfE {listed:Array Bool} (h:zaI md ops listed) {i:Nat}:∀ (k m:Nat),(∀ o,ops[m]?=some o→∀ e∈o.after,Region.binds md e=true→listed.getD e.on false=true)→zho md ops k m i=true→listed.getD i false=true
 | 0,_,_,hw=>by cases hw
 | k+1,m,hd,hw=>by
  unfold zho at hw;cases ho:ops[m]? with
  | none=>rw [ho] at hw;cases hw
  | some o =>
   rw [ho] at hw;simp only [Array.any_eq_true'] at hw;obtain ⟨e,he,h2⟩:=hw;rw [Bool.and_eq_true,Bool.or_eq_true] at h2;have hl:=hd o ho e he h2.1;rcases h2.2 with h3 | h3
   ·rw [←beq_iff_eq.1 h3];exact hl
   ·exact zfE h k e.on (fun p hp f hf hb=>h e.on p hp hl f hf hb) h3
theorem Till.first {i:Nat} {o:Oper} {v:Value} {d:Nat} (ho:ops[i]?=some o) (hE:E.all (fun m=>zho md ops d m i)=true) (hsel:∀ (j:Nat) (p:Oper) cs b,ops[j]?=some p→p.op≠.select cs b)
 (hQ:∀ c a w,Q (.panic c) (a.put o.dst v) w→Q (.panic c) a w):∀ (k:Nat) (listed:Array Bool) (a:Act) (w:World),zaI md ops listed →
  (∀ j p,ops[j]?=some p→j≠i→listed.getD j true=false→(∀ e∈p.after,Region.binds md e=true→e.on≠i)→o.apart ops p=true) →
  i∈Region.ready md ops listed→YieldsIf P ops S o v a→S w →
  Till P md ops Q E S k (listed.setIfInBounds i true) (a.put o.dst v) w→Till P md ops Q E S (k+1) listed a w:=by
 intro k
 induction k with
 | zero =>
  intro listed a w hsh hfree hr hy hS H;refine ⟨fun h=>(by rw [h] at hr;cases hr),fun j hj=>?_⟩;rcases Nat.decEq j i with hne | heq
  ·have hji:j∈Region.ready md ops (listed.setIfInBounds i true):=ready_mono hj hne;rw [H.1] at hji;cases hji
  ·subst heq;exact hy.wpOp ho hS ⟨fun _=>hS,H⟩
 | succ k ih =>
  intro listed a w hsh hfree hr hy hS H;refine ⟨fun h=>(by rw [h] at hr;cases hr),fun j hj=>?_⟩;rcases Nat.decEq j i with hne | heq
  ·
   have hji:j∈Region.ready md ops (listed.setIfInBounds i true):=ready_mono hj hne;obtain ⟨hun,p,hp,hall⟩:=mem_ready.1 hj;have h0:listed.getD i true=false:=(mem_ready.1 hr).1
   have h0f:listed.getD i false=false:=by
    rcases Nat.lt_or_ge i listed.size with hl | hl
    ·simp [hl] at h0 ⊢;exact h0
    ·simp [Array.getElem?_eq_none hl] at h0
   have hnot:∀ e∈p.after,Region.binds md e=true→e.on≠i:=fun e he hb hei=>by
    have h1:=hall e he hb;rw [hei,h0f] at h1;cases h1
   have hjE:j ∉ E:=fun hjE=>by
    have h1:=zfE hsh d j (fun q hq e he hb=>by rw [hp] at hq;injection hq with hq;subst hq;exact hall e he hb) (List.all_eq_true.1 hE j hjE);rw [h0f] at h1;cases h1
   have h2:=wpOp_putIf hp (hfree j p hp hne hun hnot) (fun cs b=>hsel i o cs b ho) (fun cs b=>hsel j p cs b hp) hQ hy (H.2 j hji)
   have hfree':∀ q r,ops[q]?=some r→q≠i→(listed.setIfInBounds j true).getD q true=false→(∀ e∈r.after,Region.binds md e=true→e.on≠i)→o.apart ops r=true:=fun q r hq hqi hqu hqn=>by
    refine hfree q r hq hqi ?_ hqn;rcases Nat.decEq j q with hjq | hjq
    ·rw [getD_set_ne true hjq] at hqu;exact hqu
    ·subst hjq;exact hun
   refine wpOp_mono (fun b u h3=>⟨h3.2.1,ih (listed.setIfInBounds j true) b u (hsh.set hj) hfree' (ready_mono hr (Ne.symm hne)) h3.1 (h3.2.1 hjE) ?_⟩) h2;rw [Array.setIfInBounds_comm _ _ hne];exact h3.2.2
  ·subst heq;exact hy.wpOp ho hS ⟨fun _=>hS,H⟩
theorem Till.region {id:Nat} {a:Act} {w:World} (hm:P.follows .mixedOrders=true) (hS:S w.drew) (h:S w.drew→zaI .any ops (Array.replicate ops.size false)→Till P .any ops Q E S ops.size (Array.replicate ops.size false) a w.drew):(Code.region id ops true).wp P Q a w :=
 wp_region_any hm (Till.any _ (h hS (zaI.start _)))
theorem Till.take {i:Nat} {o:Oper} {v:Value} {d k:Nat} {listed:Array Bool} {a:Act} {w:World} (ho:ops[i]?=some o) (hs:Region.noSelect ops=true) (hf:Region.free md ops listed i=true) (hr:(Region.ready md ops listed).contains i=true) (hE:E.all (fun m=>zho md ops d m i)=true)
 (hQ:∀ c a w,Q (.panic c) (a.put o.dst v) w→Q (.panic c) a w) (hy:YieldsIf P ops S o v a) (hS:S w) (hsh:zaI md ops listed)
 (h:zaI md ops (listed.setIfInBounds i true)→Till P md ops Q E S k (listed.setIfInBounds i true) (a.put o.dst v) w):Till P md ops Q E S (k+1) listed a w :=
 Till.first ho hE (Region.noSelect_spec hs) hQ k listed a w hsh (Region.free_spec ho hf) (by simpa using hr) hy hS (h (hsh.set (by simpa using hr)))
theorem Till.one {i:Nat} {o:Oper} {k:Nat} {listed:Array Bool} {a:Act} {w:World} (hr:Region.ready md ops listed=[i]) (ho:ops[i]?=some o) (hsh:zaI md ops listed)
 (h:∀ K':Act→World→Prop,Shut (∀ b v,S v→(S v→zaI md ops (listed.setIfInBounds i true)→Till P md ops Q E S k (listed.setIfInBounds i true) b v)→K' b v)→if Region.wanted o (yielded ops a.tmps)=true then Oper.wp P o a w K' Q else K' (a.put o.dst undef) w):Till P md ops Q E S (k+1) listed a w:=by
 have hi:i∈Region.ready md ops listed:=by rw [hr];exact List.mem_singleton_self i
 refine ⟨fun h0=>(by rw [h0] at hi;cases hi),fun j hj=>?_⟩;rw [hr] at hj;obtain rfl:=List.mem_singleton.1 hj;exact wpOp_step ho (fun K' hK=>h K' (fun b v hS hW=>hK b v ⟨fun _=>hS,hW hS (hsh.set hi)⟩))
theorem Till.last {i:Nat} {o:Oper} {k:Nat} {listed:Array Bool} {a:Act} {w:World} (hr:Region.ready md ops listed=[i]) (ho:ops[i]?=some o) (hiE:i∈E)
 (h:∀ K':Act→World→Prop,Shut (∀ b v,Till P md ops Q E S k (listed.setIfInBounds i true) b v→K' b v)→if Region.wanted o (yielded ops a.tmps)=true then Oper.wp P o a w K' Q else K' (a.put o.dst undef) w):Till P md ops Q E S (k+1) listed a w:=by
 have hi:i∈Region.ready md ops listed:=by rw [hr];exact List.mem_singleton_self i
 refine ⟨fun h0=>(by rw [h0] at hi;cases hi),fun j hj=>?_⟩;rw [hr] at hj;obtain rfl:=List.mem_singleton.1 hj;exact wpOp_step ho (fun K' hK=>h K' (fun b v hW=>hK b v ⟨fun hn=>absurd hiE hn,hW⟩))
end
structure Tks (l:List (Nat × Nat)) (p:Prop):Prop where
 out:p
theorem tkO (l:List (Nat × Nat)) {p:Prop} (h:Tks l p):p:=h.out
theorem tkZ {p:Prop} (h:p):Tks [] p:=⟨h⟩
section
variable {P:Program} {ops:Array Oper} {Q:Exit→Act→World→Prop} {md:Region.Mode} {S:World→Prop} {E:List Nat}
theorem tkY {i t:Nat} {l:List (Nat × Nat)} (v:Value) {fuel:Nat} {listed:Array Bool} {a:Act} {w:World} {o1 o2 o3 o4 o5} (hi:ops[i]?=some ⟨some t,o1,o2,o3,o4,o5⟩) (hw:Region.wanted ⟨some t,o1,o2,o3,o4,o5⟩ (yielded ops a.tmps)=true)
 (hy:∀ w,S w→(execOp a.eval ⟨some t,o1,o2,o3,o4,o5⟩).run P w=.ok (.value v) w) (h:Tks l (wpAnyH P md ops Q S fuel (listed.setIfInBounds i true) (a.put (some t) v) w))
 (hs:Region.noSelect ops=true:=by kernel_rfl) (hf:Region.free md ops listed i=true:=by kernel_rfl) (hr:(Region.ready md ops listed).contains i=true:=by kernel_rfl)
 (hQ:∀ c a w,Q (.panic c) (a.put (some t) v) w→Q (.panic c) a w:=by exact fun _ _ _ h=>h) (hS:S w:=by assumption):Tks ((i,t) :: l) (wpAnyH P md ops Q S (fuel+1) listed a w) :=
 ⟨wpAnyH_take hi hs hf hr hQ (Or.inl ⟨hw,hy⟩) hS h.out⟩
theorem tkN {i t:Nat} {l:List (Nat × Nat)} {fuel:Nat} {listed:Array Bool} {a:Act} {w:World} {o1 o2 o3 o4 o5} (hi:ops[i]?=some ⟨some t,o1,o2,o3,o4,o5⟩) (hw:Region.wanted ⟨some t,o1,o2,o3,o4,o5⟩ (yielded ops a.tmps)=false)
 (h:Tks l (wpAnyH P md ops Q S fuel (listed.setIfInBounds i true) (a.put (some t) undef) w))
 (hs:Region.noSelect ops=true:=by kernel_rfl) (hf:Region.free md ops listed i=true:=by kernel_rfl) (hr:(Region.ready md ops listed).contains i=true:=by kernel_rfl)
 (hQ:∀ c a w,Q (.panic c) (a.put (some t) undef) w→Q (.panic c) a w:=by exact fun _ _ _ h=>h) (hS:S w:=by assumption):Tks ((i,t) :: l) (wpAnyH P md ops Q S (fuel+1) listed a w) :=
 ⟨wpAnyH_take hi hs hf hr hQ (Or.inr ⟨hw,rfl⟩) hS h.out⟩
theorem zR (i:Nat) {fuel:Nat} {listed:Array Bool} {a:Act} {w:World} {o:Oper} (ho:ops[i]?=some o)
 (h:∀ K':Act→World→Prop,Shut (∀ a w,S w→(S w→wpAnyH P md ops Q S fuel (listed.setIfInBounds i true) a w)→K' a w)→if Region.wanted o (yielded ops a.tmps)=true then Oper.wp P o a w K' Q else K' (a.put o.dst undef) w)
 (hr:Region.ready md ops listed=[i]:=by kernel_rfl):wpAnyH P md ops Q S (fuel+1) listed a w :=
 wpAnyH_ready hr (by simp) (AllReadyH.cons ho h AllReadyH.nil)
end
theorem zP:(∀ (a:Act) (d:Option Tmp) (v:Value),a.put d v=match d with | some k=>{ a with tmps:=a.tmps.setIfInBounds k v } | none=>a)∧(∀ (l:List Value) (i:Nat) (a:Value),l.toArray.setIfInBounds i a=(l.set i a).toArray)∧(∀ (a b:Value) (l:List Value),(a :: l).set 0 b=b :: l)∧(∀ (a b:Value) (l:List Value) (n:Nat),(a :: l).set (n+1) b=a :: l.set n b) :=
 ⟨fun _ d _=>by cases d<;>rfl,fun _ _ _=>List.setIfInBounds_toArray ..,fun _ _ _=>List.set_cons_zero ..,fun _ _ _ _=>List.set_cons_succ ..⟩
theorem zA {α:Type} (l:List α) (i:Nat) (a:α):l.toArray.setIfInBounds i a=(l.set i a).toArray:=List.setIfInBounds_toArray ..
theorem zB {α:Type} (a b:α) (l:List α):(a :: l).set 0 b=b :: l:=List.set_cons_zero ..
theorem zC {α:Type} (a b:α) (l:List α) (n:Nat):(a :: l).set (n+1) b=a :: l.set n b:=List.set_cons_succ ..
section
variable {P:Program} {ops:Array Oper} {Q:Exit→Act→World→Prop} {md:Region.Mode} {S:World→Prop} {E:List Nat}
theorem tlY {i t:Nat} {l:List (Nat × Nat)} (v:Value) {k:Nat} {listed:Array Bool} {a:Act} {w:World} {o1 o2 o3 o4 o5} (hi:ops[i]?=some ⟨some t,o1,o2,o3,o4,o5⟩) (hw:Region.wanted ⟨some t,o1,o2,o3,o4,o5⟩ (yielded ops a.tmps)=true)
 (hy:∀ w,S w→(execOp a.eval ⟨some t,o1,o2,o3,o4,o5⟩).run P w=.ok (.value v) w) (h:zaI md ops (listed.setIfInBounds i true)→Tks l (Till P md ops Q E S k (listed.setIfInBounds i true) (a.put (some t) v) w))
 (hs:Region.noSelect ops=true:=by kernel_rfl) (hf:Region.free md ops listed i=true:=by kernel_rfl) (hr:(Region.ready md ops listed).contains i=true:=by kernel_rfl) (hE:E.all (fun m=>zho md ops 30 m i)=true:=by kernel_rfl)
 (hQ:∀ c a w,Q (.panic c) (a.put (some t) v) w→Q (.panic c) a w:=by exact fun _ _ _ h=>h) (hS:S w:=by assumption) (hsh:zaI md ops listed:=by assumption):Tks ((i,t) :: l) (Till P md ops Q E S (k+1) listed a w) :=
 ⟨Till.take hi hs hf hr hE hQ (Or.inl ⟨hw,hy⟩) hS hsh (fun e=>(h e).out)⟩
end
theorem back8 (b0 b1 b2 b3 b4 b5 b6 b7:UInt8) (w:World) :
 (convert 22 9 (.slice (some ⟨w.heap.size,0,none⟩) 8 8)).run Tryz.prog (w.alloc (.cells #[.int .u8 b0.toNat,.int .u8 b1.toNat,.int .u8 b2.toNat,.int .u8 b3.toNat,.int .u8 b4.toNat,.int .u8 b5.toNat,.int .u8 b6.toNat,.int .u8 b7.toNat] 5)) =
  .ok (.string ⟨#[b0,b1,b2,b3,b4,b5,b6,b7]⟩) (w.alloc (.cells #[.int .u8 b0.toNat,.int .u8 b1.toNat,.int .u8 b2.toNat,.int .u8 b3.toNat,.int .u8 b4.toNat,.int .u8 b5.toNat,.int .u8 b6.toNat,.int .u8 b7.toNat] 5)):=by
 have h:=run_convert_bytes_back (P:=Tryz.prog) (w.alloc (.cells #[.int .u8 b0.toNat,.int .u8 b1.toNat,.int .u8 b2.toNat,.int .u8 b3.toNat,.int .u8 b4.toNat,.int .u8 b5.toNat,.int .u8 b6.toNat,.int .u8 b7.toNat] 5)) 22 9 5 ⟨w.heap.size,0,none⟩ 8 [b0,b1,b2,b3,b4,b5,b6,b7] Tryz.underlying22 Tryz.underlying5 Tryz.underlying9 (by
  intro j hj;have hj':j<8:=by simpa using hj
  match j,hj' with
  | 0,_=>simp [Addr.add,go_sem]
  | 1,_=>simp [Addr.add,go_sem]
  | 2,_=>simp [Addr.add,go_sem]
  | 3,_=>simp [Addr.add,go_sem]
  | 4,_=>simp [Addr.add,go_sem]
  | 5,_=>simp [Addr.add,go_sem]
  | 6,_=>simp [Addr.add,go_sem]
  | 7,_=>simp [Addr.add,go_sem])
 exact h
theorem zj8 (n:Int) (w:World) (h0:0≤n) (h1:n≤4294967295) :
 Calls Tryz.prog 101 #[.int .i64 n] w fun e w'=>e=.returned (.string ⟨(hexL n.toNat).toArray⟩)∧Below w.heap.size w w':=by
 have hmk:∀ w,(Instr.makeSlice 22 (.int .i64 8) (.int .i64 8)).run Tryz.prog w=.ok (.slice (some ⟨w.heap.size,0,none⟩) 8 8) (w.alloc (.cells #[.int .u8 0,.int .u8 0,.int .u8 0,.int .u8 0,.int .u8 0,.int .u8 0,.int .u8 0,.int .u8 0] 5)):=fun _=>by kernel_rfl
 have hD:∀ (m:Int) (h:m.toNat<(ByteArray.mk #[48,49,50,51,52,53,54,55,56,57,97,98,99,100,101,102]).size),(ByteArray.mk #[48,49,50,51,52,53,54,55,56,57,97,98,99,100,101,102])[m.toNat]=hexD m.toNat:=zoP
 have hback:=back8
 go_enter Tryz.func101,Tryz.ntmps101
 go_wp2
 go_rounds 9
 go_ret;exact ⟨zgq (hexW n h0),(Below.refl _ _).alloc (Nat.le_refl _) _⟩
theorem zl3 (n:Int) (p:Nat) (w:World) (h0:0≤n) (h1:n≤4294967295) (hp:p<8) :
 Calls Tryz.prog 110 #[.int .i64 n,.int .i64 p] w fun e w'=>e=.returned (.int .u8 (hexD (n.toNat / 16 ^ p % 16)).toNat)∧w'=w:=by
 have hD:∀ (m:Int) (h:m.toNat<(ByteArray.mk #[48,49,50,51,52,53,54,55,56,57,97,98,99,100,101,102]).size),(ByteArray.mk #[48,49,50,51,52,53,54,55,56,57,97,98,99,100,101,102])[m.toNat]=hexD m.toNat:=zoP
 have hA:=and15
 match p,hp with
 | 0,_ | 1,_ | 2,_ | 3,_ | 4,_ | 5,_ | 6,_ | 7,_ =>
  go_enter Tryz.func110,Tryz.ntmps110
  go_wp2;go_ret;refine ⟨zdI (congrArg (fun k:Nat=>(((hexD k).toNat:Nat):Int)) ?_),rfl⟩;omega
theorem zjJ (n p:Int) (w:World) (h0:0≤n) (h1:n≤4294967295) (hp0:0≤p) (hp:p<8) :
 Calls Tryz.prog 110 #[.int .i64 n,.int .i64 p] w fun e w'=>e=.returned (.int .u8 (hexD (n.toNat / 16 ^ p.toNat % 16)).toNat)∧w'=w:=by
 obtain ⟨k,rfl⟩:=Int.eq_ofNat_of_zero_le hp0;exact zl3 n k w h0 h1 (by omega)
theorem zl2 (n:Int) (w:World) (h0:0≤n) (h1:n≤4294967295) :
 Calls Tryz.prog 109 #[.int .i64 8,.func (.func 110) #[.int .i64 n] #[]] w fun e w'=>e=.returned (.string ⟨(hexL n.toNat).toArray⟩)∧Below w.heap.size w w':=by
 have hmk:∀ w,(Instr.makeSlice 22 (.int .i64 8) (.int .i64 8)).run Tryz.prog w=.ok (.slice (some ⟨w.heap.size,0,none⟩) 8 8) (w.alloc (.cells #[.int .u8 0,.int .u8 0,.int .u8 0,.int .u8 0,.int .u8 0,.int .u8 0,.int .u8 0,.int .u8 0] 5)):=fun _=>by kernel_rfl
 have hback:=back8
 go_enter Tryz.func109,Tryz.ntmps109
 go_wp2;refine wp_loop_rounds 9 ?_
 repeat (rw [rounds_succ];go_wp2_with (go_at_call 110;refine (zjJ _ _ _ h0 h1 (by omega) (by omega)).mono ?_;rintro e w' ⟨rfl,rfl⟩))
 go_ret;refine ⟨zgq ?_,(Below.refl _ _).alloc (Nat.le_refl _) _⟩
 rfl
theorem zca (x lo hi:Int) (w:World) :
 Calls Tryz.prog 42 #[.int .i64 x,.int .i64 lo,.int .i64 hi] w fun e w'=>e=.returned (.bool (inB x lo hi))∧w'=w:=by
 by_cases h1:lo≤x
 ·
  by_cases h2:x≤hi
  ·
   have hB:Hid (inB x lo hi=true):=zdO x lo hi h1 h2
   go_enter Tryz.func42,Tryz.ntmps42
   go_wp2;go_ret;exact ⟨by rw [hB.out];rfl,rfl⟩
  ·
   have hB:Hid (inB x lo hi=false):=zcx x lo hi (Or.inr (by omega))
   go_enter Tryz.func42,Tryz.ntmps42
   go_wp2;go_ret;exact ⟨by rw [hB.out];rfl,rfl⟩
 ·
  have hB:Hid (inB x lo hi=false):=zcx x lo hi (Or.inl (by omega))
  go_enter Tryz.func42,Tryz.ntmps42
  go_wp2;go_ret;exact ⟨by rw [hB.out];rfl,rfl⟩
theorem zoI (n:Int) (w:World) :
 Calls Tryz.prog 87 #[.int .i64 n] w fun e w'=>e=.returned (.string ⟨(hexS n).toArray⟩)∧Below w.heap.size w w':=by
 have hmf:∀ (fn:Fn) (first cap:Array Value) (w:World),(Instr.makeFunc fn first cap).run Tryz.prog w=.ok (.func fn first cap) w:=fun _ _ _ _=>rfl
 rcases (show n<0∨4294967295<n∨(0≤n∧n≤4294967295) by omega) with h | h | ⟨h0,h1⟩
 ·
  have hS:Hid (hexS n=[]):=zoN n (Or.inl h)
  go_enter Tryz.func87,Tryz.ntmps87
  go_wp2;go_ret;exact ⟨zgq (by rw [hS.out]),Below.refl _ _⟩
 ·
  have hS:Hid (hexS n=[]):=zoN n (Or.inr h)
  go_enter Tryz.func87,Tryz.ntmps87
  go_wp2;go_ret;exact ⟨zgq (by rw [hS.out]),Below.refl _ _⟩
 ·
  have hS:Hid (hexS n=hexL n.toNat):=ze6 n h0 h1
  go_enter Tryz.func87,Tryz.ntmps87
  go_wp2_with (go_at_call 109;refine (zl2 _ _ h0 h1).mono ?_;rintro e w' ⟨rfl,hb⟩)
  go_ret;exact ⟨zgq (by rw [hS.out]),by assumption⟩
theorem zmA (n:Int) (w:World):Calls Tryz.prog 192 #[.int .i64 n] w fun e w'=>e=.returned (.bool (inB n (-2147483648) 2147483647))∧w'=w:=by
 go_enter Tryz.func192,Tryz.ntmps192
 go_wp2_with (go_at_call 42;refine (zca _ _ _ _).mono ?_;rintro e w' ⟨rfl,rfl⟩)
 go_ret;exact ⟨rfl,rfl⟩
theorem zhx {m n:Int} {c d:Bool} (h:m=n) (j:c=d):Ending.returned (.tuple #[.int .i64 m,.bool c])=.returned (.tuple #[.int .i64 n,.bool d]):=by rw [h,j]
theorem znM (l:List UInt8) (b:UInt8) (c:Int) (w:World) (hc:c=(b.toNat:Int)) (hl:l.length≤1048576) :
 Calls Tryz.prog 130 #[.string ⟨l.toArray⟩,.int .u8 c] w fun e w'=>∃ g cp,e=.returned (.slice (some ⟨g,0,none⟩) (zaq b l).length cp)∧w'.ownsRow w.heap.size 9 1 (.slice (some ⟨g,0,none⟩) (zaq b l).length cp) (zaq b l).length (strV (zaq b l))∧Below w.heap.size w w':=by
 obtain ⟨i0,hi,hz0,hz1,hz2⟩:=info_parts zn1;have hext:=zd1;have hown0:=(World.ownsRow_lit (base:=w.heap.size) (e:=9) (size:=1) w #[] 0 (Nat.le_refl _) (by decide) rfl);have HC:Hid (c=(b.toNat:Int)):=hc;clear hc
 go_enter Tryz.func130,Tryz.ntmps130
 go_wp2
 go_loopw [5,6,7] (fun v fr ix wr=>∃ (o:List (List UInt8)) (f i g cp:Nat),v=.slice (some ⟨g,0,none⟩) o.length cp∧fr=.int .i64 f∧ix=.int .i64 i∧o.length≤i∧i≤l.length+1∧Hid ((i≤l.length∧f≤i∧o++zas b ((l.drop f).take (i-f)) (l.drop i)=zaq b l)∨(i=l.length+1∧o=zaq b l))∧wr.ownsRow w.heap.size 9 1 v o.length (strV o)∧Below w.heap.size w wr) (fun _ _ ix _=>l.length+1-(intOf ix).toNat)
 case atStart=>exact ⟨[],0,0,w.heap.size,0,rfl,rfl,rfl,by simp,by omega,(Or.inl ⟨by omega,by omega,by simp [zaq]⟩:_∨_),hown0,(Below.refl _ _).alloc (Nat.le_refl _) _⟩
 case round =>
  obtain ⟨o,f,i,g,cp,rfl,rfl,rfl,hoi,hil,HG,hown,hb⟩:=hrel;clear hown0;by_cases hlt:(i:Int)≤(l.length:Int)
  ·
   obtain ⟨_,hfi,hg⟩:i≤l.length∧f≤i∧o++zas b ((l.drop f).take (i-f)) (l.drop i)=zaq b l:=by
    rcases HG.out with h | h
    ·exact h
    ·omega
   have HE:Hid (o++zas b ((l.drop f).take (i-f)) (l.drop i)=zaq b l):=hg;clear hg HG;have hfi1:(f:Int)≤(i:Int):=by omega
   have hf0:(0:Int)≤(f:Int):=by omega
   by_cases hend:i=l.length
   ·
    subst hend;have HF:Hid (o++[(l.drop f).take (l.length-f)]=zaq b l):=znK b l o _ HE.out;have htk:List.take (l.length-f) (List.drop f l)=List.drop f l:=List.take_of_length_le (by rw [List.length_drop];omega);rw [htk] at HF;clear HE
    go_wp2_with (at_builtin;refine wpList_append_own _ rfl _ _ 67 rfl w.heap.size 9 i0 (.string ⟨#[]⟩) 1 16 Tryz.underlying67 hi hz0 hz1 hz2 rfl (by decide) _ _ _ rfl (hown.alloc _) ⟨wr.heap.size,0,none⟩ 1 1 [.string ⟨(l.drop f).toArray⟩] rfl rfl ?c1 ?c2 ?c3 ?c4 ?c5 ?_)
    first | (case c1=>exact cell_one_new _ _ _) | skip
    first | (case c2=>first | rfl | (intro u hu;simp at hu;subst hu;rfl)) | skip
    first | (case c3=>unfold maxLen;omega) | skip
    first | (case c4=>omega) | skip
    first | (case c5=>have:=hb.size;simp;try omega) | skip
    intro v' w3 hown3 hgrow3 hnil3;have hown4:=zeq hown3;have hv':v'≠.slice none 0 0:=hnil3;obtain ⟨g',cp',hv⟩:=zeM hown4 hv';have hb3:Below w.heap.size w w3:=(hb.alloc hb.size _).grown hgrow3 (by have:=hb.size;simp;omega) (fun k e=>(hown.lt k e).1);clear hown3 hgrow3 hnil3 hown hb hv';go_wp2;go_roundw
    case rel=>exact ⟨o++[l.drop f],l.length+1,l.length+1,g',cp',hv,by go_num,by go_num,by rw [List.length_append,List.length_singleton];omega,by omega,(Or.inr ⟨rfl,HF.out⟩:_∨_),hown4,hb3⟩
    case measure=>simp [intOf]
   ·
    have de:((i:Int)==(l.length:Int))=false:=beq_eq_false_iff_ne.2 (by omega);have hil2:i<l.length:=by omega
    have hil3:(i:Int)<(l.length:Int):=by omega
    obtain ⟨x,hx⟩:∃ x,l[i]=x:=⟨_,rfl⟩
    by_cases hxb:x=b
    ·
     have HF:Hid ((o++[(l.drop f).take (i-f)])++zas b [] (l.drop (i+1))=zaq b l):=znJ b l o _ i hil2 (by rw [hx];exact hxb) HE.out;have dx:((((⟨l.toArray⟩:ByteArray)[i]'(by show i<l.toArray.size;simpa using hil2)).toNat:Int)==c)=true:=by show ((l[i].toNat:Int)==c)=true;rw [hx,hxb,HC.out];simp
     clear HE hx hxb hend
     go_wp2_with (at_builtin;refine wpList_append_own _ rfl _ _ 67 rfl w.heap.size 9 i0 (.string ⟨#[]⟩) 1 16 Tryz.underlying67 hi hz0 hz1 hz2 rfl (by decide) _ _ _ rfl (hown.alloc _) ⟨wr.heap.size,0,none⟩ 1 1 [.string ⟨((l.drop f).take (i-f)).toArray⟩] rfl rfl ?c1 ?c2 ?c3 ?c4 ?c5 ?_)
     first | (case c1=>exact cell_one_new _ _ _) | skip
     first | (case c2=>first | rfl | (intro u hu;simp at hu;subst hu;rfl)) | skip
     first | (case c3=>unfold maxLen;omega) | skip
     first | (case c4=>omega) | skip
     first | (case c5=>have:=hb.size;simp;try omega) | skip
     intro v' w3 hown3 hgrow3 hnil3;have hown4:=zeq hown3;have hv':v'≠.slice none 0 0:=hnil3;obtain ⟨g',cp',hv⟩:=zeM hown4 hv';have hb3:Below w.heap.size w w3:=(hb.alloc hb.size _).grown hgrow3 (by have:=hb.size;simp;omega) (fun k e=>(hown.lt k e).1);clear hown3 hgrow3 hnil3 hown hb hv';go_wp2;go_roundw
     case rel=>exact ⟨o++[(l.drop f).take (i-f)],i+1,i+1,g',cp',hv,by go_num,by go_num,by rw [List.length_append,List.length_singleton];omega,by omega,(Or.inl ⟨by omega,by omega,by rw [Nat.sub_self,List.take_zero];exact HF.out⟩:_∨_),hown4,hb3⟩
     case measure=>simp [intOf];omega
    ·
     have HF:Hid (o++zas b ((l.drop f).take (i+1-f)) (l.drop (i+1))=zaq b l):=by have:=zmx b l o _ i hil2 (by rw [hx];exact hxb) HE.out;rw [zmf l f i hfi hil2];exact this
     have dx:((((⟨l.toArray⟩:ByteArray)[i]'(by show i<l.toArray.size;simpa using hil2)).toNat:Int)==c)=false:=by show ((l[i].toNat:Int)==c)=false;rw [hx,HC.out];exact beq_eq_false_iff_ne.2 (fun e=>hxb (UInt8.toNat_inj.1 (by omega)))
     clear HE hx hxb hend;go_wp2;go_roundw
     case rel=>exact ⟨o,f,i+1,g,cp,rfl,rfl,by go_num,by omega,by omega,(Or.inl ⟨by omega,by omega,HF.out⟩:_∨_),hown,hb⟩
     case measure=>simp [intOf];omega
  ·
   have HF:Hid (o=zaq b l):=by
    rcases HG.out with h | h
    ·omega
    ·exact h.2
   go_wp2;go_ret;exact ⟨g,cp,by rw [←HF.out];rfl,by rw [←HF.out];exact hown,hb⟩
theorem zcb (l:List UInt8) (w:World) (hl:l.length≤1048576) :
 Calls Tryz.prog 44 #[.string ⟨l.toArray⟩] w fun e w'=>e=.returned (.bool (zaE l))∧w'=w:=by
 go_enter Tryz.func44,Tryz.ntmps44
 go_wp2
 go_loop [3] (fun ix=>∃ k:Nat,k≤l.length∧ix=.int .i64 k∧Hid (∀ j (hj:j<l.length),j<k→97≤l[j].toNat∧l[j].toNat≤122)) (fun ix=>l.length-(intOf ix).toNat)
 case atStart=>exact ⟨0,Nat.zero_le _,rfl,(fun j _ h=>by omega:∀ j (hj:j<l.length),j<0→_)⟩
 case round =>
  obtain ⟨k,hk,rfl,HK⟩:=hrel;by_cases hkl:(k:Int)<(l.length:Int)
  ·
   have hk2:k<l.length:=by omega
   obtain ⟨x,hx⟩:∃ x:UInt8,l[k]=x:=⟨_,rfl⟩
   have hxb:(⟨l.toArray⟩:ByteArray)[k]'(by show k<l.toArray.size;simpa using hk2)=x:=hx;by_cases h1:(x.toNat:Int)<97
   ·have HF:Hid (zaE l=false):=zgb l k hk2 (by rw [hx];omega);clear hx;go_wp2;go_ret;exact ⟨by rw [HF.out];rfl,rfl⟩
   ·
    by_cases h2:122<(x.toNat:Int)
    ·have HF:Hid (zaE l=false):=zgb l k hk2 (by rw [hx];omega);clear hx;go_wp2;go_ret;exact ⟨by rw [HF.out];rfl,rfl⟩
    ·
     have HS:Hid (∀ j (hj:j<l.length),j<k+1→97≤l[j].toNat∧l[j].toNat≤122):=fun j hj hjk=>by
      by_cases e:j=k
      ·subst e;rw [hx];omega
      ·exact HK.out j hj (by omega)
     clear hx;go_wp2
     go_round
     case rel=>exact ⟨k+1,by omega,by go_num,HS⟩
     case measure=>simp [intOf];omega
  ·
   have HF:Hid (zaE l=inB (l.length:Int) 1 8):=zjy l (fun j hj=>HK.out j hj (by omega))
   go_wp2_with (go_at_call 42;refine (zca _ _ _ _).mono ?_;rintro e w' ⟨rfl,rfl⟩)
   go_ret;exact ⟨by rw [HF.out];rfl,rfl⟩
def zc0 (t:List UInt8) (i k:Nat):Nat:=valL ((t.drop i).take (k-i))
theorem zgi (t:List UInt8) (i:Nat):zc0 t i i=0:=by simp [zc0,valL]
theorem zhp (t:List UInt8) (i k:Nat) (hi:i≤k) (hk:k<t.length):zc0 t i (k+1)=zc0 t i k*10+(t[k].toNat-48):=by
 unfold zc0;rw [zmf t i k hi hk,zeD]
theorem znx (t:List UInt8) (i:Nat):zc0 t i t.length=valL (t.drop i):=by
 unfold zc0;rw [List.take_of_length_le (by rw [List.length_drop];omega)]
theorem zlx (t:List UInt8) (i k:Nat) (hi:i≤k) (hk:k≤t.length) (h10:t.length-i≤10) (h:∀ j (hj:j<t.length),i≤j→j<k→zbK t[j]):zc0 t i k<10000000000:=by
 unfold zc0
 have hd:∀ c∈(t.drop i).take (k-i),zbK c:=by intro c hc;obtain ⟨j,hj,rfl⟩:=List.getElem_of_mem hc;rw [List.length_take,List.length_drop] at hj;rw [List.getElem_take,List.getElem_drop];exact h (i+j) (by omega) (by omega) (by omega)
 have h1:=zny _ hd;have h2:((t.drop i).take (k-i)).length≤10:=by rw [List.length_take,List.length_drop];omega
 have h3:(10:Nat) ^ ((t.drop i).take (k-i)).length≤10 ^ 10:=Nat.pow_le_pow_right (by omega) h2;omega
theorem zkb (t:List UInt8) (i:Nat) (hi:(negB t=true∧i=1)∨(negB t=false∧i=0)):zbv t=t.drop i:=by
 unfold zbv;rcases hi with ⟨h,rfl⟩ | ⟨h,rfl⟩
 ·rw [if_pos h];simp
 ·rw [if_neg (by rw [h];simp)];simp
theorem zfz {t:List UInt8} {i:Nat} (hi:zbv t=t.drop i) (h:¬(1≤t.length-i∧t.length-i≤10)):¬zf8 t:=fun hf=>by
 have:=hf.1;rw [hi,List.length_drop] at this;exact h this
theorem ze9 {t:List UInt8} {i k:Nat} (hi:zbv t=t.drop i) (hik:i≤k) (hk:k<t.length) (h:¬zbK t[k]):¬zf8 t:=fun hf=>by
 refine h (hf.2.1 t[k] ?_);rw [hi,List.mem_iff_getElem];exact ⟨k-i,by rw [List.length_drop];omega,by rw [List.getElem_drop];congr 1;omega⟩
theorem zjS {t:List UInt8} {i:Nat} (hi:zbv t=t.drop i) (hl:i<t.length):(zbv t).head?=some t[i]:=by
 rw [hi,List.head?_drop,List.getElem?_eq_getElem hl]
theorem ziE {t:List UInt8} {i:Nat} (hi:zbv t=t.drop i) (h1:1≤t.length-i∧t.length-i≤10) (h2:∀ j (hj:j<t.length),i≤j→zbK t[j]) (h3:¬((zbv t).head?=some 48∧1<t.length)):zf8 t:=by
 refine ⟨by rw [hi,List.length_drop];exact h1,?_,h3⟩;intro c hc;rw [hi] at hc;obtain ⟨j,hj,rfl⟩:=List.getElem_of_mem hc;rw [List.length_drop] at hj;rw [List.getElem_drop];exact h2 (i+j) (by omega) (by omega)
theorem zce {t:List UInt8} (h:¬zf8 t):zaC t=0∧zaX t=false:=by
 unfold zaC;rw [readB_no h];exact ⟨if_neg (by simp),rfl⟩
theorem zgt {t:List UInt8} {i:Nat} (h:zf8 t) (hi:zbv t=t.drop i):zaC t=(if negB t=true then -(zc0 t i t.length:Int) else (zc0 t i t.length:Int))∧zaX t=true:=by
 unfold zaC;rw [if_pos (zeJ h),hi,znx];exact ⟨rfl,zeJ h⟩
theorem specRead (t:List UInt8) (w:World) (hl:t.length≤1048576) :
 Calls Tryz.prog 131 #[.string ⟨t.toArray⟩] w fun e w'=>e=.returned (.tuple #[.int .i64 (zaC t),.bool (zaX t)])∧w'=w:=by
 by_cases hte:t=[]
 ·
  subst hte;have HO:Hid (zaC ([]:List UInt8)=0∧zaX ([]:List UInt8)=false):=zce (fun hf=>by have:=hf.1;simp [zbv,negB] at this)
  go_enter Tryz.func131,Tryz.ntmps131
  go_wp2
  go_ret2
  exact ⟨by rw [HO.out.1,HO.out.2];rfl,rfl⟩
 ·
  have htl:0<t.length:=List.length_pos_iff.2 hte;have htb:t.isEmpty=false:=by simp [hte]
  obtain ⟨x0,hx0⟩:∃ x0,t[0]=x0:=⟨_,rfl⟩
  have hx0b:(⟨t.toArray⟩:ByteArray)[0]'(by show 0<t.toArray.size;simpa using htl)=x0:=hx0
  have hng:negB t=(x0==45):=by
   unfold negB;cases t with
   | nil=>exact absurd rfl hte
   | cons y r=>simp at hx0;rw [←hx0];simp
  have HX0:Hid (t[0]=x0):=hx0;clear hx0 hte;by_cases hxm:x0=45
  ·
   have hdx:((x0.toNat:Int)==45)=true:=by rw [hxm];rfl
   have hn:negB t=true:=by rw [hng];rw [hxm];rfl
   have hbd:=zkb t 1 (Or.inl ⟨hn,rfl⟩);have HB:Hid (zbv t=t.drop 1):=hbd;have HNG:Hid (negB t=true):=hn;clear hng hn hbd hxm;by_cases hs1:t.length=1
   ·
    have HO:Hid (zaC t=0∧zaX t=false):=zce (zfz HB.out (by omega));have hs1':(t.length:Int)-1<1:=by omega
    clear hs1
    go_enter Tryz.func131,Tryz.ntmps131
    go_wp2
    go_ret2
    exact ⟨by rw [HO.out.1,HO.out.2];rfl,rfl⟩
   have hs1':¬(t.length:Int)-1<1:=by omega
   by_cases hs2:10<(t.length:Int)-1
   ·
    have HO:Hid (zaC t=0∧zaX t=false):=zce (zfz HB.out (by omega))
    go_enter Tryz.func131,Tryz.ntmps131
    go_wp2
    go_ret2
    exact ⟨by rw [HO.out.1,HO.out.2];rfl,rfl⟩
   go_enter Tryz.func131,Tryz.ntmps131
   go_wp2
   go_loop [6,7] (fun nv ix=>∃ k:Nat,1≤k∧k≤t.length∧ix=.int .i64 k∧nv=.int .i64 (zc0 t 1 k:Nat)∧Hid (∀ j (hj:j<t.length),1≤j→j<k→zbK t[j])) (fun _ ix=>t.length-(intOf ix).toNat)
   case atStart=>exact ⟨1,by omega,by omega,rfl,by rw [zgi];rfl,(fun j hj h1 h2=>by omega:∀ j (hj:j<t.length),1≤j→j<1→zbK t[j])⟩
   case round =>
    obtain ⟨k,hk0,hk1,rfl,rfl,HK⟩:=hrel;have hvb:=zlx t 1 k hk0 hk1 (by omega) HK.out;have hvb2:(zc0 t 1 k:Int)<10000000000:=by omega
    by_cases hkl:(k:Int)<(t.length:Int)
    ·
     have hk2:k<t.length:=by omega
     obtain ⟨x,hx⟩:∃ x:UInt8,t[k]=x:=⟨_,rfl⟩
     have hxb:(⟨t.toArray⟩:ByteArray)[k]'(by show k<t.toArray.size;simpa using hk2)=x:=hx;by_cases hd1:(x.toNat:Int)<48
     ·
      have HO:Hid (zaC t=0∧zaX t=false):=zce (ze9 HB.out hk0 hk2 (by rw [hx];unfold zbK;omega));clear hx;go_wp2
      go_ret2
      exact ⟨by rw [HO.out.1,HO.out.2];rfl,rfl⟩
     ·
      by_cases hd2:57<(x.toNat:Int)
      ·
       have HO:Hid (zaC t=0∧zaX t=false):=zce (ze9 HB.out hk0 hk2 (by rw [hx];unfold zbK;omega));clear hx;go_wp2
       go_ret2
       exact ⟨by rw [HO.out.1,HO.out.2];rfl,rfl⟩
      ·
       have HS:Hid (∀ j (hj:j<t.length),1≤j→j<k+1→zbK t[j]):=fun j hj h1 h2=>by
        by_cases e:j=k
        ·subst e;rw [hx];unfold zbK;omega
        ·exact HK.out j hj h1 (by omega)
       have hst:=zhp t 1 k hk0 hk2;rw [hx] at hst;have HV:Hid (zc0 t 1 (k+1)=zc0 t 1 k*10+(x.toNat-48)):=hst;clear hx hst;go_wp2
       go_round
       case rel=>exact ⟨k+1,by omega,by omega,by go_num,by rw [HV.out,show (((zc0 t 1 k*10+(x.toNat-48):Nat)):Int)=(zc0 t 1 k:Int)*10+((x.toNat:Int)-48) by omega],HS⟩
       case measure=>simp [intOf];omega
    ·
     obtain rfl:k=t.length:=by omega
     have hIl:1<t.length:=by omega
     obtain ⟨y,hy⟩:∃ y:UInt8,t[1]=y:=⟨_,rfl⟩
     have hyb:(⟨t.toArray⟩:ByteArray)[1]'(by show 1<t.toArray.size;simpa using hIl)=y:=hy;have hhd:=zjS HB.out hIl;rw [hy] at hhd;by_cases hy0:y=48
     ·
      have HO:Hid (zaC t=0∧zaX t=false):=zce (fun hf=>hf.2.2 ⟨by rw [hhd,hy0],by omega⟩);have hdy:((y.toNat:Int)==48)=true:=by rw [hy0];rfl
      clear hy hy0;clear hhd;go_wp2
      go_ret2
      exact ⟨by rw [HO.out.1,HO.out.2];rfl,rfl⟩
     ·
      have hdy:((y.toNat:Int)==48)=false:=beq_eq_false_iff_ne.2 (fun e=>hy0 (UInt8.toNat_inj.1 (by have h48:(48:UInt8).toNat=48:=rfl;omega)));have hf:zf8 t:=ziE HB.out (by omega) (fun j hj h1=>HK.out j hj h1 (by omega)) (fun h=>hy0 (by have:=h.1;rw [hhd] at this;exact Option.some.inj this));have hv:=zgt hf HB.out;rw [HNG.out] at hv
      have HV:Hid (zaC t=-(zc0 t 1 t.length:Int)∧zaX t=true):=by exact (by simpa using hv:zaC t=-(zc0 t 1 t.length:Int)∧zaX t=true)
      clear hf hv hhd;clear hy hy0;go_wp2
      go_ret2
      exact ⟨by rw [HV.out.1,HV.out.2];rfl,rfl⟩
  ·
   have hdx:((x0.toNat:Int)==45)=false:=beq_eq_false_iff_ne.2 (fun e=>hxm (UInt8.toNat_inj.1 (by have h45:(45:UInt8).toNat=45:=rfl;omega)));have hn:negB t=false:=by rw [hng];exact beq_eq_false_iff_ne.2 hxm
   have hbd:=zkb t 0 (Or.inr ⟨hn,rfl⟩);have HB:Hid (zbv t=t.drop 0):=hbd;have HNG:Hid (negB t=false):=hn;clear hng hn hbd hxm;have hs1':¬(t.length:Int)<1:=by omega
   by_cases hs2:10<(t.length:Int)
   ·
    have HO:Hid (zaC t=0∧zaX t=false):=zce (zfz HB.out (by omega))
    go_enter Tryz.func131,Tryz.ntmps131
    go_wp2
    go_ret2
    exact ⟨by rw [HO.out.1,HO.out.2];rfl,rfl⟩
   go_enter Tryz.func131,Tryz.ntmps131
   go_wp2
   go_loop [6,7] (fun nv ix=>∃ k:Nat,0≤k∧k≤t.length∧ix=.int .i64 k∧nv=.int .i64 (zc0 t 0 k:Nat)∧Hid (∀ j (hj:j<t.length),0≤j→j<k→zbK t[j])) (fun _ ix=>t.length-(intOf ix).toNat)
   case atStart=>exact ⟨0,by omega,by omega,rfl,by rw [zgi];rfl,(fun j hj h1 h2=>by omega:∀ j (hj:j<t.length),0≤j→j<0→zbK t[j])⟩
   case round =>
    obtain ⟨k,hk0,hk1,rfl,rfl,HK⟩:=hrel;have hvb:=zlx t 0 k hk0 hk1 (by omega) HK.out;have hvb2:(zc0 t 0 k:Int)<10000000000:=by omega
    by_cases hkl:(k:Int)<(t.length:Int)
    ·
     have hk2:k<t.length:=by omega
     obtain ⟨x,hx⟩:∃ x:UInt8,t[k]=x:=⟨_,rfl⟩
     have hxb:(⟨t.toArray⟩:ByteArray)[k]'(by show k<t.toArray.size;simpa using hk2)=x:=hx;by_cases hd1:(x.toNat:Int)<48
     ·
      have HO:Hid (zaC t=0∧zaX t=false):=zce (ze9 HB.out hk0 hk2 (by rw [hx];unfold zbK;omega));clear hx;go_wp2
      go_ret2
      exact ⟨by rw [HO.out.1,HO.out.2];rfl,rfl⟩
     ·
      by_cases hd2:57<(x.toNat:Int)
      ·
       have HO:Hid (zaC t=0∧zaX t=false):=zce (ze9 HB.out hk0 hk2 (by rw [hx];unfold zbK;omega));clear hx;go_wp2
       go_ret2
       exact ⟨by rw [HO.out.1,HO.out.2];rfl,rfl⟩
      ·
       have HS:Hid (∀ j (hj:j<t.length),0≤j→j<k+1→zbK t[j]):=fun j hj h1 h2=>by
        by_cases e:j=k
        ·subst e;rw [hx];unfold zbK;omega
        ·exact HK.out j hj h1 (by omega)
       have hst:=zhp t 0 k hk0 hk2;rw [hx] at hst;have HV:Hid (zc0 t 0 (k+1)=zc0 t 0 k*10+(x.toNat-48)):=hst;clear hx hst;go_wp2
       go_round
       case rel=>exact ⟨k+1,by omega,by omega,by go_num,by rw [HV.out,show (((zc0 t 0 k*10+(x.toNat-48):Nat)):Int)=(zc0 t 0 k:Int)*10+((x.toNat:Int)-48) by omega],HS⟩
       case measure=>simp [intOf];omega
    ·
     obtain rfl:k=t.length:=by omega
     have hIl:0<t.length:=by omega
     have hy:=HX0.out;have hhd:=zjS HB.out hIl;rw [hy] at hhd;by_cases hy0:x0=48
     ·
      have hdy:((x0.toNat:Int)==48)=true:=by rw [hy0];rfl
      by_cases h1l:1<(t.length:Int)
      ·
       have HO:Hid (zaC t=0∧zaX t=false):=zce (fun hf=>hf.2.2 ⟨by rw [hhd,hy0],by omega⟩);clear hy hy0;clear hhd;go_wp2
       go_ret2
       exact ⟨by rw [HO.out.1,HO.out.2];rfl,rfl⟩
      ·
       have hf:zf8 t:=ziE HB.out (by omega) (fun j hj h1=>HK.out j hj h1 (by omega)) (fun h=>absurd h.2 (by omega));have hv:=zgt hf HB.out;rw [HNG.out] at hv
       have HV:Hid (zaC t=(zc0 t 0 t.length:Int)∧zaX t=true):=by exact (by simpa using hv:zaC t=(zc0 t 0 t.length:Int)∧zaX t=true)
       clear hf hv hhd;clear hy hy0;go_wp2
       go_ret2
       exact ⟨by rw [HV.out.1,HV.out.2];rfl,rfl⟩
     ·
      have hdy:((x0.toNat:Int)==48)=false:=beq_eq_false_iff_ne.2 (fun e=>hy0 (UInt8.toNat_inj.1 (by have h48:(48:UInt8).toNat=48:=rfl;omega)));have hf:zf8 t:=ziE HB.out (by omega) (fun j hj h1=>HK.out j hj h1 (by omega)) (fun h=>hy0 (by have:=h.1;rw [hhd] at this;exact Option.some.inj this));have hv:=zgt hf HB.out;rw [HNG.out] at hv
      have HV:Hid (zaC t=(zc0 t 0 t.length:Int)∧zaX t=true):=by exact (by simpa using hv:zaC t=(zc0 t 0 t.length:Int)∧zaX t=true)
      clear hf hv hhd;clear hy hy0;go_wp2
      go_ret2
      exact ⟨by rw [HV.out.1,HV.out.2];rfl,rfl⟩

theorem back1p (t:Int) (h2:0≤t) (h3:t≤255) (W:World) :
 (convert 22 9 (.slice (some ⟨W.heap.size,0,none⟩) 1 1)).run Tryz.prog (W.alloc (.cells #[.int .u8 t] 5))=.ok (.string ⟨#[UInt8.ofNat t.toNat]⟩) (W.alloc (.cells #[.int .u8 t] 5)):=by
 have ht:((UInt8.ofNat t.toNat).toNat:Int)=t:=by rw [UInt8.toNat_ofNat'];omega
 have h:=run_convert_bytes_back (P:=Tryz.prog) (W.alloc (.cells #[.int .u8 t] 5)) 22 9 5 ⟨W.heap.size,0,none⟩ 1 [UInt8.ofNat t.toNat] Tryz.underlying22 Tryz.underlying5 Tryz.underlying9 (by
  intro j hj;have hj':j<1:=by simpa using hj
  match j,hj' with
  | 0,_=>simp only [List.getElem_cons_zero,ht];simp [Addr.add,go_sem])
 exact h
theorem ziR (k:Nat) (W:World) :
 (convert 22 9 (.slice (some ⟨W.heap.size,0,none⟩) 1 1)).run Tryz.prog (W.alloc (.cells #[.int .u8 (48+(k:Int) % 10)] 5))=.ok (.string ⟨[zc6 k].toArray⟩) (W.alloc (.cells #[.int .u8 (48+(k:Int) % 10)] 5)):=by
 have h:=back1p (48+(k:Int) % 10) (by omega) (by omega) W;have e:UInt8.ofNat (48+(k:Int) % 10).toNat=zc6 k:=by unfold zc6;congr 1
 rw [e] at h;exact h
end Go.Proofs.YtponeoijfaepnaaGreatDoor
