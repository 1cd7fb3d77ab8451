/-
  FnDesk returns true at every code and leaves it as it was: a desk stays right; what is lent is not done, and all it needs is; what came back once is done.
-/
import Derived.Test.YtponeoijfaepnaaGreatDoorRows
import Derived.Test.YtponeoijfaepnaaGreatDoorCards
import Derived.Test.YtponeoijfaepnaaGreatDoorTie
import Derived.Test.YtponeoijfaepnaaGreatDoorP1
import Derived.Test.YtponeoijfaepnaaGreatDoorP2
import Derived.Test.YtponeoijfaepnaaGreatDoorP3
import Derived.Test.YtponeoijfaepnaaGreatDoorP4
import Derived.Test.YtponeoijfaepnaaGreatDoorP5
import Derived.Test.YtponeoijfaepnaaGreatDoorP6
import Derived.Test.YtponeoijfaepnaaGreatDoorP7
import Derived.Test.YtponeoijfaepnaaGreatDoorP8
import Derived.Test.YtponeoijfaepnaaGreatDoorP9
import Derived.Test.YtponeoijfaepnaaGreatDoorP10
import Derived.Test.YtponeoijfaepnaaGreatDoorP11
import Derived.Test.YtponeoijfaepnaaGreatDoorP12
import Derived.Test.YtponeoijfaepnaaGreatDoorP13
import Derived.Test.YtponeoijfaepnaaGreatDoorP14
import Derived.Test.YtponeoijfaepnaaGreatDoorP15
import Derived.Test.YtponeoijfaepnaaGreatDoorP16
import Derived.Test.YtponeoijfaepnaaGreatDoorP17
import Derived.Test.YtponeoijfaepnaaGreatDoorP18
import Derived.Test.YtponeoijfaepnaaGreatDoorP19
import Derived.Test.YtponeoijfaepnaaGreatDoorP20
import Derived.Test.YtponeoijfaepnaaGreatDoorP21
import Derived.Test.YtponeoijfaepnaaGreatDoorP22
import Derived.Test.YtponeoijfaepnaaGreatDoorP23
import Derived.Test.YtponeoijfaepnaaGreatDoorP24
import Derived.Test.YtponeoijfaepnaaGreatDoorP25
import Derived.Test.YtponeoijfaepnaaGreatDoorP26
import Derived.Test.YtponeoijfaepnaaGreatDoorP27
import Derived.Test.YtponeoijfaepnaaGreatDoorP28
import Derived.Test.YtponeoijfaepnaaGreatDoorP29
import Derived.Test.YtponeoijfaepnaaGreatDoorP30
import Derived.Test.YtponeoijfaepnaaGreatDoorP31
import Derived.Test.YtponeoijfaepnaaGreatDoorP32
import Derived.Test.YtponeoijfaepnaaGreatDoorP33
import Derived.Test.YtponeoijfaepnaaGreatDoorP34
import Derived.Test.YtponeoijfaepnaaGreatDoorP35
import Derived.Test.YtponeoijfaepnaaGreatDoorP36
import Derived.Test.YtponeoijfaepnaaGreatDoorP37
import Derived.Test.YtponeoijfaepnaaGreatDoorP38
import Derived.Test.YtponeoijfaepnaaGreatDoorP39
import Derived.Test.YtponeoijfaepnaaGreatDoorP40
import Derived.Test.YtponeoijfaepnaaGreatDoorP41
import Derived.Test.YtponeoijfaepnaaGreatDoorP42
import Derived.Test.YtponeoijfaepnaaGreatDoorP43
import Derived.WalkKit
import Derived.ProofKit
import Derived.OpenShut
import Derived.ShutString
import Derived.ChangeOld
import Derived.Below
import Derived.LaidLaws
import Derived.LaidHandle
import Derived.Lay
import Derived.MakeChecks
import Derived.Lib.LaidTab
import Derived.Stop.Joined
import Derived.SevenTiedAt
import Derived.OpenVars
import Derived.LaidMore
import Derived.Stop.LaidErr
namespace Go.Proofs.YtponeoijfaepnaaGreatDoor.fnDesk
open Go.ChangeShapes Go.WideShapes Go.ChangeAt Go.RowKit
open Go.ChangeMaps (open_string shut_string)
set_option linter.unusedVariables false

def Came (w:World) (a:Option Addr) (len cap:Nat) (zs:List Int):Prop :=
 (a=none∧len=0∧cap=0∧zs=[]) ∨
 ∃ x,a=some x∧len≤cap∧cap≤maxLen∧zs.length=cap∧(∀ i,i<zs.length→w.cell? (x.add i)=some (.int .u8 (zs.getD i 0)))∧∀ n∈zs,(Lit.int .u8 n).wf=true

theorem own:ownKnob Tryz.prog.godebug=none:=by kernel_rfl
theorem zoz:laidOutB Tryz.prog=true:=by kernel_rfl

set_option maxHeartbeats 8000000 in
set_option maxRecDepth 1000000 in
theorem walk (a0:Option Addr) (len0 cap0:Nat) (z0:List Int) (w:World) (w0:Came w a0 len0 cap0 z0) (er:Nat→Addr) (hT:Err8 w er) (hP:zb0 w) :
 Calls Tryz.prog 3 #[.slice a0 len0 cap0] w fun e w'=>e=.returned (.bool true)∧Below w.heap.size w w':=by
 have hcode:Code w w.heap.size a0 len0:=by
  rcases w0 with ⟨rfl,rfl,rfl,rfl⟩ | ⟨x,rfl,hl,hm,hz,hcell,hwz⟩
  ·
   exact code_nil w
  ·
   exact code_of w x len0 z0 hcell (by omega) hwz
 exact lawDesk w a0 len0 cap0 hcode er hT hP

def errList : List (String × List UInt8) := [("loop.example/g00346/impl.errNotTold", [115, 111, 109, 101, 116, 104, 105, 110, 103, 32, 105, 115, 32, 110, 111, 116, 32, 97, 115, 32, 116, 111, 108, 100]), ("loop.example/g00346/impl.errFar", [116, 104, 101, 32, 112, 97, 99, 107, 97, 103, 101, 32, 99, 97, 108, 108, 101, 100, 32, 105, 115, 32, 110, 111, 116, 32, 119, 105, 116, 104, 105, 110, 32, 114, 101, 97, 99, 104]), ("loop.example/g00346/impl.errFunc", [116, 104, 101, 32, 102, 117, 110, 99, 32, 99, 97, 108, 108, 101, 100, 32, 105, 115, 32, 110, 111, 116, 32, 116, 104, 101, 114, 101]), ("loop.example/g00346/impl.errCount", [116, 104, 101, 32, 99, 97, 108, 108, 32, 104, 97, 115, 32, 97, 110, 111, 116, 104, 101, 114, 32, 110, 117, 109, 98, 101, 114, 32, 111, 102, 32, 112, 97, 114, 116, 115, 32, 116, 104, 97, 110, 32, 116, 104, 101, 32, 102, 117, 110, 99, 32, 104, 97, 115, 32, 97, 114, 103, 117, 109, 101, 110, 116, 115]), ("loop.example/g00346/impl.errImport", [97, 110, 32, 105, 109, 112, 111, 114, 116, 32, 105, 115, 32, 110, 111, 116, 32, 116, 104, 101, 114, 101]), ("loop.example/g00346/impl.errRing", [116, 104, 101, 32, 112, 97, 99, 107, 97, 103, 101, 32, 105, 115, 32, 111, 110, 32, 97, 32, 114, 105, 110, 103, 32, 111, 114, 32, 98, 101, 104, 105, 110, 100, 32, 111, 110, 101]), ("loop.example/g00346/impl.errArg", [116, 104, 101, 114, 101, 32, 105, 115, 32, 110, 111, 32, 115, 117, 99, 104, 32, 97, 114, 103, 117, 109, 101, 110, 116]), ("loop.example/g00346/impl.errMain", [116, 104, 101, 114, 101, 32, 105, 115, 32, 110, 111, 32, 109, 97, 105, 110, 32, 111, 102, 32, 111, 110, 101, 32, 97, 114, 103, 117, 109, 101, 110, 116])]
theorem zjW {W:World} (h:laidMetH Tryz.prog Rows.fnDeskRow.laid W):∃ er,Err8 W er:=by
 have e2 : (Rows.fnDeskRow.laid.filter fun x => x.2.handleName?.isSome) = [("errors.errorType", Rows.laid_errors_errorType)] := by kernel_rfl
 have e1 : (Rows.fnDeskRow.laid.filter fun x => x.2.handleName?.isNone) = [("math/bits.deBruijn32tab", Rows.laid_math_bits_deBruijn32tab), ("math/bits.deBruijn64tab", Rows.laid_math_bits_deBruijn64tab), ("internal/strconv.uint64pow10", Rows.laid_internal_strconv_uint64pow10), ("loop.example/g00346/impl.errNotTold", Rows.laid_loop_example_g00346_impl_errNotTold), ("loop.example/g00346/impl.errFar", Rows.laid_loop_example_g00346_impl_errFar), ("loop.example/g00346/impl.errFunc", Rows.laid_loop_example_g00346_impl_errFunc), ("loop.example/g00346/impl.errCount", Rows.laid_loop_example_g00346_impl_errCount), ("loop.example/g00346/impl.errImport", Rows.laid_loop_example_g00346_impl_errImport), ("loop.example/g00346/impl.errRing", Rows.laid_loop_example_g00346_impl_errRing), ("loop.example/g00346/impl.errArg", Rows.laid_loop_example_g00346_impl_errArg), ("loop.example/g00346/impl.errMain", Rows.laid_loop_example_g00346_impl_errMain)] := by kernel_rfl
 unfold laidMetH at h
 rw [e2] at h
 have h' : laidMet Tryz.prog (Rows.fnDeskRow.laid.filter fun x => x.2.handleName?.isNone) W ∧ handlesMet Tryz.prog [("errors.errorType", Rows.laid_errors_errorType)] W := h
 have h1:=h'.1
 rw [e1] at h1
 have h2:laidMet Tryz.prog (errList.map fun x=>(x.1,sentD x.2)) W:=h1.tail.tail.tail
 exact err8_of h2 (zoQ h'.2)

theorem zkz {W:World} (h:laidMetH Tryz.prog Rows.fnDeskRow.laid W):zb0 W:=by
 have e2 : (Rows.fnDeskRow.laid.filter fun x => x.2.handleName?.isSome) = [("errors.errorType", Rows.laid_errors_errorType)] := by kernel_rfl
 have e1 : (Rows.fnDeskRow.laid.filter fun x => x.2.handleName?.isNone) = [("math/bits.deBruijn32tab", Rows.laid_math_bits_deBruijn32tab), ("math/bits.deBruijn64tab", Rows.laid_math_bits_deBruijn64tab), ("internal/strconv.uint64pow10", Rows.laid_internal_strconv_uint64pow10), ("loop.example/g00346/impl.errNotTold", Rows.laid_loop_example_g00346_impl_errNotTold), ("loop.example/g00346/impl.errFar", Rows.laid_loop_example_g00346_impl_errFar), ("loop.example/g00346/impl.errFunc", Rows.laid_loop_example_g00346_impl_errFunc), ("loop.example/g00346/impl.errCount", Rows.laid_loop_example_g00346_impl_errCount), ("loop.example/g00346/impl.errImport", Rows.laid_loop_example_g00346_impl_errImport), ("loop.example/g00346/impl.errRing", Rows.laid_loop_example_g00346_impl_errRing), ("loop.example/g00346/impl.errArg", Rows.laid_loop_example_g00346_impl_errArg), ("loop.example/g00346/impl.errMain", Rows.laid_loop_example_g00346_impl_errMain)] := by kernel_rfl
 unfold laidMetH at h
 rw [e2] at h
 have h' : laidMet Tryz.prog (Rows.fnDeskRow.laid.filter fun x => x.2.handleName?.isNone) W ∧ handlesMet Tryz.prog [("errors.errorType", Rows.laid_errors_errorType)] W := h
 have h1:=h'.1
 rw [e1] at h1
 obtain ⟨ps,⟨g0,t0,cs0,f0,p0,q0,hg0,ht0,hv0,hd0,⟨g1,t1,cs1,f1,p1,q1,hg1,ht1,hv1,hd1,⟨g2,t2,cs2,f2,p2,q2,hg2,ht2,hv2,hd2,_,_⟩,_⟩,_⟩,_,_⟩:=h1
 obtain ⟨g,hg⟩:=Option.isSome_iff_exists.1 powAt
 obtain rfl:=Option.some.inj (hg.symm.trans hg2)
 exact zji hg ht2 hv2 hd2

theorem door_met (os:Os) (args:Array Value):laidMetH Tryz.prog Rows.fnDeskRow.laid ((World.doorLaid Tryz.prog 183 os).forCall (fun _ _=>0) ⟨#[],args,[]⟩).memory :=
 laidMetH_of_parts3 (fuel:=8) (laidMet_of_run' 8 (by kernel_rfl) (by kernel_rfl)) (by kernel_rfl) (by kernel_rfl)
theorem zlw {H:Type} {enc:TypeId × Value→H} {P:Program} {w:World} {sp:Nat→Bool}:∀ {ns:List String} {gs:List (DataW H)} {ps:List MemPlace},DataW.TrodVars enc P w sp ns gs ps→gs.length=ns.length
 | [],[],_,_=>rfl
 | [],_ :: _,_,h=>h.elim
 | _ :: _,[],_,h=>h.elim
 | _ :: ns,_ :: gs,_,h=>by
  obtain ⟨g,t,cs,fuel,p,q,_,_,_,_,hr,_⟩:=h
  simp [zlw hr]

set_option maxRecDepth 100000 in
theorem lifted (os:Os) (started:os.Started) (H:Type) (enc:TypeId × Value→H) :
 ReturnsInHanded {} Tryz.checked os 3 .any (fun w args=>(Rows.fnDeskSpec.pre enc Tryz.prog Tryz.f3 [] false w args∧laidMetH Tryz.prog Rows.fnDeskRow.laid w)∧sizedMet enc Tryz.prog Tryz.f3 (OpenSpec.ofChange Rows.fnDeskSpec) false w args)
  (Rows.fnDeskSpec.post enc Tryz.prog Tryz.f3 false true false false):=by
 refine returnsInHanded_of_change_and (C:=Tryz.checked) (X:=fun w _=>laidMetH Tryz.prog Rows.fnDeskRow.laid w) (fun _ _ _ hh h=>h.of_heap hh) own started (by kernel_rfl) Tryz.func3
  (ChangeSpec.witness_shaped (enc:=enc) (C:=Tryz.checked) (os:=os) (X:=fun w _=>laidMetH Tryz.prog Rows.fnDeskRow.laid w) false (World.doorLaid Tryz.prog 183 os) #[.slice none 0 0] 8 rfl
   (World.shaped_of_RefB (by kernel_rfl) (by kernel_rfl)) (by kernel_rfl) (by kernel_rfl) (by kernel_rfl) (door_met os _)) ?_
 intro W base args ds gs before hval0 hW _ _ hL _
 have hval:∀ (j:Nat) t v,Tryz.f3.params[j]?=some t→args[j]?=some v→Value.okWide Tryz.prog W .any base t v:=hval0
 have hW':=hW
 obtain ⟨p,q,hA0,hV,rfl,hfz,hnd⟩:=hW
 have hA:DataW.TrodAll enc Tryz.prog W 0 (fun _=>true) true Tryz.f3.params.toList args.toList ds p:=hA0
 rw [Tryz.params3] at hA hval
 obtain ⟨v0,vs0,d0,ds0,p0,q0,hargs,rfl,rfl,h0,r0⟩:=trodAll_cons hA
 obtain ⟨rfl,rfl,rfl⟩:=trodAll_nil r0
 obtain rfl:args=#[v0]:=by cases args;simp_all
 have hlen:=zlw hV
 obtain ⟨u0,u1,u2,u3,u4,u5,u6,u7,rfl⟩:∃ u0 u1 u2 u3 u4 u5 u6 u7,gs=[u0,u1,u2,u3,u4,u5,u6,u7]:=by
  match gs,hlen with
  | [u0,u1,u2,u3,u4,u5,u6,u7],_=>exact ⟨u0,u1,u2,u3,u4,u5,u6,u7,rfl⟩
 have k0:=h0
 have lt0:∀ x∈p0,x.block<W.heap.size:=by obtain ⟨m,hm⟩:=k0;exact DataW.trod_lt m _ _ _ hm
 obtain ⟨a0,len0,cap0,rfl⟩:=okWide_slice Tryz.underlying22 (hval 0 22 v0 rfl rfl)
 obtain ⟨z0,w0⟩:∃ zs,Came W a0 len0 cap0 zs:=by
  obtain ⟨fuel,hf⟩:=h0
  rcases open_ints Tryz.underlying22 Tryz.underlying5 (by kernel_rfl) hf with ⟨hcs,_⟩ | ⟨x,l,c,zs,hcs,_,hl,hm,hz,_,hcell,hwz⟩
  ·
   simp [Value.cells] at hcs
   obtain ⟨rfl,rfl,rfl⟩:=hcs
   exact ⟨[],.inl ⟨rfl,rfl,rfl,rfl⟩⟩
  ·
   simp [Value.cells] at hcs
   obtain ⟨rfl,rfl,rfl⟩:=hcs
   exact ⟨zs,.inr ⟨_,rfl,hl,hm,by simpa using hz,hcell,hwz⟩⟩
 clear hA0 hval0
 obtain ⟨er,hE⟩:=zjW hL
 refine (walk a0 len0 cap0 z0 W w0 er hE (zkz hL)).mono fun e W' ⟨he,bel⟩=>?_
 subst he
 exact ⟨_,rfl,_,_,_,[],_,_,hW',trodAll_mk1 (shut_bool Tryz.underlying4 _),(trodAll_cons_mk (Below.trod zoz (by kernel_rfl) (of_decide_eq_true (by kernel_rfl)) k0 bel lt0) trodAll_mk0),Below.trodVars zoz bel (by kernel_rfl) hV,bel.frame _,fun h=>by cases h⟩

theorem over:Rows.fnDeskRow.holds Tryz.pinned (OpenSpec.ofChange Rows.fnDeskSpec) :=
 OpenClaim.holds_of_wide 3 Tryz.f3 rfl rfl rfl rfl rfl rfl rfl ⟨rfl,rfl,rfl,rfl,rfl⟩ rfl rfl rfl rfl rfl (by kernel_rfl) Tryz.func3 (by kernel_rfl)
  (of_decide_eq_true (by kernel_rfl)) (by unfold Func.isWrapper;first | (rw [if_pos (by decide +kernel)];kernel_rfl) | (rw [if_neg (by decide +kernel)];exact ⟨rfl,rfl⟩))
  (fun os started H enc _=>lifted os started H enc)

theorem proved:Rows.FnDeskCardSaid :=
 Claim7.holds_tied_plain_at .later [] [.data, .data, .data, .handle, .sentinel, .sentinel, .sentinel, .sentinel, .sentinel, .sentinel, .sentinel, .sentinel] true (true, "78403c2730953c15157efb402813fa05ec9ea0643eccf05f1dc9760a13f6ec8b") true
  over (fun _ h=>by cases h) (by kernel_rfl) (fun _ h=>by cases h) fnDesk_row_tie rfl ⟨rfl,rfl⟩ (by kernel_rfl) rfl
  (fun f fn hf hfn=>by
   obtain rfl:f=3:=Option.some.inj ((show Tryz.prog.funcNamed Rows.fnDeskRow.func=some 3 by kernel_rfl).symm.trans hf) |>.symm
   obtain rfl:fn=Tryz.f3:=(Option.some.inj (Tryz.func3.symm.trans hfn)).symm
   exact ⟨by kernel_rfl,fun j t ht=>by
    rw [Tryz.params3] at ht
    have hm:t∈[22]:=by simpa using Array.mem_of_getElem? ht
    have hall:([22].all fun u=>!Tryz.prog.wantsStandIn u)=true:=by kernel_rfl
    exact (show Tryz.prog.wantsStandIn t=false by simpa using List.all_eq_true.1 hall t hm)⟩)
  (by kernel_rfl)
#print axioms proved
end Go.Proofs.YtponeoijfaepnaaGreatDoor.fnDesk
