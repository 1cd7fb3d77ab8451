/-
  Parts of one proof, one behind the other: LaidE, LaidE8.
-/
import Derived.Test.YtponeoijfaepnaaGreatDoorP34
namespace Go.Proofs.YtponeoijfaepnaaGreatDoor
open Go.RowKit
set_option maxRecDepth 100000
def sentD (text : List UInt8) : DataW Unit := .iface "*errors.errorString" (.ptr (.agg [.lit (.string text)]))
noncomputable def zgS (n:String):Bool:=((Tryz.prog.globalNamed n).bind fun g=>(Tryz.prog.globals[g]?).map (·.type))==some 156
theorem zoZ : "*errors.errorString" = "*" ++ "errors.errorString" := by decide
theorem errRow (u : TypeId) (h : Tryz.prog.typeName? 3 u = some "*errors.errorString") : u = 258 :=
 typeName_ptr_named (nm := "errors.errorString") (by rw [← zoZ]; kernel_rfl) (by kernel_rfl) (by decide) u (by rw [← zoZ]; exact h)
theorem zlI {W:World}:∀ (l:List (String × List UInt8)) (ps:List MemPlace),(l.all fun x=>zgS x.1)=true→DataW.LaidVars Tryz.prog W (l.map fun x=>(x.1,sentD x.2)) ps→ps.Nodup →
 (∀ b off,MemPlace.cell b off∈ps→(∃ c t,W.heap[b]?=some (.cells c t (0,0)))∧∀ u v,W.cell? ⟨b,off,none⟩=some (.iface u v)→Value.okWide Tryz.prog W .any 0 u v) →
 ∃ al : List Addr, al.length = l.length ∧ al.Nodup ∧ (∀ a ∈ al, MemPlace.cell a.block a.off ∈ ps) ∧ ∀ i, i < l.length → W.var? Tryz.prog (l.getD i ("", [])).1 = some #[zb3 (al.getD i ⟨0, 0, none⟩)] ∧ zcT W (al.getD i ⟨0, 0, none⟩)
 | [],ps,_,_,_,_=>⟨[],rfl,List.nodup_nil,(fun a ha=>by cases ha),(fun i hi=>absurd hi (Nat.not_lt_zero _))⟩
 | x :: r,ps,hty,h,hnd,hrows=>by
  obtain ⟨g,t,cs,fuel,p,q,hg,ht,hv,hd,hr,e⟩:=h;rw [List.all_cons,Bool.and_eq_true] at hty;have h1:=hty.1;unfold zgS at h1;rw [hg,Option.bind_some,ht] at h1;obtain rfl:t=156:=by simpa using h1
  subst e;obtain ⟨l0⟩:=cs
  have ok:∀ u v,l0=[.iface u v]→Value.okWide Tryz.prog W .any 0 u v:=fun u v e=>by
   subst e;exact (hrows g 0 (by simp [MemPlace.row])).2 u v (by simpa using World.var?_cell hg hv 0)
  obtain ⟨a,s,rfl,hc,hs,hz,rfl⟩:=errorString_of_trod Tryz.underlying156 errRow Tryz.underlying258 Tryz.underlying277 rfl rfl Tryz.underlying9 (by kernel_rfl) (by kernel_rfl) hd ok;obtain ⟨al,hl,has,hin,hall⟩:=zlI r q hty.2 hr (List.Nodup.sublist (List.sublist_append_right _ _) hnd) (fun b off hm=>hrows b off (List.mem_append_right _ hm));have hca:MemPlace.cell a.block a.off∈MemPlace.row a 1:=by simp [MemPlace.row]
  refine ⟨a :: al,by simp [hl],List.nodup_cons.2 ⟨fun ha=>?_,has⟩,fun b hb=>?_,fun i hi=>?_⟩
  ·have h2:=hin a ha;rw [List.append_assoc] at hnd;have h3:=(List.nodup_append.1 hnd).2.1;exact (List.nodup_append.1 h3).2.2 _ hca _ h2 rfl
  ·
   rcases List.mem_cons.1 hb with rfl | hb
   ·exact List.mem_append_left _ (List.mem_append_right _ hca)
   ·exact List.mem_append_right _ (hin b hb)
  ·
   rcases i with _ | i
   ·exact ⟨hv,(hrows a.block a.off (List.mem_append_left _ (List.mem_append_right _ hca))).1⟩
   ·
    have:=hall i (by simpa using hi)
    simpa using this
theorem zlT {al:List Addr} (h:al.Nodup) {i j:Nat} (hi:i<al.length) (hj:j<al.length) (hne:i≠j):al.getD i ⟨0,0,none⟩≠al.getD j ⟨0,0,none⟩:=by
 intro e;have e1:al.getD i ⟨0,0,none⟩=al[i]:=by simp [List.getD,hi]
 have e2:al.getD j ⟨0,0,none⟩=al[j]:=by simp [List.getD,hj]
 rw [e1,e2] at e;exact hne ((List.getElem_inj h).1 e)
theorem err4_of {W : World} {t0 t1 t2 t3 : List UInt8} {l : List (String × List UInt8)} (h : laidMet Tryz.prog ((("loop.example/g00346/impl.errNotTold", t0) :: ("loop.example/g00346/impl.errFar", t1) :: ("loop.example/g00346/impl.errFunc", t2) :: ("loop.example/g00346/impl.errCount", t3) :: l).map fun x => (x.1, sentD x.2)) W)
 (hty:(l.all fun x=>zgS x.1)=true) :
 ∃ al : List Addr, al.length = l.length + 4 ∧ al.Nodup ∧ Err4 W (fun i => al.getD i ⟨0, 0, none⟩) ∧ ∀ i, i < l.length → W.var? Tryz.prog (l.getD i ("", [])).1 = some #[zb3 (al.getD (i + 4) ⟨0, 0, none⟩)] ∧ zcT W (al.getD (i + 4) ⟨0, 0, none⟩) := by
 obtain ⟨ps,hv,hnd,hrows⟩:=h;have ht4 : zgS "loop.example/g00346/impl.errNotTold" = true ∧ zgS "loop.example/g00346/impl.errFar" = true ∧ zgS "loop.example/g00346/impl.errFunc" = true ∧ zgS "loop.example/g00346/impl.errCount" = true := ⟨by kernel_rfl, by kernel_rfl, by kernel_rfl, by kernel_rfl⟩;obtain ⟨al,hl,has,_,hall⟩:=zlI _ ps (by simp only [List.all_cons,ht4,Bool.true_and,hty]) hv hnd hrows;have hl4:al.length=l.length+4:=by simpa using hl
 have c : ∀ i g n, i < 4 → (([("loop.example/g00346/impl.errNotTold", t0), ("loop.example/g00346/impl.errFar", t1), ("loop.example/g00346/impl.errFunc", t2), ("loop.example/g00346/impl.errCount", t3)] ++ l).getD i ("", [])).1 = n → Tryz.prog.globalNamed n = some g → W.cell? ⟨g, 0, none⟩ = some (zb3 (al.getD i ⟨0, 0, none⟩)) := fun i g n hi hn hg => by
  have h1:=(hall i (by simp;omega)).1;have h2 : (([("loop.example/g00346/impl.errNotTold", t0), ("loop.example/g00346/impl.errFar", t1), ("loop.example/g00346/impl.errFunc", t2), ("loop.example/g00346/impl.errCount", t3)] ++ l).getD i ("", [])).1 = n := hn;simp only [List.cons_append,List.nil_append] at h2;rw [h2] at h1
  simpa using World.var?_cell hg h1 0
 have at_:∀ i,i<4→zcT W (al.getD i ⟨0,0,none⟩):=fun i hi=>(hall i (by simp;omega)).2
 have ne:∀ i j,i<4→j<4→i≠j→al.getD i ⟨0,0,none⟩≠al.getD j ⟨0,0,none⟩:=fun i j hi hj hne=>zlT has (by omega) (by omega) hne
 refine ⟨al,hl4,has,⟨c 0 1 _ (by decide) rfl (by kernel_rfl),c 1 7 _ (by decide) rfl (by kernel_rfl),c 2 8 _ (by decide) rfl (by kernel_rfl),c 3 9 _ (by decide) rfl (by kernel_rfl),at_ 0 (by decide),at_ 1 (by decide),at_ 2 (by decide),at_ 3 (by decide),⟨ne 0 1 (by decide) (by decide) (by decide),ne 0 2 (by decide) (by decide) (by decide),ne 0 3 (by decide) (by decide) (by decide),ne 1 2 (by decide) (by decide) (by decide),ne 1 3 (by decide) (by decide) (by decide),ne 2 3 (by decide) (by decide) (by decide)⟩⟩,fun i hi=>?_⟩;have h1:=hall (i+4) (by simp;omega)
 simpa using h1
theorem etyAt : Tryz.prog.globalNamed "errors.errorType" = some 6 := by kernel_rfl
theorem etyRt : (Tryz.prog.cutTypes.find? (·.1 == "internal/reflectlite.rtype")).map (·.2) = some 210 := by kernel_rfl
theorem etyRow:((List.range 289).filter fun t=>Tryz.prog.rowNamed t [101,114,114,111,114])=[156]:=by kernel_rfl
theorem etySize:Tryz.prog.types.size=289:=by kernel_rfl
theorem zoQ {W : World} (h : handlesMet Tryz.prog [("errors.errorType", .iface "internal/reflectlite.rtype" (.agg [.ptr (.lit (.string [101, 114, 114, 111, 114]))]))] W) : W.cell? ⟨6, 0, none⟩ = some (.iface 210 (.agg #[.pointer (some ⟨13, 156, none⟩)])) := by
 obtain ⟨name,u,ty,e1,e2,e3,e4,e5⟩:=h _ (List.mem_singleton.2 rfl);have en:name=[101,114,114,111,114]:=(Option.some.inj e1).symm;subst en;obtain rfl:=Option.some.inj (etyRt.symm.trans e2);have hm:ty∈(List.range 289).filter fun t=>Tryz.prog.rowNamed t [101,114,114,111,114]:=List.mem_filter.2 ⟨List.mem_range.2 (by rw [←etySize];exact e3),e4⟩
 rw [etyRow] at hm;obtain rfl:=List.mem_singleton.1 hm;have hh:typeHandle Tryz.prog 156=.pointer (some ⟨13,156,none⟩):=by kernel_rfl
 rw [hh] at e5
 simpa using World.var?_cell etyAt e5 0
theorem err8_of {W : World} {t0 t1 t2 t3 t4 t5 t6 t7 : List UInt8} (h : laidMet Tryz.prog ([("loop.example/g00346/impl.errNotTold", t0), ("loop.example/g00346/impl.errFar", t1), ("loop.example/g00346/impl.errFunc", t2), ("loop.example/g00346/impl.errCount", t3), ("loop.example/g00346/impl.errImport", t4), ("loop.example/g00346/impl.errRing", t5), ("loop.example/g00346/impl.errArg", t6), ("loop.example/g00346/impl.errMain", t7)].map fun x => (x.1, sentD x.2)) W)
 (hg:W.cell? ⟨6,0,none⟩=some (.iface 210 (.agg #[.pointer (some ⟨13,156,none⟩)]))):∃ er,Err8 W er:=by
 have ht4 : zgS "loop.example/g00346/impl.errImport" = true ∧ zgS "loop.example/g00346/impl.errRing" = true ∧ zgS "loop.example/g00346/impl.errArg" = true ∧ zgS "loop.example/g00346/impl.errMain" = true := ⟨by kernel_rfl, by kernel_rfl, by kernel_rfl, by kernel_rfl⟩;obtain ⟨al, hl, hnd, hE, hr⟩ := err4_of (l := [("loop.example/g00346/impl.errImport", t4), ("loop.example/g00346/impl.errRing", t5), ("loop.example/g00346/impl.errArg", t6), ("loop.example/g00346/impl.errMain", t7)]) h (by simp only [List.all_cons, List.all_nil, ht4, Bool.and_true]);have hl8:al.length=8:=hl
 have c : ∀ i g n, i < 4 → ([("loop.example/g00346/impl.errImport", t4), ("loop.example/g00346/impl.errRing", t5), ("loop.example/g00346/impl.errArg", t6), ("loop.example/g00346/impl.errMain", t7)].getD i ("", [])).1 = n → Tryz.prog.globalNamed n = some g → W.cell? ⟨g, 0, none⟩ = some (zb3 (al.getD (i + 4) ⟨0, 0, none⟩)) := fun i g n hi hn hg => by
  have h1:=(hr i hi).1;rw [hn] at h1
  simpa using World.var?_cell hg h1 0
 refine ⟨_,hE,c 0 3 _ (by decide) rfl (by kernel_rfl),c 1 4 _ (by decide) rfl (by kernel_rfl),c 2 5 _ (by decide) rfl (by kernel_rfl),c 3 2 _ (by decide) rfl (by kernel_rfl),fun i hi=>?_,fun i j hi hj hne=>zlT hnd (by omega) (by omega) hne,hg⟩;rcases (show i=0∨i=1∨i=2∨i=3∨4≤i by omega) with rfl | rfl | rfl | rfl | h4
 ·exact hE.at0
 ·exact hE.at1
 ·exact hE.at2
 ·exact hE.at3
 ·
  obtain ⟨q,rfl⟩:∃ q,i=q+4:=⟨i-4,by omega⟩
  exact (hr q (by simp;omega)).2
end Go.Proofs.YtponeoijfaepnaaGreatDoor
