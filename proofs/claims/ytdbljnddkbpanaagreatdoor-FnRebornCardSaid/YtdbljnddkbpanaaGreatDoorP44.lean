/-
  Parts of one proof, one behind the other: FltM, FltN.
-/
import Derived.Test.YtdbljnddkbpanaaGreatDoorP43
import Derived.Laws.CopyOwn
namespace Go.Proofs.YtdbljnddkbpanaaGreatDoor
open Go.RowKit
set_option maxHeartbeats 4000000 in
set_option maxRecDepth 100000 in
theorem zkJ (p g:List UInt8) (er:Nat→Addr) (w:World) (hE:Err8 w er) :
 Calls Tryz.prog 129 #[.iface 131 (.agg #[.string ⟨p.toArray⟩,.string ⟨g.toArray⟩,.iface 248 (.pointer (some (er 1)))])] w fun e w'=>e=.returned (.int .i64 1)∧Below w.heap.size w w':=by
 have HE:Hid (Err8 w er):=hE
 have HB:Hid (Below w.heap.size w w):=Below.refl _ _
 clear hE
 go_enter Tryz.func129,Tryz.ntmps129
 have g1:=HE.out.four.far
 unfold zb2 at g1
 go_wp2_with fail
 refine Calls.mono (zbC p g (er 1) _) ?_
 rintro e w1 ⟨rfl,hb1⟩
 replace HB:Hid (Below w.heap.size w w1):=HB.out.trans (hb1.mono HB.out.size)
 replace HE:Hid (Err8 w1 er):=HE.out.below hb1
 clear hb1 g1
 go_wp2
 go_ret
 exact ⟨rfl,HB.out⟩
set_option maxHeartbeats 4000000 in
set_option maxRecDepth 100000 in
theorem zkI (p g:List UInt8) (er:Nat→Addr) (w:World) (hE:Err8 w er) :
 Calls Tryz.prog 129 #[.iface 131 (.agg #[.string ⟨p.toArray⟩,.string ⟨g.toArray⟩,.iface 248 (.pointer (some (er 2)))])] w fun e w'=>e=.returned (.int .i64 2)∧Below w.heap.size w w':=by
 have HE:Hid (Err8 w er):=hE
 have HB:Hid (Below w.heap.size w w):=Below.refl _ _
 clear hE
 go_enter Tryz.func129,Tryz.ntmps129
 have g1:=HE.out.four.far
 unfold zb2 at g1
 go_wp2_with fail
 refine Calls.mono (zaf p g (er 2) (er 1) _ (HE.out.ne 2 1 (by decide) (by decide) (by decide)) (HE.out.at_ 2 (by decide)) (HE.out.at_ 1 (by decide))) ?_
 rintro e w1 ⟨rfl,hb1⟩
 replace HB:Hid (Below w.heap.size w w1):=HB.out.trans (hb1.mono HB.out.size)
 replace HE:Hid (Err8 w1 er):=HE.out.below hb1
 clear hb1 g1
 have g2:=HE.out.four.func
 unfold zb2 at g2
 go_wp2_with fail
 refine Calls.mono (zbC p g (er 2) _) ?_
 rintro e w2 ⟨rfl,hb2⟩
 replace HB:Hid (Below w.heap.size w w2):=HB.out.trans (hb2.mono HB.out.size)
 replace HE:Hid (Err8 w2 er):=HE.out.below hb2
 clear hb2 g2
 go_wp2
 go_ret
 exact ⟨rfl,HB.out⟩
set_option maxHeartbeats 4000000 in
set_option maxRecDepth 100000 in
theorem zkH (p g:List UInt8) (er:Nat→Addr) (w:World) (hE:Err8 w er) :
 Calls Tryz.prog 129 #[.iface 131 (.agg #[.string ⟨p.toArray⟩,.string ⟨g.toArray⟩,.iface 248 (.pointer (some (er 3)))])] w fun e w'=>e=.returned (.int .i64 3)∧Below w.heap.size w w':=by
 have HE:Hid (Err8 w er):=hE
 have HB:Hid (Below w.heap.size w w):=Below.refl _ _
 clear hE
 go_enter Tryz.func129,Tryz.ntmps129
 have g1:=HE.out.four.far
 unfold zb2 at g1
 go_wp2_with fail
 refine Calls.mono (zaf p g (er 3) (er 1) _ (HE.out.ne 3 1 (by decide) (by decide) (by decide)) (HE.out.at_ 3 (by decide)) (HE.out.at_ 1 (by decide))) ?_
 rintro e w1 ⟨rfl,hb1⟩
 replace HB:Hid (Below w.heap.size w w1):=HB.out.trans (hb1.mono HB.out.size)
 replace HE:Hid (Err8 w1 er):=HE.out.below hb1
 clear hb1 g1
 have g2:=HE.out.four.func
 unfold zb2 at g2
 go_wp2_with fail
 refine Calls.mono (zaf p g (er 3) (er 2) _ (HE.out.ne 3 2 (by decide) (by decide) (by decide)) (HE.out.at_ 3 (by decide)) (HE.out.at_ 2 (by decide))) ?_
 rintro e w2 ⟨rfl,hb2⟩
 replace HB:Hid (Below w.heap.size w w2):=HB.out.trans (hb2.mono HB.out.size)
 replace HE:Hid (Err8 w2 er):=HE.out.below hb2
 clear hb2 g2
 have g3:=HE.out.four.count
 unfold zb2 at g3
 go_wp2_with fail
 refine Calls.mono (zbC p g (er 3) _) ?_
 rintro e w3 ⟨rfl,hb3⟩
 replace HB:Hid (Below w.heap.size w w3):=HB.out.trans (hb3.mono HB.out.size)
 replace HE:Hid (Err8 w3 er):=HE.out.below hb3
 clear hb3 g3
 go_wp2
 go_ret
 exact ⟨rfl,HB.out⟩
set_option maxHeartbeats 4000000 in
set_option maxRecDepth 100000 in
theorem zjk (p g:List UInt8) (er:Nat→Addr) (w:World) (hE:Err8 w er) :
 Calls Tryz.prog 101 #[.iface 131 (.agg #[.string ⟨p.toArray⟩,.string ⟨g.toArray⟩,.iface 248 (.pointer (some (er 4)))])] w fun e w'=>e=.returned (.int .i64 1)∧Below w.heap.size w w':=by
 have HE:Hid (Err8 w er):=hE
 have HB:Hid (Below w.heap.size w w):=Below.refl _ _
 clear hE
 go_enter Tryz.func101,Tryz.ntmps101
 have g1:=HE.out.imp
 unfold zb2 at g1
 go_wp2_with fail
 refine Calls.mono (zbC p g (er 4) _) ?_
 rintro e w1 ⟨rfl,hb1⟩
 replace HB:Hid (Below w.heap.size w w1):=HB.out.trans (hb1.mono HB.out.size)
 replace HE:Hid (Err8 w1 er):=HE.out.below hb1
 clear hb1 g1
 go_wp2
 go_ret
 exact ⟨rfl,HB.out⟩
set_option maxHeartbeats 4000000 in
set_option maxRecDepth 100000 in
theorem zjj (p g:List UInt8) (er:Nat→Addr) (w:World) (hE:Err8 w er) :
 Calls Tryz.prog 101 #[.iface 131 (.agg #[.string ⟨p.toArray⟩,.string ⟨g.toArray⟩,.iface 248 (.pointer (some (er 5)))])] w fun e w'=>e=.returned (.int .i64 2)∧Below w.heap.size w w':=by
 have HE:Hid (Err8 w er):=hE
 have HB:Hid (Below w.heap.size w w):=Below.refl _ _
 clear hE
 go_enter Tryz.func101,Tryz.ntmps101
 have g1:=HE.out.imp
 unfold zb2 at g1
 go_wp2_with fail
 refine Calls.mono (zaf p g (er 5) (er 4) _ (HE.out.ne 5 4 (by decide) (by decide) (by decide)) (HE.out.at_ 5 (by decide)) (HE.out.at_ 4 (by decide))) ?_
 rintro e w1 ⟨rfl,hb1⟩
 replace HB:Hid (Below w.heap.size w w1):=HB.out.trans (hb1.mono HB.out.size)
 replace HE:Hid (Err8 w1 er):=HE.out.below hb1
 clear hb1 g1
 have g2:=HE.out.ring
 unfold zb2 at g2
 go_wp2_with fail
 refine Calls.mono (zbC p g (er 5) _) ?_
 rintro e w2 ⟨rfl,hb2⟩
 replace HB:Hid (Below w.heap.size w w2):=HB.out.trans (hb2.mono HB.out.size)
 replace HE:Hid (Err8 w2 er):=HE.out.below hb2
 clear hb2 g2
 go_wp2
 go_ret
 exact ⟨rfl,HB.out⟩
set_option maxHeartbeats 4000000 in
set_option maxRecDepth 100000 in
theorem zji (p g:List UInt8) (er:Nat→Addr) (w:World) (hE:Err8 w er) :
 Calls Tryz.prog 101 #[.iface 131 (.agg #[.string ⟨p.toArray⟩,.string ⟨g.toArray⟩,.iface 248 (.pointer (some (er 6)))])] w fun e w'=>e=.returned (.int .i64 3)∧Below w.heap.size w w':=by
 have HE:Hid (Err8 w er):=hE
 have HB:Hid (Below w.heap.size w w):=Below.refl _ _
 clear hE
 go_enter Tryz.func101,Tryz.ntmps101
 have g1:=HE.out.imp
 unfold zb2 at g1
 go_wp2_with fail
 refine Calls.mono (zaf p g (er 6) (er 4) _ (HE.out.ne 6 4 (by decide) (by decide) (by decide)) (HE.out.at_ 6 (by decide)) (HE.out.at_ 4 (by decide))) ?_
 rintro e w1 ⟨rfl,hb1⟩
 replace HB:Hid (Below w.heap.size w w1):=HB.out.trans (hb1.mono HB.out.size)
 replace HE:Hid (Err8 w1 er):=HE.out.below hb1
 clear hb1 g1
 have g2:=HE.out.ring
 unfold zb2 at g2
 go_wp2_with fail
 refine Calls.mono (zaf p g (er 6) (er 5) _ (HE.out.ne 6 5 (by decide) (by decide) (by decide)) (HE.out.at_ 6 (by decide)) (HE.out.at_ 5 (by decide))) ?_
 rintro e w2 ⟨rfl,hb2⟩
 replace HB:Hid (Below w.heap.size w w2):=HB.out.trans (hb2.mono HB.out.size)
 replace HE:Hid (Err8 w2 er):=HE.out.below hb2
 clear hb2 g2
 have g3:=HE.out.arg
 unfold zb2 at g3
 go_wp2_with fail
 refine Calls.mono (zbC p g (er 6) _) ?_
 rintro e w3 ⟨rfl,hb3⟩
 replace HB:Hid (Below w.heap.size w w3):=HB.out.trans (hb3.mono HB.out.size)
 replace HE:Hid (Err8 w3 er):=HE.out.below hb3
 clear hb3 g3
 go_wp2
 go_ret
 exact ⟨rfl,HB.out⟩
set_option maxHeartbeats 4000000 in
set_option maxRecDepth 100000 in
theorem zjh (p g:List UInt8) (er:Nat→Addr) (w:World) (hE:Err8 w er) :
 Calls Tryz.prog 101 #[.iface 131 (.agg #[.string ⟨p.toArray⟩,.string ⟨g.toArray⟩,.iface 248 (.pointer (some (er 7)))])] w fun e w'=>e=.returned (.int .i64 5)∧Below w.heap.size w w':=by
 have HE:Hid (Err8 w er):=hE
 have HB:Hid (Below w.heap.size w w):=Below.refl _ _
 clear hE
 go_enter Tryz.func101,Tryz.ntmps101
 have g1:=HE.out.imp
 unfold zb2 at g1
 go_wp2_with fail
 refine Calls.mono (zaf p g (er 7) (er 4) _ (HE.out.ne 7 4 (by decide) (by decide) (by decide)) (HE.out.at_ 7 (by decide)) (HE.out.at_ 4 (by decide))) ?_
 rintro e w1 ⟨rfl,hb1⟩
 replace HB:Hid (Below w.heap.size w w1):=HB.out.trans (hb1.mono HB.out.size)
 replace HE:Hid (Err8 w1 er):=HE.out.below hb1
 clear hb1 g1
 have g2:=HE.out.ring
 unfold zb2 at g2
 go_wp2_with fail
 refine Calls.mono (zaf p g (er 7) (er 5) _ (HE.out.ne 7 5 (by decide) (by decide) (by decide)) (HE.out.at_ 7 (by decide)) (HE.out.at_ 5 (by decide))) ?_
 rintro e w2 ⟨rfl,hb2⟩
 replace HB:Hid (Below w.heap.size w w2):=HB.out.trans (hb2.mono HB.out.size)
 replace HE:Hid (Err8 w2 er):=HE.out.below hb2
 clear hb2 g2
 have g3:=HE.out.arg
 unfold zb2 at g3
 go_wp2_with fail
 refine Calls.mono (zaf p g (er 7) (er 6) _ (HE.out.ne 7 6 (by decide) (by decide) (by decide)) (HE.out.at_ 7 (by decide)) (HE.out.at_ 6 (by decide))) ?_
 rintro e w3 ⟨rfl,hb3⟩
 replace HB:Hid (Below w.heap.size w w3):=HB.out.trans (hb3.mono HB.out.size)
 replace HE:Hid (Err8 w3 er):=HE.out.below hb3
 clear hb3 g3
 have g4:=HE.out.main
 unfold zb2 at g4
 go_wp2_with fail
 refine Calls.mono (zbC p g (er 7) _) ?_
 rintro e w4 ⟨rfl,hb4⟩
 replace HB:Hid (Below w.heap.size w w4):=HB.out.trans (hb4.mono HB.out.size)
 replace HE:Hid (Err8 w4 er):=HE.out.below hb4
 clear hb4 g4
 go_wp2
 go_ret
 exact ⟨rfl,HB.out⟩
set_option maxHeartbeats 4000000 in
set_option maxRecDepth 100000 in
theorem zjn (p g:List UInt8) (er:Nat→Addr) (w:World) (hE:Err8 w er) :
 Calls Tryz.prog 101 #[.iface 131 (.agg #[.string ⟨p.toArray⟩,.string ⟨g.toArray⟩,.iface 248 (.pointer (some (er 1)))])] w fun e w'=>e=.returned (.int .i64 4)∧Below w.heap.size w w':=by
 have HE:Hid (Err8 w er):=hE
 have HB:Hid (Below w.heap.size w w):=Below.refl _ _
 clear hE
 go_enter Tryz.func101,Tryz.ntmps101
 have g1:=HE.out.imp
 unfold zb2 at g1
 go_wp2_with fail
 refine Calls.mono (zaf p g (er 1) (er 4) _ (HE.out.ne 1 4 (by decide) (by decide) (by decide)) (HE.out.at_ 1 (by decide)) (HE.out.at_ 4 (by decide))) ?_
 rintro e w1 ⟨rfl,hb1⟩
 replace HB:Hid (Below w.heap.size w w1):=HB.out.trans (hb1.mono HB.out.size)
 replace HE:Hid (Err8 w1 er):=HE.out.below hb1
 clear hb1 g1
 have g2:=HE.out.ring
 unfold zb2 at g2
 go_wp2_with fail
 refine Calls.mono (zaf p g (er 1) (er 5) _ (HE.out.ne 1 5 (by decide) (by decide) (by decide)) (HE.out.at_ 1 (by decide)) (HE.out.at_ 5 (by decide))) ?_
 rintro e w2 ⟨rfl,hb2⟩
 replace HB:Hid (Below w.heap.size w w2):=HB.out.trans (hb2.mono HB.out.size)
 replace HE:Hid (Err8 w2 er):=HE.out.below hb2
 clear hb2 g2
 have g3:=HE.out.arg
 unfold zb2 at g3
 go_wp2_with fail
 refine Calls.mono (zaf p g (er 1) (er 6) _ (HE.out.ne 1 6 (by decide) (by decide) (by decide)) (HE.out.at_ 1 (by decide)) (HE.out.at_ 6 (by decide))) ?_
 rintro e w3 ⟨rfl,hb3⟩
 replace HB:Hid (Below w.heap.size w w3):=HB.out.trans (hb3.mono HB.out.size)
 replace HE:Hid (Err8 w3 er):=HE.out.below hb3
 clear hb3 g3
 have g4:=HE.out.main
 unfold zb2 at g4
 go_wp2_with fail
 refine Calls.mono (zaf p g (er 1) (er 7) _ (HE.out.ne 1 7 (by decide) (by decide) (by decide)) (HE.out.at_ 1 (by decide)) (HE.out.at_ 7 (by decide))) ?_
 rintro e w4 ⟨rfl,hb4⟩
 replace HB:Hid (Below w.heap.size w w4):=HB.out.trans (hb4.mono HB.out.size)
 replace HE:Hid (Err8 w4 er):=HE.out.below hb4
 clear hb4 g4
 go_wp2_with fail
 refine Calls.mono (zkJ p g er _ HE.out) ?_
 rintro e w5 ⟨rfl,hb5⟩
 replace HB:Hid (Below w.heap.size w w5):=HB.out.trans (hb5.mono HB.out.size)
 clear hb5
 go_wp2
 go_ret
 exact ⟨rfl,HB.out⟩
set_option maxHeartbeats 4000000 in
set_option maxRecDepth 100000 in
theorem zjm (p g:List UInt8) (er:Nat→Addr) (w:World) (hE:Err8 w er) :
 Calls Tryz.prog 101 #[.iface 131 (.agg #[.string ⟨p.toArray⟩,.string ⟨g.toArray⟩,.iface 248 (.pointer (some (er 2)))])] w fun e w'=>e=.returned (.int .i64 4)∧Below w.heap.size w w':=by
 have HE:Hid (Err8 w er):=hE
 have HB:Hid (Below w.heap.size w w):=Below.refl _ _
 clear hE
 go_enter Tryz.func101,Tryz.ntmps101
 have g1:=HE.out.imp
 unfold zb2 at g1
 go_wp2_with fail
 refine Calls.mono (zaf p g (er 2) (er 4) _ (HE.out.ne 2 4 (by decide) (by decide) (by decide)) (HE.out.at_ 2 (by decide)) (HE.out.at_ 4 (by decide))) ?_
 rintro e w1 ⟨rfl,hb1⟩
 replace HB:Hid (Below w.heap.size w w1):=HB.out.trans (hb1.mono HB.out.size)
 replace HE:Hid (Err8 w1 er):=HE.out.below hb1
 clear hb1 g1
 have g2:=HE.out.ring
 unfold zb2 at g2
 go_wp2_with fail
 refine Calls.mono (zaf p g (er 2) (er 5) _ (HE.out.ne 2 5 (by decide) (by decide) (by decide)) (HE.out.at_ 2 (by decide)) (HE.out.at_ 5 (by decide))) ?_
 rintro e w2 ⟨rfl,hb2⟩
 replace HB:Hid (Below w.heap.size w w2):=HB.out.trans (hb2.mono HB.out.size)
 replace HE:Hid (Err8 w2 er):=HE.out.below hb2
 clear hb2 g2
 have g3:=HE.out.arg
 unfold zb2 at g3
 go_wp2_with fail
 refine Calls.mono (zaf p g (er 2) (er 6) _ (HE.out.ne 2 6 (by decide) (by decide) (by decide)) (HE.out.at_ 2 (by decide)) (HE.out.at_ 6 (by decide))) ?_
 rintro e w3 ⟨rfl,hb3⟩
 replace HB:Hid (Below w.heap.size w w3):=HB.out.trans (hb3.mono HB.out.size)
 replace HE:Hid (Err8 w3 er):=HE.out.below hb3
 clear hb3 g3
 have g4:=HE.out.main
 unfold zb2 at g4
 go_wp2_with fail
 refine Calls.mono (zaf p g (er 2) (er 7) _ (HE.out.ne 2 7 (by decide) (by decide) (by decide)) (HE.out.at_ 2 (by decide)) (HE.out.at_ 7 (by decide))) ?_
 rintro e w4 ⟨rfl,hb4⟩
 replace HB:Hid (Below w.heap.size w w4):=HB.out.trans (hb4.mono HB.out.size)
 replace HE:Hid (Err8 w4 er):=HE.out.below hb4
 clear hb4 g4
 go_wp2_with fail
 refine Calls.mono (zkI p g er _ HE.out) ?_
 rintro e w5 ⟨rfl,hb5⟩
 replace HB:Hid (Below w.heap.size w w5):=HB.out.trans (hb5.mono HB.out.size)
 clear hb5
 go_wp2
 go_ret
 exact ⟨rfl,HB.out⟩
set_option maxHeartbeats 4000000 in
set_option maxRecDepth 100000 in
theorem zjl (p g:List UInt8) (er:Nat→Addr) (w:World) (hE:Err8 w er) :
 Calls Tryz.prog 101 #[.iface 131 (.agg #[.string ⟨p.toArray⟩,.string ⟨g.toArray⟩,.iface 248 (.pointer (some (er 3)))])] w fun e w'=>e=.returned (.int .i64 4)∧Below w.heap.size w w':=by
 have HE:Hid (Err8 w er):=hE
 have HB:Hid (Below w.heap.size w w):=Below.refl _ _
 clear hE
 go_enter Tryz.func101,Tryz.ntmps101
 have g1:=HE.out.imp
 unfold zb2 at g1
 go_wp2_with fail
 refine Calls.mono (zaf p g (er 3) (er 4) _ (HE.out.ne 3 4 (by decide) (by decide) (by decide)) (HE.out.at_ 3 (by decide)) (HE.out.at_ 4 (by decide))) ?_
 rintro e w1 ⟨rfl,hb1⟩
 replace HB:Hid (Below w.heap.size w w1):=HB.out.trans (hb1.mono HB.out.size)
 replace HE:Hid (Err8 w1 er):=HE.out.below hb1
 clear hb1 g1
 have g2:=HE.out.ring
 unfold zb2 at g2
 go_wp2_with fail
 refine Calls.mono (zaf p g (er 3) (er 5) _ (HE.out.ne 3 5 (by decide) (by decide) (by decide)) (HE.out.at_ 3 (by decide)) (HE.out.at_ 5 (by decide))) ?_
 rintro e w2 ⟨rfl,hb2⟩
 replace HB:Hid (Below w.heap.size w w2):=HB.out.trans (hb2.mono HB.out.size)
 replace HE:Hid (Err8 w2 er):=HE.out.below hb2
 clear hb2 g2
 have g3:=HE.out.arg
 unfold zb2 at g3
 go_wp2_with fail
 refine Calls.mono (zaf p g (er 3) (er 6) _ (HE.out.ne 3 6 (by decide) (by decide) (by decide)) (HE.out.at_ 3 (by decide)) (HE.out.at_ 6 (by decide))) ?_
 rintro e w3 ⟨rfl,hb3⟩
 replace HB:Hid (Below w.heap.size w w3):=HB.out.trans (hb3.mono HB.out.size)
 replace HE:Hid (Err8 w3 er):=HE.out.below hb3
 clear hb3 g3
 have g4:=HE.out.main
 unfold zb2 at g4
 go_wp2_with fail
 refine Calls.mono (zaf p g (er 3) (er 7) _ (HE.out.ne 3 7 (by decide) (by decide) (by decide)) (HE.out.at_ 3 (by decide)) (HE.out.at_ 7 (by decide))) ?_
 rintro e w4 ⟨rfl,hb4⟩
 replace HB:Hid (Below w.heap.size w w4):=HB.out.trans (hb4.mono HB.out.size)
 replace HE:Hid (Err8 w4 er):=HE.out.below hb4
 clear hb4 g4
 go_wp2_with fail
 refine Calls.mono (zkH p g er _ HE.out) ?_
 rintro e w5 ⟨rfl,hb5⟩
 replace HB:Hid (Below w.heap.size w w5):=HB.out.trans (hb5.mono HB.out.size)
 clear hb5
 go_wp2
 go_ret
 exact ⟨rfl,HB.out⟩
set_option maxHeartbeats 4000000 in
set_option maxRecDepth 100000 in
theorem zkG (er:Nat→Addr) (w:World) (hE:Err8 w er) :
 Calls Tryz.prog 101 #[.iface 248 (.pointer (some (er 0)))] w fun e w'=>e=.returned (.int .i64 6)∧Below w.heap.size w w':=by
 have HE:Hid (Err8 w er):=hE
 have hC:=zhF (-1) er w hE.four ⟨by decide,by decide⟩
 have hv:cwV er (-1)=.iface 248 (.pointer (some (er 0))):=rfl
 rw [hv] at hC
 have HC:Hid (_):=hC
 clear hE hC hv
 go_enter Tryz.func101,Tryz.ntmps101
 have g1:=HE.out.imp
 unfold zb2 at g1
 go_wp2_with fail
 refine Calls.mono (zcm (er 0) (er 4) _ (HE.out.ne 0 4 (by decide) (by decide) (by decide)) (HE.out.at_ 0 (by decide)) (HE.out.at_ 4 (by decide))) ?_
 rintro e w1 ⟨rfl,hw1⟩
 obtain rfl:=hw1.symm
 clear hw1 g1
 have g2:=HE.out.ring
 unfold zb2 at g2
 go_wp2_with fail
 refine Calls.mono (zcm (er 0) (er 5) _ (HE.out.ne 0 5 (by decide) (by decide) (by decide)) (HE.out.at_ 0 (by decide)) (HE.out.at_ 5 (by decide))) ?_
 rintro e w2 ⟨rfl,hw2⟩
 obtain rfl:=hw2.symm
 clear hw2 g2
 have g3:=HE.out.arg
 unfold zb2 at g3
 go_wp2_with fail
 refine Calls.mono (zcm (er 0) (er 6) _ (HE.out.ne 0 6 (by decide) (by decide) (by decide)) (HE.out.at_ 0 (by decide)) (HE.out.at_ 6 (by decide))) ?_
 rintro e w3 ⟨rfl,hw3⟩
 obtain rfl:=hw3.symm
 clear hw3 g3
 have g4:=HE.out.main
 unfold zb2 at g4
 go_wp2_with fail
 refine Calls.mono (zcm (er 0) (er 7) _ (HE.out.ne 0 7 (by decide) (by decide) (by decide)) (HE.out.at_ 0 (by decide)) (HE.out.at_ 7 (by decide))) ?_
 rintro e w4 ⟨rfl,hw4⟩
 obtain rfl:=hw4.symm
 clear hw4 g4
 go_wp2_with fail
 refine Calls.mono HC.out ?_
 rintro e w5 ⟨rfl,hw5⟩
 obtain rfl:=hw5.symm
 go_wp2
 go_ret
 exact ⟨rfl,Below.refl _ _⟩
theorem zh0 (c:Int) (k:Nat) (hk:ziz c k) (p g:List UInt8) (er:Nat→Addr) (w:World) (hE:Err8 w er) :
 Calls Tryz.prog 101 #[.iface 131 (.agg #[.string ⟨p.toArray⟩,.string ⟨g.toArray⟩,.iface 248 (.pointer (some (er k)))])] w fun e w'=>e=.returned (.int .i64 c)∧Below w.heap.size w w':=by
 rcases hk with ⟨rfl,rfl⟩ | ⟨rfl,rfl⟩ | ⟨rfl,rfl⟩ | ⟨rfl,h1,h3⟩ | ⟨rfl,rfl⟩
 ·
  exact zjk p g er w hE
 ·
  exact zjj p g er w hE
 ·
  exact zji p g er w hE
 ·
  rcases (show k=1∨k=2∨k=3 by omega) with rfl | rfl | rfl
  ·
   exact zjn p g er w hE
  ·
   exact zjm p g er w hE
  ·
   exact zjl p g er w hE
 ·
  exact zjh p g er w hE
def zmR (F:Flt):Prop:=F.2.1.length≤1048576∧F.2.2.length≤1048576
theorem zh8 {ps:List Pk} {p:Pk} (hp:p.1.length≤1048576):∀ (fs:List Fn) (k:Nat),(∀ f∈fs,f.1.length≤1048576)→∀ F,zd1 ps p fs k=some F→zmR F
 | [],_,_,F,h=>by simp [zd1] at h
 | f :: r,k,hf,F,h=>by
  rw [zd1] at h
  split at h
  ·
   injection h with h
   subst h
   exact ⟨hp,hf f List.mem_cons_self⟩
  ·
   exact zh8 hp r (k+1) (fun q hq=>hf q (List.mem_cons_of_mem _ hq)) F h
theorem zoy {ps:List Pk} (hs:zbr ps) {dn i j:Nat} {F:Flt} (h:pk9 ps dn i (ps.getD j pk0)=some F):zmR F:=by
 have hj:=hs j
 unfold pk9 at h
 split at h
 ·
  injection h with h;subst h;exact ⟨hj.1,by simp⟩
 ·
  split at h
  ·
   injection h with h;subst h;exact ⟨hj.1,by simp⟩
  ·
   have hfs:=hj.2.2.2.2
   refine zh8 hj.1 _ 0 (fun f hf=>?_) F h
   generalize (ps.getD j pk0).2.2=fs at hf hfs
   obtain ⟨q,hq,e⟩:=List.mem_iff_getElem.1 hf
   have h1:=(hfs q).1
   have e1:fs.getD q fn0=fs[q]:=by simp [List.getD,hq]
   rw [e1,e] at h1
   exact h1
theorem zh9 {ps:List Pk} (hs:zbr ps) {dn:Nat}:∀ (l:List (List UInt8)) (i:Nat) (F:Flt),zc7 ps dn l i=some F→zmR F
 | [],_,F,h=>by simp [zc7] at h
 | x :: r,i,F,h=>by
  rw [zc7] at h
  cases hp:pk9 ps dn i (pkOf ps x) with
  | none=>rw [hp] at h;exact zh9 hs r (i+1) F h
  | some G =>
   rw [hp] at h
   injection h with h
   subst h
   exact zoy (j:=(at8 ps x).toNat) hs hp
theorem zlY {ps:List Pk} (hs:zbr ps):zmR (zaY ps):=by
 unfold zaY
 split
 ·
  unfold zaZ
  split
  ·
   rename_i f hf
   exact zh9 hs _ _ f hf
  ·
   unfold zcs
   split
   ·
    exact ⟨by simp,by simp⟩
   ·
    exact ⟨by simp [za7],by simp [za7]⟩
 ·
  exact ⟨by simp,by simp⟩
structure Bx (Z:World) (k:Nat) (a b c:Value):Prop where
 box:Box3 Z k a b c
 fr:∀ j,Z.frozen? ⟨k,j,none⟩=false
theorem Bx.new (w:World) (a b c:Value) (t:TypeId):Bx (w.alloc (.cells #[a,b,c] t)) w.heap.size a b c∧Below w.heap.size w (w.alloc (.cells #[a,b,c] t)):=by
 obtain ⟨h1,h2⟩:=Box3.new w a b c t
 exact ⟨⟨h1,fun j=>World.frozen?_alloc_at _ _ _ _ rfl⟩,h2⟩
theorem Bx.below {Z Y:World} {k:Nat} {a b c:Value} (h:Bx Z k a b c) (hb:Below Z.heap.size Z Y):Bx Y k a b c:=⟨h.box.below hb,fun j=>(hb.frozen (p:=⟨k,j,none⟩) h.box.lt).trans (h.fr j)⟩
theorem Bx.keep {Z Y:World} {k:Nat} {a b c:Value} (h:Bx Z k a b c) (e:Y.heap[k]?=Z.heap[k]?):Bx Y k a b c:=⟨h.box.keep e,fun j=>by have:=h.fr j;simp only [World.frozen?] at this ⊢;rw [e];exact this⟩
theorem Bx.row {Z:World} {k T:Nat} {a b c:Value} (h:Bx Z k a b c) (hk:k≠T) (cs:Array Value):Bx (Z.setRow T cs) k a b c:=h.keep (setRow_other Z T k cs hk)
theorem Bx.far {Z:World} {k g o:Nat} {a b c:Value} (h:Bx Z k a b c) (hk:g≠k) (v:Value):Bx (Z.setCell ⟨g,o,none⟩ v) k a b c :=
 ⟨⟨(World.cell?_setCell_far Z ⟨g,o,none⟩ ⟨k,0,none⟩ v hk).trans h.box.c0,(World.cell?_setCell_far Z ⟨g,o,none⟩ ⟨k,1,none⟩ v hk).trans h.box.c1,(World.cell?_setCell_far Z ⟨g,o,none⟩ ⟨k,2,none⟩ v hk).trans h.box.c2⟩,fun j=>by simpa using h.fr j⟩
theorem Bx.s1 {Z:World} {k:Nat} {a b c:Value} (h:Bx Z k a b c) (v:Value):Bx (Z.setCell ⟨k,1,none⟩ v) k a v c :=
 ⟨⟨(World.cell?_setCell_other _ _ _ _ (by simp)).trans h.box.c0,World.cell?_setCell_same _ _ _ h.box.c1,(World.cell?_setCell_other _ _ _ _ (by simp)).trans h.box.c2⟩,fun j=>by simpa using h.fr j⟩
theorem Bx.s2 {Z:World} {k:Nat} {a b c:Value} (h:Bx Z k a b c) (v:Value):Bx (Z.setCell ⟨k,2,none⟩ v) k a b v :=
 ⟨⟨(World.cell?_setCell_other _ _ _ _ (by simp)).trans h.box.c0,(World.cell?_setCell_other _ _ _ _ (by simp)).trans h.box.c1,World.cell?_setCell_same _ _ _ h.box.c2⟩,fun j=>by simpa using h.fr j⟩
theorem Bx.f {Z:World} {k:Nat} (h:Bx Z k (.int .i64 0) (.string ⟨#[]⟩) (.string ⟨#[]⟩)):FBox Z k:=⟨h.box,h.fr⟩
set_option maxHeartbeats 8000000 in
set_option maxRecDepth 100000 in
theorem zlI (a:Option Addr) (len cap:Nat) (ps:List Pk) (er:Nat→Addr) (w:World) (hE:Err8 w er) (h:zal w a len cap ps) :
 Calls Tryz.prog 76 #[.slice a len cap] w fun e w'=>e=.returned (zb9 (zaY ps))∧Below w.heap.size w w':=by
 obtain ⟨hs1,hs2⟩:=zlY h.short
 obtain ⟨bD,hb0⟩:=Bx.new w (.int .i64 0) (.string ⟨#[]⟩) (.string ⟨#[]⟩) 111
 obtain ⟨W0,hW0⟩:∃ W0,w.alloc (.cells #[.int .i64 0,.string ⟨#[]⟩,.string ⟨#[]⟩] 111)=W0:=⟨_,rfl⟩
 obtain ⟨D,hD⟩:∃ D,w.heap.size=D:=⟨_,rfl⟩
 rw [hW0] at bD hb0
 rw [hD] at bD hb0
 have hDw:w.heap.size≤D:=Nat.le_of_eq hD
 have HPr:Hid (_):=zgd a len cap ps er W0 (hE.below (by rw [hD];exact hb0)) (h.below (by rw [hD];exact hb0))
 have HEr:Hid (Err8 W0 er):=hE.below (by rw [hD];exact hb0)
 have hsz:D<W0.heap.size:=bD.box.lt
 have HB0:Hid (Below D w W0):=hb0
 have HD:Hid (Bx W0 D (.int .i64 0) (.string ⟨#[]⟩) (.string ⟨#[]⟩)):=bD
 obtain ⟨F,hF⟩:∃ F,zaY ps=F:=⟨_,rfl⟩
 rw [hF] at HPr hs1 hs2 ⊢
 clear bD hb0 hE h hF
 go_enter Tryz.func76,Tryz.ntmps76
 go_wp2_with fail
 refine Calls.mono HPr.out ?_
 rintro e w1 ⟨v,rfl,hv,hb1⟩
 have bD:=HD.out.below hb1
 have HE1:Hid (Err8 w1 er):=HEr.out.below hb1
 have hB1:Below D w w1:=HB0.out.trans (hb1.mono (Nat.le_of_lt hsz))
 have hs1w:D<w1.heap.size:=bD.box.lt
 clear HPr HEr HB0 HD hb1
 rcases hv with ⟨rfl,rfl⟩ | ⟨rfl,rfl⟩ | ⟨c,p,g,k,rfl,hk,rfl⟩
 ·
  obtain ⟨Y,hY,y0,y1,y2,hbY⟩:=bD.f.put (w:=w) (by rw [hD];exact hB1) hDw (0,[],[])
  simp only at hY y0 y1 y2
  have f0:=bD.fr 0
  have f1:=bD.fr 1
  have f2:=bD.fr 2
  have d0:=bD.box.c0
  have d1:=bD.box.c1
  have d2:=bD.box.c2
  clear bD hB1
  go_wp2
  refine bodyPost_ret (v:=zb9 (0,[],[])) (by unfold zb9;simp [results,Tryz.results76,go_sem,y0,y1,y2]) rfl ?_
  exact ⟨rfl,hbY⟩
 ·
  go_wp2_with fail
  refine Calls.mono (zkG er _ HE1.out) ?_
  rintro e w2 ⟨rfl,hb2⟩
  have bD2:=bD.below hb2
  have hB2:Below D w w2:=hB1.trans (hb2.mono (Nat.le_of_lt hs1w))
  obtain ⟨E,hEe⟩:∃ E,w2.heap.size=E:=⟨_,rfl⟩
  have hDE:D<E:=by rw [←hEe];exact bD2.box.lt
  obtain ⟨bE,hbE⟩:=Bx.new w2 (.int .i64 6) (.string ⟨#[]⟩) (.string ⟨#[]⟩) 111
  obtain ⟨bT,hbT⟩:=Bx.new (w2.alloc (.cells #[.int .i64 6,.string ⟨#[]⟩,.string ⟨#[]⟩] 111)) (.string ⟨#[]⟩) (.string ⟨#[]⟩) .nilIface 131
  have hT:=heap_alloc_new (w2.alloc (.cells #[.int .i64 6,.string ⟨#[]⟩,.string ⟨#[]⟩] 111)) (.cells #[.string ⟨#[]⟩,.string ⟨#[]⟩,.nilIface] 131)
  have hsz1:(w2.alloc (.cells #[.int .i64 6,.string ⟨#[]⟩,.string ⟨#[]⟩] 111)).heap.size=E+1:=by rw [←hEe];simp
  rw [hEe] at bE
  rw [hsz1] at bT hT
  have bE2:=bE.below hbT
  have bD4:=(bD2.below hbE).below hbT
  have HE4:Hid (Err8 ((w2.alloc (.cells #[.int .i64 6,.string ⟨#[]⟩,.string ⟨#[]⟩] 111)).alloc (.cells #[.string ⟨#[]⟩,.string ⟨#[]⟩,.nilIface] 131)) er):=((HE1.out.below hb2).below hbE).below hbT
  have hB4:Below D w ((w2.alloc (.cells #[.int .i64 6,.string ⟨#[]⟩,.string ⟨#[]⟩] 111)).alloc (.cells #[.string ⟨#[]⟩,.string ⟨#[]⟩,.nilIface] 131)):=(hB2.trans (hbE.mono (by omega))).trans (hbT.mono (by rw [hsz1];omega))
  have hsz4:D<((w2.alloc (.cells #[.int .i64 6,.string ⟨#[]⟩,.string ⟨#[]⟩] 111)).alloc (.cells #[.string ⟨#[]⟩,.string ⟨#[]⟩,.nilIface] 131)).heap.size:=bD4.box.lt
  have gE:=HE4.out.ety
  have HAs:Hid (_):=as_miss (er 0) ⟨E+1,0,none⟩ _ gE
  clear bD bD2 bE bT hT hbE hbT hB1 hB2 hb2 HE1
  go_wp2_with fail
  refine Calls.mono HAs.out ?_
  rintro e w3 ⟨rfl,hb3⟩
  have bE3:=bE2.below hb3
  have bD3:=bD4.below hb3
  have hB3:Below D w w3:=hB4.trans (hb3.mono (Nat.le_of_lt hsz4))
  obtain ⟨Y,hY,y0,y1,y2,hbY⟩:=bD3.f.put (w:=w) (by rw [hD];exact hB3) hDw (6,[],[])
  simp only at hY y0 y1 y2
  have f0:=bD3.fr 0
  have f1:=bD3.fr 1
  have f2:=bD3.fr 2
  have d0:=bD3.box.c0
  have d1:=bD3.box.c1
  have d2:=bD3.box.c2
  have e0:=bE3.box.c0
  have e1:=bE3.box.c1
  have e2:=bE3.box.c2
  clear bE2 bE3 bD4 bD3 hB3 hB4 hb3 gE HE4 HAs
  go_wp2
  refine bodyPost_ret (v:=zb9 (6,[],[])) (by unfold zb9;simp [results,Tryz.results76,go_sem,y0,y1,y2]) rfl ?_
  exact ⟨rfl,hbY⟩
 ·
  have HC:Hid (_):=zh0 c k hk p g er w1 HE1.out
  clear hk
  go_wp2_with fail
  refine Calls.mono HC.out ?_
  rintro e w2 ⟨rfl,hb2⟩
  have bD2:=bD.below hb2
  have hB2:Below D w w2:=hB1.trans (hb2.mono (Nat.le_of_lt hs1w))
  obtain ⟨E,hEe⟩:∃ E,w2.heap.size=E:=⟨_,rfl⟩
  have hDE:D<E:=by rw [←hEe];exact bD2.box.lt
  obtain ⟨bE,hbE⟩:=Bx.new w2 (.int .i64 c) (.string ⟨#[]⟩) (.string ⟨#[]⟩) 111
  obtain ⟨bT,hbT⟩:=Bx.new (w2.alloc (.cells #[.int .i64 c,.string ⟨#[]⟩,.string ⟨#[]⟩] 111)) (.string ⟨#[]⟩) (.string ⟨#[]⟩) .nilIface 131
  have hT:=heap_alloc_new (w2.alloc (.cells #[.int .i64 c,.string ⟨#[]⟩,.string ⟨#[]⟩] 111)) (.cells #[.string ⟨#[]⟩,.string ⟨#[]⟩,.nilIface] 131)
  have hsz1:(w2.alloc (.cells #[.int .i64 c,.string ⟨#[]⟩,.string ⟨#[]⟩] 111)).heap.size=E+1:=by rw [←hEe];simp
  rw [hEe] at bE
  rw [hsz1] at bT hT
  have bE2:=bE.below hbT
  have bD4:=(bD2.below hbE).below hbT
  have HE4:Hid (Err8 ((w2.alloc (.cells #[.int .i64 c,.string ⟨#[]⟩,.string ⟨#[]⟩] 111)).alloc (.cells #[.string ⟨#[]⟩,.string ⟨#[]⟩,.nilIface] 131)) er):=((HE1.out.below hb2).below hbE).below hbT
  have hB4:Below D w ((w2.alloc (.cells #[.int .i64 c,.string ⟨#[]⟩,.string ⟨#[]⟩] 111)).alloc (.cells #[.string ⟨#[]⟩,.string ⟨#[]⟩,.nilIface] 131)):=(hB2.trans (hbE.mono (by omega))).trans (hbT.mono (by rw [hsz1];omega))
  have hsz4:D<((w2.alloc (.cells #[.int .i64 c,.string ⟨#[]⟩,.string ⟨#[]⟩] 111)).alloc (.cells #[.string ⟨#[]⟩,.string ⟨#[]⟩,.nilIface] 131)).heap.size:=bD4.box.lt
  have gE:=HE4.out.ety
  have HAs:Hid (_):=as_hit p g (er k) (E+1) 131 _ _ hT rfl gE
  clear bD bD2 bE bT hT hbE hbT hB1 hB2 hb2 HE1 HC
  go_wp2_with fail
  refine Calls.mono HAs.out ?_
  rintro e w3 ⟨rfl,w0,hb3,ho0,hw3⟩
  have bE3:=(bE2.below hb3).row (T:=E+1) (by omega) #[.string ⟨p.toArray⟩,.string ⟨g.toArray⟩,.iface 248 (.pointer (some (er k)))]
  have bD3:=(bD4.below hb3).row (T:=E+1) (by omega) #[.string ⟨p.toArray⟩,.string ⟨g.toArray⟩,.iface 248 (.pointer (some (er k)))]
  have hT3:=setRow_heap w0 (E+1) _ #[.string ⟨p.toArray⟩,.string ⟨g.toArray⟩,.iface 248 (.pointer (some (er k)))] _ _ ho0
  have hB3:Below D w (w0.setRow (E+1) #[.string ⟨p.toArray⟩,.string ⟨g.toArray⟩,.iface 248 (.pointer (some (er k)))]):=below_setRow (hB4.trans (hb3.mono (Nat.le_of_lt hsz4))) (by omega) _
  rw [←hw3] at bE3 bD3 hT3 hB3
  have t0:w3.cell? ⟨E+1,0,none⟩=some (.string ⟨p.toArray⟩):=by simp [World.cell?,hT3]
  have t1:w3.cell? ⟨E+1,1,none⟩=some (.string ⟨g.toArray⟩):=by simp [World.cell?,hT3]
  have hs3:D<w3.heap.size:=bD3.box.lt
  have hTl:E+1<w3.heap.size:=World.block_lt_of_cell? w3 ⟨E+1,0,none⟩ t0
  clear hw3 ho0 hT3 bE2 bD4 hB4 gE HE4 HAs hb3 hsz4
  clear w0
  go_wp2_with fail
  refine Calls.mono (zbb p _ hs1) ?_
  rintro e w4 ⟨rfl,hb4⟩
  have bE4:=bE3.below hb4
  have bD5:=(bD3.below hb4).far (g:=E) (o:=1) (by omega) (.string ⟨p.toArray⟩)
  have t14:=(World.cell?_setCell_far w4 ⟨E,1,none⟩ ⟨E+1,1,none⟩ (.string ⟨p.toArray⟩) (by simp)).trans ((hb4.cell (p:=⟨E+1,1,none⟩) hTl).trans t1)
  have hB4:Below D w w4:=hB3.trans (hb4.mono (Nat.le_of_lt hs3))
  have bE5:=bE4.s1 (.string ⟨p.toArray⟩)
  have hB5:Below D w (w4.setCell ⟨E,1,none⟩ (.string ⟨p.toArray⟩)):=hB4.grown (zam w4 E 1 _) (by rw [←hD];exact hB4.size) (fun q e=>by injection e with e;have e2:E=q:=e;omega)
  have fE1:=bE4.fr 1
  have e14:=bE4.box.c1
  obtain ⟨Y1,hY1⟩:∃ Y1,w4.setCell ⟨E,1,none⟩ (.string ⟨p.toArray⟩)=Y1:=⟨_,rfl⟩
  rw [hY1] at bD5 t14 bE5 hB5
  have hs5:D<Y1.heap.size:=bD5.box.lt
  clear bE4 bE3 bD3 hB3 hB4 t0 t1 hb4
  go_wp2_with fail
  refine Calls.mono (zbb g _ hs2) ?_
  rintro e w5 ⟨rfl,hb5⟩
  have bE6:=bE5.below hb5
  have bD7:=(bD5.below hb5).far (g:=E) (o:=2) (by omega) (.string ⟨g.toArray⟩)
  have hB6:Below D w w5:=hB5.trans (hb5.mono (Nat.le_of_lt hs5))
  have bE7:=bE6.s2 (.string ⟨g.toArray⟩)
  have hB7:Below D w (w5.setCell ⟨E,2,none⟩ (.string ⟨g.toArray⟩)):=hB6.grown (zam w5 E 2 _) (by rw [←hD];exact hB6.size) (fun q e=>by injection e with e;have e2:E=q:=e;omega)
  have fE2:=bE6.fr 2
  have e26:=bE6.box.c2
  obtain ⟨Y2,hY2⟩:∃ Y2,w5.setCell ⟨E,2,none⟩ (.string ⟨g.toArray⟩)=Y2:=⟨_,rfl⟩
  rw [hY2] at bD7 bE7 hB7
  obtain ⟨Y,hY,y0,y1,y2,hbY⟩:=bD7.f.put (w:=w) (by rw [hD];exact hB7) hDw (c,p,g)
  simp only at hY y0 y1 y2
  have f0:=bD7.fr 0
  have f1:=bD7.fr 1
  have f2:=bD7.fr 2
  have d0:=bD7.box.c0
  have d1:=bD7.box.c1
  have d2:=bD7.box.c2
  have e0:=bE7.box.c0
  have e1:=bE7.box.c1
  have e2:=bE7.box.c2
  clear bE5 bE6 bE7 bD5 bD7 hB5 hB6 hB7 hb5 t14 fE1 e14
  go_wp2
  refine bodyPost_ret (v:=zb9 (c,p,g)) (by unfold zb9;simp [results,Tryz.results76,go_sem,y0,y1,y2]) rfl ?_
  exact ⟨rfl,hbY⟩
end Go.Proofs.YtdbljnddkbpanaaGreatDoor
