/-
  Parts of one proof, one behind the other: FltM, FltN, Shelf, TreeJ.
-/
import Derived.Test.YtdjglpcllcjcfaaGreatDoorP32
import Derived.Laws.CopyOwn
import Derived.Shelf.Strconv.Itoa0
import Derived.Shelf.Strconv.Itoa1
import Derived.Shelf.LaysM
import Derived.Shelf.Strconv.Itoa2
import Derived.Shelf.Strconv.Itoa3
import Derived.Shelf.Strconv.Itoa4
import Derived.Test.YtdjglpcllcjcfaaGreatDoorProg
import Derived.Test.YtdjglpcllcjcfaaGreatDoorP26
import Derived.Lib.AppendIntMem
import Derived.Lib.SmallJoins
import Derived.Lib.LaidTab
import Derived.Deep.RegionHeld3

/-! The contracts of chapter 9's landed code: the code of an error. -/
namespace Go.Proofs.YtdjglpcllcjcfaaGreatDoor
open Go.RowKit

set_option maxHeartbeats 4000000 in
set_option maxRecDepth 100000 in
theorem codeOfCallW1 (p g : List UInt8) (er : Nat → Addr) (w : World) (hE : Err8 w er) :
    Calls Tryz.prog 40 #[.iface 57 (.agg #[.string ⟨p.toArray⟩, .string ⟨g.toArray⟩, .iface 215 (.pointer (some (er 1)))])] w fun e w' => e = .returned (.int .i64 1) ∧ Below w.heap.size w w' := by
  have HE : Hid (Err8 w er) := hE
  have HB : Hid (Below w.heap.size w w) := Below.refl _ _
  clear hE
  go_enter Tryz.func40, Tryz.ntmps40
  have g1 := HE.out.four.far
  unfold sentV at g1
  go_wp2_with fail
  refine Calls.mono (is_wrap_same p g (er 1) _) ?_
  rintro e w1 ⟨rfl, hb1⟩
  replace HB : Hid (Below w.heap.size w w1) := HB.out.trans (hb1.mono HB.out.size)
  replace HE : Hid (Err8 w1 er) := HE.out.below hb1
  clear hb1 g1
  go_wp2
  go_ret
  exact ⟨rfl, HB.out⟩
set_option maxHeartbeats 4000000 in
set_option maxRecDepth 100000 in
theorem codeOfCallW2 (p g : List UInt8) (er : Nat → Addr) (w : World) (hE : Err8 w er) :
    Calls Tryz.prog 40 #[.iface 57 (.agg #[.string ⟨p.toArray⟩, .string ⟨g.toArray⟩, .iface 215 (.pointer (some (er 2)))])] w fun e w' => e = .returned (.int .i64 2) ∧ Below w.heap.size w w' := by
  have HE : Hid (Err8 w er) := hE
  have HB : Hid (Below w.heap.size w w) := Below.refl _ _
  clear hE
  go_enter Tryz.func40, Tryz.ntmps40
  have g1 := HE.out.four.far
  unfold sentV at g1
  go_wp2_with fail
  refine Calls.mono (is_wrap_other p g (er 2) (er 1) _ (HE.out.ne 2 1 (by decide) (by decide) (by decide)) (HE.out.at_ 2 (by decide)) (HE.out.at_ 1 (by decide))) ?_
  rintro e w1 ⟨rfl, hb1⟩
  replace HB : Hid (Below w.heap.size w w1) := HB.out.trans (hb1.mono HB.out.size)
  replace HE : Hid (Err8 w1 er) := HE.out.below hb1
  clear hb1 g1
  have g2 := HE.out.four.func
  unfold sentV at g2
  go_wp2_with fail
  refine Calls.mono (is_wrap_same p g (er 2) _) ?_
  rintro e w2 ⟨rfl, hb2⟩
  replace HB : Hid (Below w.heap.size w w2) := HB.out.trans (hb2.mono HB.out.size)
  replace HE : Hid (Err8 w2 er) := HE.out.below hb2
  clear hb2 g2
  go_wp2
  go_ret
  exact ⟨rfl, HB.out⟩
set_option maxHeartbeats 4000000 in
set_option maxRecDepth 100000 in
theorem codeOfCallW3 (p g : List UInt8) (er : Nat → Addr) (w : World) (hE : Err8 w er) :
    Calls Tryz.prog 40 #[.iface 57 (.agg #[.string ⟨p.toArray⟩, .string ⟨g.toArray⟩, .iface 215 (.pointer (some (er 3)))])] w fun e w' => e = .returned (.int .i64 3) ∧ Below w.heap.size w w' := by
  have HE : Hid (Err8 w er) := hE
  have HB : Hid (Below w.heap.size w w) := Below.refl _ _
  clear hE
  go_enter Tryz.func40, Tryz.ntmps40
  have g1 := HE.out.four.far
  unfold sentV at g1
  go_wp2_with fail
  refine Calls.mono (is_wrap_other p g (er 3) (er 1) _ (HE.out.ne 3 1 (by decide) (by decide) (by decide)) (HE.out.at_ 3 (by decide)) (HE.out.at_ 1 (by decide))) ?_
  rintro e w1 ⟨rfl, hb1⟩
  replace HB : Hid (Below w.heap.size w w1) := HB.out.trans (hb1.mono HB.out.size)
  replace HE : Hid (Err8 w1 er) := HE.out.below hb1
  clear hb1 g1
  have g2 := HE.out.four.func
  unfold sentV at g2
  go_wp2_with fail
  refine Calls.mono (is_wrap_other p g (er 3) (er 2) _ (HE.out.ne 3 2 (by decide) (by decide) (by decide)) (HE.out.at_ 3 (by decide)) (HE.out.at_ 2 (by decide))) ?_
  rintro e w2 ⟨rfl, hb2⟩
  replace HB : Hid (Below w.heap.size w w2) := HB.out.trans (hb2.mono HB.out.size)
  replace HE : Hid (Err8 w2 er) := HE.out.below hb2
  clear hb2 g2
  have g3 := HE.out.four.count
  unfold sentV at g3
  go_wp2_with fail
  refine Calls.mono (is_wrap_same p g (er 3) _) ?_
  rintro e w3 ⟨rfl, hb3⟩
  replace HB : Hid (Below w.heap.size w w3) := HB.out.trans (hb3.mono HB.out.size)
  replace HE : Hid (Err8 w3 er) := HE.out.below hb3
  clear hb3 g3
  go_wp2
  go_ret
  exact ⟨rfl, HB.out⟩
set_option maxHeartbeats 4000000 in
set_option maxRecDepth 100000 in
theorem codeOfFaultW4 (p g : List UInt8) (er : Nat → Addr) (w : World) (hE : Err8 w er) :
    Calls Tryz.prog 24 #[.iface 57 (.agg #[.string ⟨p.toArray⟩, .string ⟨g.toArray⟩, .iface 215 (.pointer (some (er 4)))])] w fun e w' => e = .returned (.int .i64 1) ∧ Below w.heap.size w w' := by
  have HE : Hid (Err8 w er) := hE
  have HB : Hid (Below w.heap.size w w) := Below.refl _ _
  clear hE
  go_enter Tryz.func24, Tryz.ntmps24
  have g1 := HE.out.imp
  unfold sentV at g1
  go_wp2_with fail
  refine Calls.mono (is_wrap_same p g (er 4) _) ?_
  rintro e w1 ⟨rfl, hb1⟩
  replace HB : Hid (Below w.heap.size w w1) := HB.out.trans (hb1.mono HB.out.size)
  replace HE : Hid (Err8 w1 er) := HE.out.below hb1
  clear hb1 g1
  go_wp2
  go_ret
  exact ⟨rfl, HB.out⟩
set_option maxHeartbeats 4000000 in
set_option maxRecDepth 100000 in
theorem codeOfFaultW5 (p g : List UInt8) (er : Nat → Addr) (w : World) (hE : Err8 w er) :
    Calls Tryz.prog 24 #[.iface 57 (.agg #[.string ⟨p.toArray⟩, .string ⟨g.toArray⟩, .iface 215 (.pointer (some (er 5)))])] w fun e w' => e = .returned (.int .i64 2) ∧ Below w.heap.size w w' := by
  have HE : Hid (Err8 w er) := hE
  have HB : Hid (Below w.heap.size w w) := Below.refl _ _
  clear hE
  go_enter Tryz.func24, Tryz.ntmps24
  have g1 := HE.out.imp
  unfold sentV at g1
  go_wp2_with fail
  refine Calls.mono (is_wrap_other p g (er 5) (er 4) _ (HE.out.ne 5 4 (by decide) (by decide) (by decide)) (HE.out.at_ 5 (by decide)) (HE.out.at_ 4 (by decide))) ?_
  rintro e w1 ⟨rfl, hb1⟩
  replace HB : Hid (Below w.heap.size w w1) := HB.out.trans (hb1.mono HB.out.size)
  replace HE : Hid (Err8 w1 er) := HE.out.below hb1
  clear hb1 g1
  have g2 := HE.out.ring
  unfold sentV at g2
  go_wp2_with fail
  refine Calls.mono (is_wrap_same p g (er 5) _) ?_
  rintro e w2 ⟨rfl, hb2⟩
  replace HB : Hid (Below w.heap.size w w2) := HB.out.trans (hb2.mono HB.out.size)
  replace HE : Hid (Err8 w2 er) := HE.out.below hb2
  clear hb2 g2
  go_wp2
  go_ret
  exact ⟨rfl, HB.out⟩
set_option maxHeartbeats 4000000 in
set_option maxRecDepth 100000 in
theorem codeOfFaultW6 (p g : List UInt8) (er : Nat → Addr) (w : World) (hE : Err8 w er) :
    Calls Tryz.prog 24 #[.iface 57 (.agg #[.string ⟨p.toArray⟩, .string ⟨g.toArray⟩, .iface 215 (.pointer (some (er 6)))])] w fun e w' => e = .returned (.int .i64 3) ∧ Below w.heap.size w w' := by
  have HE : Hid (Err8 w er) := hE
  have HB : Hid (Below w.heap.size w w) := Below.refl _ _
  clear hE
  go_enter Tryz.func24, Tryz.ntmps24
  have g1 := HE.out.imp
  unfold sentV at g1
  go_wp2_with fail
  refine Calls.mono (is_wrap_other p g (er 6) (er 4) _ (HE.out.ne 6 4 (by decide) (by decide) (by decide)) (HE.out.at_ 6 (by decide)) (HE.out.at_ 4 (by decide))) ?_
  rintro e w1 ⟨rfl, hb1⟩
  replace HB : Hid (Below w.heap.size w w1) := HB.out.trans (hb1.mono HB.out.size)
  replace HE : Hid (Err8 w1 er) := HE.out.below hb1
  clear hb1 g1
  have g2 := HE.out.ring
  unfold sentV at g2
  go_wp2_with fail
  refine Calls.mono (is_wrap_other p g (er 6) (er 5) _ (HE.out.ne 6 5 (by decide) (by decide) (by decide)) (HE.out.at_ 6 (by decide)) (HE.out.at_ 5 (by decide))) ?_
  rintro e w2 ⟨rfl, hb2⟩
  replace HB : Hid (Below w.heap.size w w2) := HB.out.trans (hb2.mono HB.out.size)
  replace HE : Hid (Err8 w2 er) := HE.out.below hb2
  clear hb2 g2
  have g3 := HE.out.arg
  unfold sentV at g3
  go_wp2_with fail
  refine Calls.mono (is_wrap_same p g (er 6) _) ?_
  rintro e w3 ⟨rfl, hb3⟩
  replace HB : Hid (Below w.heap.size w w3) := HB.out.trans (hb3.mono HB.out.size)
  replace HE : Hid (Err8 w3 er) := HE.out.below hb3
  clear hb3 g3
  go_wp2
  go_ret
  exact ⟨rfl, HB.out⟩
set_option maxHeartbeats 4000000 in
set_option maxRecDepth 100000 in
theorem codeOfFaultW7 (p g : List UInt8) (er : Nat → Addr) (w : World) (hE : Err8 w er) :
    Calls Tryz.prog 24 #[.iface 57 (.agg #[.string ⟨p.toArray⟩, .string ⟨g.toArray⟩, .iface 215 (.pointer (some (er 7)))])] w fun e w' => e = .returned (.int .i64 5) ∧ Below w.heap.size w w' := by
  have HE : Hid (Err8 w er) := hE
  have HB : Hid (Below w.heap.size w w) := Below.refl _ _
  clear hE
  go_enter Tryz.func24, Tryz.ntmps24
  have g1 := HE.out.imp
  unfold sentV at g1
  go_wp2_with fail
  refine Calls.mono (is_wrap_other p g (er 7) (er 4) _ (HE.out.ne 7 4 (by decide) (by decide) (by decide)) (HE.out.at_ 7 (by decide)) (HE.out.at_ 4 (by decide))) ?_
  rintro e w1 ⟨rfl, hb1⟩
  replace HB : Hid (Below w.heap.size w w1) := HB.out.trans (hb1.mono HB.out.size)
  replace HE : Hid (Err8 w1 er) := HE.out.below hb1
  clear hb1 g1
  have g2 := HE.out.ring
  unfold sentV at g2
  go_wp2_with fail
  refine Calls.mono (is_wrap_other p g (er 7) (er 5) _ (HE.out.ne 7 5 (by decide) (by decide) (by decide)) (HE.out.at_ 7 (by decide)) (HE.out.at_ 5 (by decide))) ?_
  rintro e w2 ⟨rfl, hb2⟩
  replace HB : Hid (Below w.heap.size w w2) := HB.out.trans (hb2.mono HB.out.size)
  replace HE : Hid (Err8 w2 er) := HE.out.below hb2
  clear hb2 g2
  have g3 := HE.out.arg
  unfold sentV at g3
  go_wp2_with fail
  refine Calls.mono (is_wrap_other p g (er 7) (er 6) _ (HE.out.ne 7 6 (by decide) (by decide) (by decide)) (HE.out.at_ 7 (by decide)) (HE.out.at_ 6 (by decide))) ?_
  rintro e w3 ⟨rfl, hb3⟩
  replace HB : Hid (Below w.heap.size w w3) := HB.out.trans (hb3.mono HB.out.size)
  replace HE : Hid (Err8 w3 er) := HE.out.below hb3
  clear hb3 g3
  have g4 := HE.out.main
  unfold sentV at g4
  go_wp2_with fail
  refine Calls.mono (is_wrap_same p g (er 7) _) ?_
  rintro e w4 ⟨rfl, hb4⟩
  replace HB : Hid (Below w.heap.size w w4) := HB.out.trans (hb4.mono HB.out.size)
  replace HE : Hid (Err8 w4 er) := HE.out.below hb4
  clear hb4 g4
  go_wp2
  go_ret
  exact ⟨rfl, HB.out⟩
set_option maxHeartbeats 4000000 in
set_option maxRecDepth 100000 in
theorem codeOfFaultW1 (p g : List UInt8) (er : Nat → Addr) (w : World) (hE : Err8 w er) :
    Calls Tryz.prog 24 #[.iface 57 (.agg #[.string ⟨p.toArray⟩, .string ⟨g.toArray⟩, .iface 215 (.pointer (some (er 1)))])] w fun e w' => e = .returned (.int .i64 4) ∧ Below w.heap.size w w' := by
  have HE : Hid (Err8 w er) := hE
  have HB : Hid (Below w.heap.size w w) := Below.refl _ _
  clear hE
  go_enter Tryz.func24, Tryz.ntmps24
  have g1 := HE.out.imp
  unfold sentV at g1
  go_wp2_with fail
  refine Calls.mono (is_wrap_other p g (er 1) (er 4) _ (HE.out.ne 1 4 (by decide) (by decide) (by decide)) (HE.out.at_ 1 (by decide)) (HE.out.at_ 4 (by decide))) ?_
  rintro e w1 ⟨rfl, hb1⟩
  replace HB : Hid (Below w.heap.size w w1) := HB.out.trans (hb1.mono HB.out.size)
  replace HE : Hid (Err8 w1 er) := HE.out.below hb1
  clear hb1 g1
  have g2 := HE.out.ring
  unfold sentV at g2
  go_wp2_with fail
  refine Calls.mono (is_wrap_other p g (er 1) (er 5) _ (HE.out.ne 1 5 (by decide) (by decide) (by decide)) (HE.out.at_ 1 (by decide)) (HE.out.at_ 5 (by decide))) ?_
  rintro e w2 ⟨rfl, hb2⟩
  replace HB : Hid (Below w.heap.size w w2) := HB.out.trans (hb2.mono HB.out.size)
  replace HE : Hid (Err8 w2 er) := HE.out.below hb2
  clear hb2 g2
  have g3 := HE.out.arg
  unfold sentV at g3
  go_wp2_with fail
  refine Calls.mono (is_wrap_other p g (er 1) (er 6) _ (HE.out.ne 1 6 (by decide) (by decide) (by decide)) (HE.out.at_ 1 (by decide)) (HE.out.at_ 6 (by decide))) ?_
  rintro e w3 ⟨rfl, hb3⟩
  replace HB : Hid (Below w.heap.size w w3) := HB.out.trans (hb3.mono HB.out.size)
  replace HE : Hid (Err8 w3 er) := HE.out.below hb3
  clear hb3 g3
  have g4 := HE.out.main
  unfold sentV at g4
  go_wp2_with fail
  refine Calls.mono (is_wrap_other p g (er 1) (er 7) _ (HE.out.ne 1 7 (by decide) (by decide) (by decide)) (HE.out.at_ 1 (by decide)) (HE.out.at_ 7 (by decide))) ?_
  rintro e w4 ⟨rfl, hb4⟩
  replace HB : Hid (Below w.heap.size w w4) := HB.out.trans (hb4.mono HB.out.size)
  replace HE : Hid (Err8 w4 er) := HE.out.below hb4
  clear hb4 g4
  go_wp2_with fail
  refine Calls.mono (codeOfCallW1 p g er _ HE.out) ?_
  rintro e w5 ⟨rfl, hb5⟩
  replace HB : Hid (Below w.heap.size w w5) := HB.out.trans (hb5.mono HB.out.size)
  clear hb5
  go_wp2
  go_ret
  exact ⟨rfl, HB.out⟩
set_option maxHeartbeats 4000000 in
set_option maxRecDepth 100000 in
theorem codeOfFaultW2 (p g : List UInt8) (er : Nat → Addr) (w : World) (hE : Err8 w er) :
    Calls Tryz.prog 24 #[.iface 57 (.agg #[.string ⟨p.toArray⟩, .string ⟨g.toArray⟩, .iface 215 (.pointer (some (er 2)))])] w fun e w' => e = .returned (.int .i64 4) ∧ Below w.heap.size w w' := by
  have HE : Hid (Err8 w er) := hE
  have HB : Hid (Below w.heap.size w w) := Below.refl _ _
  clear hE
  go_enter Tryz.func24, Tryz.ntmps24
  have g1 := HE.out.imp
  unfold sentV at g1
  go_wp2_with fail
  refine Calls.mono (is_wrap_other p g (er 2) (er 4) _ (HE.out.ne 2 4 (by decide) (by decide) (by decide)) (HE.out.at_ 2 (by decide)) (HE.out.at_ 4 (by decide))) ?_
  rintro e w1 ⟨rfl, hb1⟩
  replace HB : Hid (Below w.heap.size w w1) := HB.out.trans (hb1.mono HB.out.size)
  replace HE : Hid (Err8 w1 er) := HE.out.below hb1
  clear hb1 g1
  have g2 := HE.out.ring
  unfold sentV at g2
  go_wp2_with fail
  refine Calls.mono (is_wrap_other p g (er 2) (er 5) _ (HE.out.ne 2 5 (by decide) (by decide) (by decide)) (HE.out.at_ 2 (by decide)) (HE.out.at_ 5 (by decide))) ?_
  rintro e w2 ⟨rfl, hb2⟩
  replace HB : Hid (Below w.heap.size w w2) := HB.out.trans (hb2.mono HB.out.size)
  replace HE : Hid (Err8 w2 er) := HE.out.below hb2
  clear hb2 g2
  have g3 := HE.out.arg
  unfold sentV at g3
  go_wp2_with fail
  refine Calls.mono (is_wrap_other p g (er 2) (er 6) _ (HE.out.ne 2 6 (by decide) (by decide) (by decide)) (HE.out.at_ 2 (by decide)) (HE.out.at_ 6 (by decide))) ?_
  rintro e w3 ⟨rfl, hb3⟩
  replace HB : Hid (Below w.heap.size w w3) := HB.out.trans (hb3.mono HB.out.size)
  replace HE : Hid (Err8 w3 er) := HE.out.below hb3
  clear hb3 g3
  have g4 := HE.out.main
  unfold sentV at g4
  go_wp2_with fail
  refine Calls.mono (is_wrap_other p g (er 2) (er 7) _ (HE.out.ne 2 7 (by decide) (by decide) (by decide)) (HE.out.at_ 2 (by decide)) (HE.out.at_ 7 (by decide))) ?_
  rintro e w4 ⟨rfl, hb4⟩
  replace HB : Hid (Below w.heap.size w w4) := HB.out.trans (hb4.mono HB.out.size)
  replace HE : Hid (Err8 w4 er) := HE.out.below hb4
  clear hb4 g4
  go_wp2_with fail
  refine Calls.mono (codeOfCallW2 p g er _ HE.out) ?_
  rintro e w5 ⟨rfl, hb5⟩
  replace HB : Hid (Below w.heap.size w w5) := HB.out.trans (hb5.mono HB.out.size)
  clear hb5
  go_wp2
  go_ret
  exact ⟨rfl, HB.out⟩
set_option maxHeartbeats 4000000 in
set_option maxRecDepth 100000 in
theorem codeOfFaultW3 (p g : List UInt8) (er : Nat → Addr) (w : World) (hE : Err8 w er) :
    Calls Tryz.prog 24 #[.iface 57 (.agg #[.string ⟨p.toArray⟩, .string ⟨g.toArray⟩, .iface 215 (.pointer (some (er 3)))])] w fun e w' => e = .returned (.int .i64 4) ∧ Below w.heap.size w w' := by
  have HE : Hid (Err8 w er) := hE
  have HB : Hid (Below w.heap.size w w) := Below.refl _ _
  clear hE
  go_enter Tryz.func24, Tryz.ntmps24
  have g1 := HE.out.imp
  unfold sentV at g1
  go_wp2_with fail
  refine Calls.mono (is_wrap_other p g (er 3) (er 4) _ (HE.out.ne 3 4 (by decide) (by decide) (by decide)) (HE.out.at_ 3 (by decide)) (HE.out.at_ 4 (by decide))) ?_
  rintro e w1 ⟨rfl, hb1⟩
  replace HB : Hid (Below w.heap.size w w1) := HB.out.trans (hb1.mono HB.out.size)
  replace HE : Hid (Err8 w1 er) := HE.out.below hb1
  clear hb1 g1
  have g2 := HE.out.ring
  unfold sentV at g2
  go_wp2_with fail
  refine Calls.mono (is_wrap_other p g (er 3) (er 5) _ (HE.out.ne 3 5 (by decide) (by decide) (by decide)) (HE.out.at_ 3 (by decide)) (HE.out.at_ 5 (by decide))) ?_
  rintro e w2 ⟨rfl, hb2⟩
  replace HB : Hid (Below w.heap.size w w2) := HB.out.trans (hb2.mono HB.out.size)
  replace HE : Hid (Err8 w2 er) := HE.out.below hb2
  clear hb2 g2
  have g3 := HE.out.arg
  unfold sentV at g3
  go_wp2_with fail
  refine Calls.mono (is_wrap_other p g (er 3) (er 6) _ (HE.out.ne 3 6 (by decide) (by decide) (by decide)) (HE.out.at_ 3 (by decide)) (HE.out.at_ 6 (by decide))) ?_
  rintro e w3 ⟨rfl, hb3⟩
  replace HB : Hid (Below w.heap.size w w3) := HB.out.trans (hb3.mono HB.out.size)
  replace HE : Hid (Err8 w3 er) := HE.out.below hb3
  clear hb3 g3
  have g4 := HE.out.main
  unfold sentV at g4
  go_wp2_with fail
  refine Calls.mono (is_wrap_other p g (er 3) (er 7) _ (HE.out.ne 3 7 (by decide) (by decide) (by decide)) (HE.out.at_ 3 (by decide)) (HE.out.at_ 7 (by decide))) ?_
  rintro e w4 ⟨rfl, hb4⟩
  replace HB : Hid (Below w.heap.size w w4) := HB.out.trans (hb4.mono HB.out.size)
  replace HE : Hid (Err8 w4 er) := HE.out.below hb4
  clear hb4 g4
  go_wp2_with fail
  refine Calls.mono (codeOfCallW3 p g er _ HE.out) ?_
  rintro e w5 ⟨rfl, hb5⟩
  replace HB : Hid (Below w.heap.size w w5) := HB.out.trans (hb5.mono HB.out.size)
  clear hb5
  go_wp2
  go_ret
  exact ⟨rfl, HB.out⟩
set_option maxHeartbeats 4000000 in
set_option maxRecDepth 100000 in
theorem codeOfFaultE (er : Nat → Addr) (w : World) (hE : Err8 w er) :
    Calls Tryz.prog 24 #[.iface 215 (.pointer (some (er 0)))] w fun e w' => e = .returned (.int .i64 6) ∧ Below w.heap.size w w' := by
  have HE : Hid (Err8 w er) := hE
  have hC := implCodeOfCall (-1) er w hE.four ⟨by decide, by decide⟩
  have hv : cwV er (-1) = .iface 215 (.pointer (some (er 0))) := rfl
  rw [hv] at hC
  have HC : Hid (_) := hC
  clear hE hC hv
  go_enter Tryz.func24, Tryz.ntmps24
  have g1 := HE.out.imp
  unfold sentV at g1
  go_wp2_with fail
  refine Calls.mono (is_other (er 0) (er 4) _ (HE.out.ne 0 4 (by decide) (by decide) (by decide)) (HE.out.at_ 0 (by decide)) (HE.out.at_ 4 (by decide))) ?_
  rintro e w1 ⟨rfl, hw1⟩
  obtain rfl := hw1.symm
  clear hw1 g1
  have g2 := HE.out.ring
  unfold sentV at g2
  go_wp2_with fail
  refine Calls.mono (is_other (er 0) (er 5) _ (HE.out.ne 0 5 (by decide) (by decide) (by decide)) (HE.out.at_ 0 (by decide)) (HE.out.at_ 5 (by decide))) ?_
  rintro e w2 ⟨rfl, hw2⟩
  obtain rfl := hw2.symm
  clear hw2 g2
  have g3 := HE.out.arg
  unfold sentV at g3
  go_wp2_with fail
  refine Calls.mono (is_other (er 0) (er 6) _ (HE.out.ne 0 6 (by decide) (by decide) (by decide)) (HE.out.at_ 0 (by decide)) (HE.out.at_ 6 (by decide))) ?_
  rintro e w3 ⟨rfl, hw3⟩
  obtain rfl := hw3.symm
  clear hw3 g3
  have g4 := HE.out.main
  unfold sentV at g4
  go_wp2_with fail
  refine Calls.mono (is_other (er 0) (er 7) _ (HE.out.ne 0 7 (by decide) (by decide) (by decide)) (HE.out.at_ 0 (by decide)) (HE.out.at_ 7 (by decide))) ?_
  rintro e w4 ⟨rfl, hw4⟩
  obtain rfl := hw4.symm
  clear hw4 g4
  go_wp2_with fail
  refine Calls.mono HC.out ?_
  rintro e w5 ⟨rfl, hw5⟩
  obtain rfl := hw5.symm
  go_wp2
  go_ret
  exact ⟨rfl, Below.refl _ _⟩
theorem implCodeOfFault (c : Int) (k : Nat) (hk : KindIs c k) (p g : List UInt8) (er : Nat → Addr) (w : World) (hE : Err8 w er) :
    Calls Tryz.prog 24 #[.iface 57 (.agg #[.string ⟨p.toArray⟩, .string ⟨g.toArray⟩, .iface 215 (.pointer (some (er k)))])] w fun e w' => e = .returned (.int .i64 c) ∧ Below w.heap.size w w' := by
  rcases hk with ⟨rfl, rfl⟩ | ⟨rfl, rfl⟩ | ⟨rfl, rfl⟩ | ⟨rfl, h1, h3⟩ | ⟨rfl, rfl⟩
  · exact codeOfFaultW4 p g er w hE
  · exact codeOfFaultW5 p g er w hE
  · exact codeOfFaultW6 p g er w hE
  · rcases (show k = 1 ∨ k = 2 ∨ k = 3 by omega) with rfl | rfl | rfl
    · exact codeOfFaultW1 p g er w hE
    · exact codeOfFaultW2 p g er w hE
    · exact codeOfFaultW3 p g er w hE
  · exact codeOfFaultW7 p g er w hE

end Go.Proofs.YtdjglpcllcjcfaaGreatDoor

/-! The contract of chapter 9's landed FaultOf. -/
namespace Go.Proofs.YtdjglpcllcjcfaaGreatDoor
open Go.RowKit

/-- What a fault tells is short. -/
def SmallF (F : Flt) : Prop := F.2.1.length ≤ 1048576 ∧ F.2.2.length ≤ 1048576
theorem fnsGo_small {ps : List Pk} {p : Pk} (hp : p.1.length ≤ 1048576) : ∀ (fs : List Fn) (k : Nat), (∀ f ∈ fs, f.1.length ≤ 1048576) → ∀ F, fnsGo ps p fs k = some F → SmallF F
  | [], _, _, F, h => by simp [fnsGo] at h
  | f :: r, k, hf, F, h => by
    rw [fnsGo] at h
    split at h
    · injection h with h
      subst h
      exact ⟨hp, hf f List.mem_cons_self⟩
    · exact fnsGo_small hp r (k + 1) (fun q hq => hf q (List.mem_cons_of_mem _ hq)) F h
theorem pk9_small {ps : List Pk} (hs : ShortPs ps) {dn i j : Nat} {F : Flt} (h : pk9 ps dn i (ps.getD j pk0) = some F) : SmallF F := by
  have hj := hs j
  unfold pk9 at h
  split at h
  · injection h with h; subst h; exact ⟨hj.1, by simp⟩
  · split at h
    · injection h with h; subst h; exact ⟨hj.1, by simp⟩
    · have hfs := hj.2.2.2.2
      refine fnsGo_small hj.1 _ 0 (fun f hf => ?_) F h
      generalize (ps.getD j pk0).2.2 = fs at hf hfs
      obtain ⟨q, hq, e⟩ := List.mem_iff_getElem.1 hf
      have h1 := (hfs q).1
      have e1 : fs.getD q fn0 = fs[q] := by simp [List.getD, hq]
      rw [e1, e] at h1
      exact h1
theorem fltGo_small {ps : List Pk} (hs : ShortPs ps) {dn : Nat} : ∀ (l : List (List UInt8)) (i : Nat) (F : Flt), fltGo ps dn l i = some F → SmallF F
  | [], _, F, h => by simp [fltGo] at h
  | x :: r, i, F, h => by
    rw [fltGo] at h
    cases hp : pk9 ps dn i (pkOf ps x) with
    | none => rw [hp] at h; exact fltGo_small hs r (i + 1) F h
    | some G =>
      rw [hp] at h
      injection h with h
      subst h
      exact pk9_small (j := (at8 ps x).toNat) hs hp
theorem fault_small {ps : List Pk} (hs : ShortPs ps) : SmallF (faultV ps) := by
  unfold faultV
  split
  · unfold fault9
    split
    · rename_i f hf
      exact fltGo_small hs _ _ f hf
    · unfold main9
      split
      · exact ⟨by simp, by simp⟩
      · exact ⟨by simp [mainT], by simp [mainT]⟩
  · exact ⟨by simp, by simp⟩

/-- A block of three cells that can be written. -/
structure Bx (Z : World) (k : Nat) (a b c : Value) : Prop where
  box : Box3 Z k a b c
  fr : ∀ j, Z.frozen? ⟨k, j, none⟩ = false
theorem Bx.new (w : World) (a b c : Value) (t : TypeId) : Bx (w.alloc (.cells #[a, b, c] t)) w.heap.size a b c ∧ Below w.heap.size w (w.alloc (.cells #[a, b, c] t)) := by
  obtain ⟨h1, h2⟩ := Box3.new w a b c t
  exact ⟨⟨h1, fun j => World.frozen?_alloc_at _ _ _ _ rfl⟩, h2⟩
theorem Bx.below {Z Y : World} {k : Nat} {a b c : Value} (h : Bx Z k a b c) (hb : Below Z.heap.size Z Y) : Bx Y k a b c := ⟨h.box.below hb, fun j => (hb.frozen (p := ⟨k, j, none⟩) h.box.lt).trans (h.fr j)⟩
theorem Bx.keep {Z Y : World} {k : Nat} {a b c : Value} (h : Bx Z k a b c) (e : Y.heap[k]? = Z.heap[k]?) : Bx Y k a b c := ⟨h.box.keep e, fun j => by have := h.fr j; simp only [World.frozen?] at this ⊢; rw [e]; exact this⟩
theorem Bx.row {Z : World} {k T : Nat} {a b c : Value} (h : Bx Z k a b c) (hk : k ≠ T) (cs : Array Value) : Bx (Z.setRow T cs) k a b c := h.keep (setRow_other Z T k cs hk)
theorem Bx.far {Z : World} {k g o : Nat} {a b c : Value} (h : Bx Z k a b c) (hk : g ≠ k) (v : Value) : Bx (Z.setCell ⟨g, o, none⟩ v) k a b c :=
  ⟨⟨(World.cell?_setCell_far Z ⟨g, o, none⟩ ⟨k, 0, none⟩ v hk).trans h.box.c0, (World.cell?_setCell_far Z ⟨g, o, none⟩ ⟨k, 1, none⟩ v hk).trans h.box.c1, (World.cell?_setCell_far Z ⟨g, o, none⟩ ⟨k, 2, none⟩ v hk).trans h.box.c2⟩, fun j => by simpa using h.fr j⟩
theorem Bx.s1 {Z : World} {k : Nat} {a b c : Value} (h : Bx Z k a b c) (v : Value) : Bx (Z.setCell ⟨k, 1, none⟩ v) k a v c :=
  ⟨⟨(World.cell?_setCell_other _ _ _ _ (by simp)).trans h.box.c0, World.cell?_setCell_same _ _ _ h.box.c1, (World.cell?_setCell_other _ _ _ _ (by simp)).trans h.box.c2⟩, fun j => by simpa using h.fr j⟩
theorem Bx.s2 {Z : World} {k : Nat} {a b c : Value} (h : Bx Z k a b c) (v : Value) : Bx (Z.setCell ⟨k, 2, none⟩ v) k a b v :=
  ⟨⟨(World.cell?_setCell_other _ _ _ _ (by simp)).trans h.box.c0, (World.cell?_setCell_other _ _ _ _ (by simp)).trans h.box.c1, World.cell?_setCell_same _ _ _ h.box.c2⟩, fun j => by simpa using h.fr j⟩
theorem Bx.f {Z : World} {k : Nat} (h : Bx Z k (.int .i64 0) (.string ⟨#[]⟩) (.string ⟨#[]⟩)) : FBox Z k := ⟨h.box, h.fr⟩

set_option maxHeartbeats 8000000 in
set_option maxRecDepth 100000 in
theorem implFaultOf (a : Option Addr) (len cap : Nat) (ps : List Pk) (er : Nat → Addr) (w : World) (hE : Err8 w er) (h : PkgsOk w a len cap ps) :
    Calls Tryz.prog 7 #[.slice a len cap] w fun e w' => e = .returned (fltVal (faultV ps)) ∧ Below w.heap.size w w' := by
  obtain ⟨hs1, hs2⟩ := fault_small h.short
  obtain ⟨bD, hb0⟩ := Bx.new w (.int .i64 0) (.string ⟨#[]⟩) (.string ⟨#[]⟩) 27
  obtain ⟨W0, hW0⟩ : ∃ W0, w.alloc (.cells #[.int .i64 0, .string ⟨#[]⟩, .string ⟨#[]⟩] 27) = W0 := ⟨_, rfl⟩
  obtain ⟨D, hD⟩ : ∃ D, w.heap.size = D := ⟨_, rfl⟩
  rw [hW0] at bD hb0
  rw [hD] at bD hb0
  have hDw : w.heap.size ≤ D := Nat.le_of_eq hD
  have HPr : Hid (_) := implProjectWrong a len cap ps er W0 (hE.below (by rw [hD]; exact hb0)) (h.below (by rw [hD]; exact hb0))
  have HEr : Hid (Err8 W0 er) := hE.below (by rw [hD]; exact hb0)
  have hsz : D < W0.heap.size := bD.box.lt
  have HB0 : Hid (Below D w W0) := hb0
  have HD : Hid (Bx W0 D (.int .i64 0) (.string ⟨#[]⟩) (.string ⟨#[]⟩)) := bD
  obtain ⟨F, hF⟩ : ∃ F, faultV ps = F := ⟨_, rfl⟩
  rw [hF] at HPr hs1 hs2 ⊢
  clear bD hb0 hE h hF
  go_enter Tryz.func7, Tryz.ntmps7
  go_wp2_with fail
  refine Calls.mono HPr.out ?_
  rintro e w1 ⟨v, rfl, hv, hb1⟩
  have bD := HD.out.below hb1
  have HE1 : Hid (Err8 w1 er) := HEr.out.below hb1
  have hB1 : Below D w w1 := HB0.out.trans (hb1.mono (Nat.le_of_lt hsz))
  have hs1w : D < w1.heap.size := bD.box.lt
  clear HPr HEr HB0 HD hb1
  rcases hv with ⟨rfl, rfl⟩ | ⟨rfl, rfl⟩ | ⟨c, p, g, k, rfl, hk, rfl⟩
  · obtain ⟨Y, hY, y0, y1, y2, hbY⟩ := bD.f.put (w := w) (by rw [hD]; exact hB1) hDw (0, [], [])
    simp only at hY y0 y1 y2
    have f0 := bD.fr 0
    have f1 := bD.fr 1
    have f2 := bD.fr 2
    have d0 := bD.box.c0
    have d1 := bD.box.c1
    have d2 := bD.box.c2
    clear bD hB1
    go_wp2
    refine bodyPost_ret (v := fltVal (0, [], [])) (by unfold fltVal; simp [results, Tryz.results7, go_sem, y0, y1, y2]) rfl ?_
    exact ⟨rfl, hbY⟩
  · go_wp2_with fail
    refine Calls.mono (codeOfFaultE er _ HE1.out) ?_
    rintro e w2 ⟨rfl, hb2⟩
    have bD2 := bD.below hb2
    have hB2 : Below D w w2 := hB1.trans (hb2.mono (Nat.le_of_lt hs1w))
    obtain ⟨E, hEe⟩ : ∃ E, w2.heap.size = E := ⟨_, rfl⟩
    have hDE : D < E := by rw [← hEe]; exact bD2.box.lt
    obtain ⟨bE, hbE⟩ := Bx.new w2 (.int .i64 6) (.string ⟨#[]⟩) (.string ⟨#[]⟩) 27
    obtain ⟨bT, hbT⟩ := Bx.new (w2.alloc (.cells #[.int .i64 6, .string ⟨#[]⟩, .string ⟨#[]⟩] 27)) (.string ⟨#[]⟩) (.string ⟨#[]⟩) .nilIface 57
    have hT := heap_alloc_new (w2.alloc (.cells #[.int .i64 6, .string ⟨#[]⟩, .string ⟨#[]⟩] 27)) (.cells #[.string ⟨#[]⟩, .string ⟨#[]⟩, .nilIface] 57)
    have hsz1 : (w2.alloc (.cells #[.int .i64 6, .string ⟨#[]⟩, .string ⟨#[]⟩] 27)).heap.size = E + 1 := by rw [← hEe]; simp
    rw [hEe] at bE
    rw [hsz1] at bT hT
    have bE2 := bE.below hbT
    have bD4 := (bD2.below hbE).below hbT
    have HE4 : Hid (Err8 ((w2.alloc (.cells #[.int .i64 6, .string ⟨#[]⟩, .string ⟨#[]⟩] 27)).alloc (.cells #[.string ⟨#[]⟩, .string ⟨#[]⟩, .nilIface] 57)) er) := ((HE1.out.below hb2).below hbE).below hbT
    have hB4 : Below D w ((w2.alloc (.cells #[.int .i64 6, .string ⟨#[]⟩, .string ⟨#[]⟩] 27)).alloc (.cells #[.string ⟨#[]⟩, .string ⟨#[]⟩, .nilIface] 57)) := (hB2.trans (hbE.mono (by omega))).trans (hbT.mono (by rw [hsz1]; omega))
    have hsz4 : D < ((w2.alloc (.cells #[.int .i64 6, .string ⟨#[]⟩, .string ⟨#[]⟩] 27)).alloc (.cells #[.string ⟨#[]⟩, .string ⟨#[]⟩, .nilIface] 57)).heap.size := bD4.box.lt
    have gE := HE4.out.ety
    have HAs : Hid (_) := as_miss (er 0) ⟨E + 1, 0, none⟩ _ gE
    clear bD bD2 bE bT hT hbE hbT hB1 hB2 hb2 HE1
    go_wp2_with fail
    refine Calls.mono HAs.out ?_
    rintro e w3 ⟨rfl, hb3⟩
    have bE3 := bE2.below hb3
    have bD3 := bD4.below hb3
    have hB3 : Below D w w3 := hB4.trans (hb3.mono (Nat.le_of_lt hsz4))
    obtain ⟨Y, hY, y0, y1, y2, hbY⟩ := bD3.f.put (w := w) (by rw [hD]; exact hB3) hDw (6, [], [])
    simp only at hY y0 y1 y2
    have f0 := bD3.fr 0
    have f1 := bD3.fr 1
    have f2 := bD3.fr 2
    have d0 := bD3.box.c0
    have d1 := bD3.box.c1
    have d2 := bD3.box.c2
    have e0 := bE3.box.c0
    have e1 := bE3.box.c1
    have e2 := bE3.box.c2
    clear bE2 bE3 bD4 bD3 hB3 hB4 hb3 gE HE4 HAs
    go_wp2
    refine bodyPost_ret (v := fltVal (6, [], [])) (by unfold fltVal; simp [results, Tryz.results7, go_sem, y0, y1, y2]) rfl ?_
    exact ⟨rfl, hbY⟩
  · have HC : Hid (_) := implCodeOfFault c k hk p g er w1 HE1.out
    clear hk
    go_wp2_with fail
    refine Calls.mono HC.out ?_
    rintro e w2 ⟨rfl, hb2⟩
    have bD2 := bD.below hb2
    have hB2 : Below D w w2 := hB1.trans (hb2.mono (Nat.le_of_lt hs1w))
    obtain ⟨E, hEe⟩ : ∃ E, w2.heap.size = E := ⟨_, rfl⟩
    have hDE : D < E := by rw [← hEe]; exact bD2.box.lt
    obtain ⟨bE, hbE⟩ := Bx.new w2 (.int .i64 c) (.string ⟨#[]⟩) (.string ⟨#[]⟩) 27
    obtain ⟨bT, hbT⟩ := Bx.new (w2.alloc (.cells #[.int .i64 c, .string ⟨#[]⟩, .string ⟨#[]⟩] 27)) (.string ⟨#[]⟩) (.string ⟨#[]⟩) .nilIface 57
    have hT := heap_alloc_new (w2.alloc (.cells #[.int .i64 c, .string ⟨#[]⟩, .string ⟨#[]⟩] 27)) (.cells #[.string ⟨#[]⟩, .string ⟨#[]⟩, .nilIface] 57)
    have hsz1 : (w2.alloc (.cells #[.int .i64 c, .string ⟨#[]⟩, .string ⟨#[]⟩] 27)).heap.size = E + 1 := by rw [← hEe]; simp
    rw [hEe] at bE
    rw [hsz1] at bT hT
    have bE2 := bE.below hbT
    have bD4 := (bD2.below hbE).below hbT
    have HE4 : Hid (Err8 ((w2.alloc (.cells #[.int .i64 c, .string ⟨#[]⟩, .string ⟨#[]⟩] 27)).alloc (.cells #[.string ⟨#[]⟩, .string ⟨#[]⟩, .nilIface] 57)) er) := ((HE1.out.below hb2).below hbE).below hbT
    have hB4 : Below D w ((w2.alloc (.cells #[.int .i64 c, .string ⟨#[]⟩, .string ⟨#[]⟩] 27)).alloc (.cells #[.string ⟨#[]⟩, .string ⟨#[]⟩, .nilIface] 57)) := (hB2.trans (hbE.mono (by omega))).trans (hbT.mono (by rw [hsz1]; omega))
    have hsz4 : D < ((w2.alloc (.cells #[.int .i64 c, .string ⟨#[]⟩, .string ⟨#[]⟩] 27)).alloc (.cells #[.string ⟨#[]⟩, .string ⟨#[]⟩, .nilIface] 57)).heap.size := bD4.box.lt
    have gE := HE4.out.ety
    have HAs : Hid (_) := as_hit p g (er k) (E + 1) 57 _ _ hT rfl gE
    clear bD bD2 bE bT hT hbE hbT hB1 hB2 hb2 HE1 HC
    go_wp2_with fail
    refine Calls.mono HAs.out ?_
    rintro e w3 ⟨rfl, w0, hb3, ho0, hw3⟩
    have bE3 := (bE2.below hb3).row (T := E + 1) (by omega) #[.string ⟨p.toArray⟩, .string ⟨g.toArray⟩, .iface 215 (.pointer (some (er k)))]
    have bD3 := (bD4.below hb3).row (T := E + 1) (by omega) #[.string ⟨p.toArray⟩, .string ⟨g.toArray⟩, .iface 215 (.pointer (some (er k)))]
    have hT3 := setRow_heap w0 (E + 1) _ #[.string ⟨p.toArray⟩, .string ⟨g.toArray⟩, .iface 215 (.pointer (some (er k)))] _ _ ho0
    have hB3 : Below D w (w0.setRow (E + 1) #[.string ⟨p.toArray⟩, .string ⟨g.toArray⟩, .iface 215 (.pointer (some (er k)))]) := below_setRow (hB4.trans (hb3.mono (Nat.le_of_lt hsz4))) (by omega) _
    rw [← hw3] at bE3 bD3 hT3 hB3
    have t0 : w3.cell? ⟨E + 1, 0, none⟩ = some (.string ⟨p.toArray⟩) := by simp [World.cell?, hT3]
    have t1 : w3.cell? ⟨E + 1, 1, none⟩ = some (.string ⟨g.toArray⟩) := by simp [World.cell?, hT3]
    have hs3 : D < w3.heap.size := bD3.box.lt
    have hTl : E + 1 < w3.heap.size := World.block_lt_of_cell? w3 ⟨E + 1, 0, none⟩ t0
    clear hw3 ho0 hT3 bE2 bD4 hB4 gE HE4 HAs hb3 hsz4
    clear w0
    go_wp2_with fail
    refine Calls.mono (stringsClone p _ hs1) ?_
    rintro e w4 ⟨rfl, hb4⟩
    have bE4 := bE3.below hb4
    have bD5 := (bD3.below hb4).far (g := E) (o := 1) (by omega) (.string ⟨p.toArray⟩)
    have t14 := (World.cell?_setCell_far w4 ⟨E, 1, none⟩ ⟨E + 1, 1, none⟩ (.string ⟨p.toArray⟩) (by simp)).trans ((hb4.cell (p := ⟨E + 1, 1, none⟩) hTl).trans t1)
    have hB4 : Below D w w4 := hB3.trans (hb4.mono (Nat.le_of_lt hs3))
    have bE5 := bE4.s1 (.string ⟨p.toArray⟩)
    have hB5 : Below D w (w4.setCell ⟨E, 1, none⟩ (.string ⟨p.toArray⟩)) := hB4.grown (grown_set w4 E 1 _) (by rw [← hD]; exact hB4.size) (fun q e => by injection e with e; have e2 : E = q := e; omega)
    have fE1 := bE4.fr 1
    have e14 := bE4.box.c1
    obtain ⟨Y1, hY1⟩ : ∃ Y1, w4.setCell ⟨E, 1, none⟩ (.string ⟨p.toArray⟩) = Y1 := ⟨_, rfl⟩
    rw [hY1] at bD5 t14 bE5 hB5
    have hs5 : D < Y1.heap.size := bD5.box.lt
    clear bE4 bE3 bD3 hB3 hB4 t0 t1 hb4
    go_wp2_with fail
    refine Calls.mono (stringsClone g _ hs2) ?_
    rintro e w5 ⟨rfl, hb5⟩
    have bE6 := bE5.below hb5
    have bD7 := (bD5.below hb5).far (g := E) (o := 2) (by omega) (.string ⟨g.toArray⟩)
    have hB6 : Below D w w5 := hB5.trans (hb5.mono (Nat.le_of_lt hs5))
    have bE7 := bE6.s2 (.string ⟨g.toArray⟩)
    have hB7 : Below D w (w5.setCell ⟨E, 2, none⟩ (.string ⟨g.toArray⟩)) := hB6.grown (grown_set w5 E 2 _) (by rw [← hD]; exact hB6.size) (fun q e => by injection e with e; have e2 : E = q := e; omega)
    have fE2 := bE6.fr 2
    have e26 := bE6.box.c2
    obtain ⟨Y2, hY2⟩ : ∃ Y2, w5.setCell ⟨E, 2, none⟩ (.string ⟨g.toArray⟩) = Y2 := ⟨_, rfl⟩
    rw [hY2] at bD7 bE7 hB7
    obtain ⟨Y, hY, y0, y1, y2, hbY⟩ := bD7.f.put (w := w) (by rw [hD]; exact hB7) hDw (c, p, g)
    simp only at hY y0 y1 y2
    have f0 := bD7.fr 0
    have f1 := bD7.fr 1
    have f2 := bD7.fr 2
    have d0 := bD7.box.c0
    have d1 := bD7.box.c1
    have d2 := bD7.box.c2
    have e0 := bE7.box.c0
    have e1 := bE7.box.c1
    have e2 := bE7.box.c2
    clear bE5 bE6 bE7 bD5 bD7 hB5 hB6 hB7 hb5 t14 fE1 e14
    go_wp2
    refine bodyPost_ret (v := fltVal (c, p, g)) (by unfold fltVal; simp [results, Tryz.results7, go_sem, y0, y1, y2]) rfl ?_
    exact ⟨rfl, hbY⟩

end Go.Proofs.YtdjglpcllcjcfaaGreatDoor

/-! The functions of this program that are the library's are the ones that the library has contracts of: number by number, type by type; and these contracts, at this program. -/
namespace Go.Proofs
open Go.Shelf
def Tryz.laysM173_ren : Go.Shelf.Ren := ⟨fun | 173 => 29 | 246 => 62 | 283 => 100 | 284 => 101 | 285 => 102 | 286 => 103 | 129 => 121 | 317 => 120 | 318 => 122 | 319 => 123 | 320 => 124 | 337 => 134 | 338 => 135 | n => n, fun | 2 => 2 | 3 => 3 | 9 => 9 | 4 => 4 | 171 => 144 | 0 => 0 | 53 => 145 | 37 => 22 | 5 => 5 | 173 => 148 | 212 => 179 | 51 => 180 | 20 => 20 | 213 => 181 | 46 => 183 | 232 => 211 | 233 => 212 | n => n, fun | 17 => 9 | 18 => 10 | 19 => 11 | n => n⟩
theorem Tryz.laysM173 : Go.Proofs.LaysM.n173 Tryz.prog Tryz.laysM173_ren := {
  mixed := by kernel_rfl
  f129 := Tryz.func121.trans (congrArg some (by kernel_rfl))
  f173 := Tryz.func29.trans (congrArg some (by kernel_rfl))
  f246 := Tryz.func62.trans (congrArg some (by kernel_rfl))
  f283 := Tryz.func100.trans (congrArg some (by kernel_rfl))
  f284 := Tryz.func101.trans (congrArg some (by kernel_rfl))
  f285 := Tryz.func102.trans (congrArg some (by kernel_rfl))
  f286 := Tryz.func103.trans (congrArg some (by kernel_rfl))
  f317 := Tryz.func120.trans (congrArg some (by kernel_rfl))
  f318 := Tryz.func122.trans (congrArg some (by kernel_rfl))
  f319 := Tryz.func123.trans (congrArg some (by kernel_rfl))
  f320 := Tryz.func124.trans (congrArg some (by kernel_rfl))
  f337 := Tryz.func134.trans (congrArg some (by kernel_rfl))
  f338 := Tryz.func135.trans (congrArg some (by kernel_rfl))
  t0 := Tryz.underlying0
  a0 := Tryz.isAgg0
  z0 := Tryz.sizeOf0
  v0 := Tryz.zeroValue0
  t2 := Tryz.underlying2
  a2 := Tryz.isAgg2
  z2 := Tryz.sizeOf2
  v2 := Tryz.zeroValue2
  t3 := Tryz.underlying3
  a3 := Tryz.isAgg3
  z3 := Tryz.sizeOf3
  v3 := Tryz.zeroValue3
  t4 := Tryz.underlying4
  a4 := Tryz.isAgg4
  z4 := Tryz.sizeOf4
  v4 := Tryz.zeroValue4
  t5 := Tryz.underlying5
  a5 := Tryz.isAgg5
  z5 := Tryz.sizeOf5
  v5 := Tryz.zeroValue5
  t9 := Tryz.underlying9
  a9 := Tryz.isAgg9
  z9 := Tryz.sizeOf9
  v9 := Tryz.zeroValue9
  t20 := Tryz.underlying20
  a20 := Tryz.isAgg20
  z20 := Tryz.sizeOf20
  v20 := Tryz.zeroValue20
  t37 := Tryz.underlying22
  a37 := Tryz.isAgg22
  z37 := Tryz.sizeOf22
  v37 := Tryz.zeroValue22
  t46 := Tryz.underlying183
  a46 := Tryz.isAgg183
  z46 := Tryz.sizeOf183
  v46 := Tryz.zeroValue183
  t51 := Tryz.underlying180
  a51 := Tryz.isAgg180
  z51 := Tryz.sizeOf180
  v51 := Tryz.zeroValue180
  t53 := Tryz.underlying145
  a53 := Tryz.isAgg145
  z53 := Tryz.sizeOf145
  v53 := Tryz.zeroValue145
  t171 := Tryz.underlying144
  a171 := Tryz.isAgg144
  z171 := Tryz.sizeOf144
  v171 := Tryz.zeroValue144
  t173 := Tryz.underlying148
  a173 := Tryz.isAgg148
  z173 := Tryz.sizeOf148
  v173 := Tryz.zeroValue148
  t212 := Tryz.underlying179
  a212 := Tryz.isAgg179
  z212 := Tryz.sizeOf179
  v212 := Tryz.zeroValue179
  t213 := Tryz.underlying181
  a213 := Tryz.isAgg181
  z213 := Tryz.sizeOf181
  t232 := Tryz.underlying211
  a232 := Tryz.isAgg211
  z232 := Tryz.sizeOf211
  v232 := Tryz.zeroValue211
  t233 := Tryz.underlying212
  a233 := Tryz.isAgg212
  z233 := Tryz.sizeOf212
  v233 := Tryz.zeroValue212
  g17 := by kernel_rfl
  g18 := by kernel_rfl
  g19 := by kernel_rfl
  i0 := by kernel_rfl
  i2 := by kernel_rfl
  i3 := by kernel_rfl
  i4 := by kernel_rfl
  i5 := by kernel_rfl
  i9 := by kernel_rfl
  i20 := by kernel_rfl
  i37 := by kernel_rfl
  i46 := by kernel_rfl
  i51 := by kernel_rfl
  i53 := by kernel_rfl
  i171 := by kernel_rfl
  i173 := by kernel_rfl
  i212 := by kernel_rfl
  i232 := by kernel_rfl
  i233 := by kernel_rfl
  m17 := by kernel_rfl
  m18 := by kernel_rfl
  m19 := by kernel_rfl }
open Go.RowKit Go.Sort Go.Lib in
/-- strconv.FormatInt: "FormatInt returns the string representation of i in the given base": AT BASE 10: i's decimal numeral, for every int64. (LAID: no walk: one application.) -/
theorem Tryz.strconv_FormatInt_10 (n : Int) (h0 : -9223372036854775808 ≤ n) (h1 : n ≤ 9223372036854775807) (w : World) (htab : Lib.TabIs Tryz.prog w "internal/strconv.uint64pow10" .u64 Lib.pow10Tab) :
    Calls Tryz.prog 29 #[.int .i64 n, .int .i64 10] w fun e w' => e = .returned (.string ⟨(Lib.itoa n).toArray⟩) ∧ ∃ k os, w' = grow (w.drewN k) os := Any.strconv_FormatInt_10 Tryz.laysM173 n h0 h1 w htab
end Go.Proofs

/-! The contracts of chapter 6's landed code: what a shape is written as. -/
namespace Go.Proofs.YtdjglpcllcjcfaaGreatDoor
open Go.RowKit

/-- The library's table of powers of ten lies as its text lays it. -/
def PowIs (w : World) : Prop := Lib.TabIs Tryz.prog w "internal/strconv.uint64pow10" .u64 Lib.pow10Tab
theorem powAt : (Tryz.prog.globalNamed "internal/strconv.uint64pow10").isSome = true := by kernel_rfl
theorem powTy : (Tryz.prog.globalNamed "internal/strconv.uint64pow10").bind (fun g => (Tryz.prog.globals[g]?).map (·.type)) = some 179 := by kernel_rfl
/-- A listed variable that reads as the table holds it. -/
theorem pow_of_cells {W : World} {g : Nat} {t : TypeId} {cs : Array Value} {fuel : Nat} {p : List MemPlace} (hg : Tryz.prog.globalNamed "internal/strconv.uint64pow10" = some g) (ht : (Tryz.prog.globals[g]?).map (·.type) = some t)
    (hv : W.var? Tryz.prog "internal/strconv.uint64pow10" = some cs) (hd : DataW.trod (fun _ => ()) Tryz.prog W 0 (fun _ => true) false fuel t cs.toList = some (Lib.tabData .u64 Lib.pow10Tab, p)) : PowIs W := by
  have h1 := powTy
  rw [hg, Option.bind_some, ht] at h1
  obtain rfl := Option.some.inj h1
  unfold PowIs Lib.TabIs
  rw [hv, ← Lib.cells_of_tab Tryz.underlying179 Tryz.underlying145 (by kernel_rfl) (by kernel_rfl) hd]
theorem PowIs.below {w w' : World} (h : PowIs w) (hb : Below w.heap.size w w') : PowIs w' := by
  obtain ⟨g, hg⟩ := Option.isSome_iff_exists.1 powAt
  exact Go.Joins.tab_stays hg h hb (Nat.le_refl _)
theorem PowIs.drew {w : World} (h : PowIs w) : PowIs w.drew := h

theorem fmtInt (n : Int) (w : World) (ht : PowIs w) (h0 : -2147483648 ≤ n) (h1 : n ≤ 2147483647) :
    Calls Tryz.prog 29 #[.int .i64 n, .int .i64 10] w fun e w' => e = .returned (.string ⟨(intL n).toArray⟩) ∧ Below w.heap.size w w' := by
  refine (Tryz.strconv_FormatInt_10 n (by omega) (by omega) w ht).mono ?_
  rintro e w' ⟨rfl, k, os, rfl⟩
  exact ⟨by rw [itoa_int], Lib.below_grow _ w (Nat.le_refl _) k os⟩


end Go.Proofs.YtdjglpcllcjcfaaGreatDoor
