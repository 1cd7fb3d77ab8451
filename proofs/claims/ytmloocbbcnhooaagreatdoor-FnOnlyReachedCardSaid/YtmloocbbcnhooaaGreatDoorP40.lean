/-
  Parts of one proof, one behind the other: Draw10N.
-/
import Derived.Test.YtmloocbbcnhooaaGreatDoorP39
import Derived.Test.YtmloocbbcnhooaaGreatDoorP38

/-! DrawBurnt. -/
namespace Go.Proofs.YtmloocbbcnhooaaGreatDoor
open Go.RowKit

set_option maxHeartbeats 1000000 in
set_option maxRecDepth 100000 in
theorem drawBurnt (w : World) (a : Option Addr) (len cap : Nat) (hl : len ≤ 4096) (hc : Code w w.heap.size a len) :
    Calls Tryz.prog 14 #[.slice a len cap] w fun e w' => ∃ v s fn u xs fuel, e = .returned (.tuple #[v, .string ⟨(s : List UInt8).toArray⟩, .string ⟨(fn : List UInt8).toArray⟩, u, .int .i64 fuel]) ∧ Drawn10 w w' v s fn u xs fuel := by
  go_enter Tryz.func14, Tryz.ntmps14
  go_wp2_with fail
  refine (drawMeant w a len cap hl hc).mono ?_
  rintro e w2 ⟨v, s, fn, u, xs, fuel, rfl, h⟩
  obtain ⟨g, c, rfl⟩ := h.2.2.2.1
  obtain ⟨la, n, lc, ps, rfl, _⟩ := h.2.2.2.2.2.2.2
  have HD : Hid (Drawn10 w w2 (.slice la n lc) s fn (.slice (some ⟨g, 0, none⟩) xs.length c) xs fuel) := h
  clear h
  go_wp2_with fail
  refine bodyPost_ret (v := .tuple #[.slice la n lc, .string ⟨s.toArray⟩, .string ⟨fn.toArray⟩, .slice (some ⟨g, 0, none⟩) xs.length c, .int .i64 fuel]) (by simp [results, Tryz.results14, go_sem]) rfl ?_
  exact ⟨_, s, fn, _, xs, fuel, rfl, HD.out⟩

end Go.Proofs.YtmloocbbcnhooaaGreatDoor
