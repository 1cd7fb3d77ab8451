/-
  The contracts of DrawTreeOk, DrawShowTree, DrawEndOf, DrawPartsOf, DrawReadTree.
-/
import Derived.Test.YtjkfjenhocaljaaDrawTr3
import Derived.Test.YtjkfjenhocaljaaBend2
namespace Go.Proofs.Ytjkfjenhocaljaa
open Go.RowKit

/-- A drawn list, as a law has it. -/
def Drawn6 (w wx : World) (v : Value) (ns : List Nd) : Prop := wx.ownsRow w.heap.size 33 4 v ns.length (nodesV ns) ∧ ns.length ≤ 62 ∧ SmallT ns ∧ EndsOk ns

theorem showT_len {ns : List Nd} : (showT ns).length ≤ 1860 := by
  unfold showT
  split
  · rename_i h
    have h1 := showL_len ns (tree_nodes h)
    have h2 := (tree_end h).1.2
    omega
  · simp



set_option maxHeartbeats 1000000 in
set_option maxRecDepth 100000 in
theorem drawEndOf (w : World) (a : Option Addr) (len cap : Nat) (hl : len ≤ 4096) (hc : Code w w.heap.size a len) :
    Calls Try.prog 31 #[.slice a len cap] w fun e w' => ∃ v ns x, e = .returned (.tuple #[v, .int .i64 x]) ∧ Drawn6 w w' v ns ∧ -1 ≤ x ∧ x ≤ 10 ∧ Below w.heap.size w w' := by
  go_enter Try.func31, Try.ntmps31
  go_wp2_with fail
  refine (drawNew _ a len cap hl hc).mono ?_
  rintro e w1 ⟨rfl, hc1, hg1⟩
  have hb1 : Below w.heap.size w w1 := (Below.refl _ _).grown hg1 (Nat.le_refl _) (by simp)
  have hs1 := hc1.lt
  clear hg1
  go_wp2_with fail
  refine (drawAny6 _ _ a len cap hc1).mono ?_
  rintro e w2 ⟨v, rfl, ns, hown, hl2, hs, he, hc2, hg2⟩
  have hvl := own_ge hown
  have hb2 : Below w.heap.size w w2 := hb1.grown hg2 hb1.size (by simp)
  clear hc1 hg2
  go_wp2_with fail
  refine (drawFromG _ _ a len cap (-1) 10 (by omega) (by omega) (by omega) hc2).mono ?_
  rintro e w5 ⟨x5, rfl, hx50, hx51, hc5, hg5⟩
  have hown5 : w5.ownsRow w1.heap.size 33 4 v ns.length (nodesV ns) := hown.kept hg5 (own_ne4 (fun q e1 e2 => by have := hvl q e1; omega))
  have hb5 : Below w.heap.size w w5 := hb2.grown hg5 hb2.size (by simp)
  have hD : Hid (Drawn6 w w5 v ns) := ⟨own_base hown5 hb1.size, hl2, hs, he⟩
  clear hown hown5 hg5 hc2 hc5 hb2
  go_wp2
  go_ret2
  exact ⟨v, ns, x5, rfl, hD.out, hx50, hx51, hb5⟩

set_option maxHeartbeats 1000000 in
set_option maxRecDepth 100000 in
theorem drawPartsOf (w : World) (a : Option Addr) (len cap : Nat) (hl : len ≤ 4096) (hc : Code w w.heap.size a len) :
    Calls Try.prog 10 #[.slice a len cap] w fun e w' => ∃ v ns x, e = .returned (.tuple #[v, .int .i64 x]) ∧ Drawn6 w w' v ns ∧ -1 ≤ x ∧ x ≤ 10 ∧ Below w.heap.size w w' := by
  go_enter Try.func10, Try.ntmps10
  go_wp2_with fail
  refine (drawEndOf _ a len cap hl hc).mono ?_
  rintro e w2 ⟨v, ns, x, rfl, hd, h0, h1, hb2⟩
  have hD : Hid (Drawn6 w w2 v ns) := hd
  clear hd
  go_wp2
  go_ret2
  exact ⟨v, ns, x, rfl, hD.out, h0, h1, hb2⟩


end Go.Proofs.Ytjkfjenhocaljaa
