/-
  The contracts of DrawTreeOk, DrawShowTree, DrawEndOf, DrawPartsOf, DrawReadTree.
-/
import Derived.Test.YtjkfjenhocaljaaDoorDrawTr3
import Derived.Test.YtjkfjenhocaljaaDoorBend2
namespace Go.Proofs.YtjkfjenhocaljaaDoor
open Go.RowKit

/-- A drawn list, as a law has it. -/
def Drawn6 (w wx : World) (v : Value) (ns : List Nd) : Prop := wx.ownsRow w.heap.size 31 4 v ns.length (nodesV ns) ∧ ns.length ≤ 62 ∧ SmallT ns ∧ EndsOk ns

theorem showT_len {ns : List Nd} : (showT ns).length ≤ 1860 := by
  unfold showT
  split
  · rename_i h
    have h1 := showL_len ns (tree_nodes h)
    have h2 := (tree_end h).1.2
    omega
  · simp

set_option maxHeartbeats 1000000 in
set_option maxRecDepth 100000 in
theorem drawTreeOkD (w : World) (a : Option Addr) (len cap : Nat) (hl : len ≤ 4096) (hc : Code w w.heap.size a len) :
    Calls Tryd.prog 26 #[.slice a len cap] w fun e w' => ∃ v ns, e = .returned v ∧ Drawn6 w w' v ns ∧ Below w.heap.size w w' := by
  go_enter Tryd.func26, Tryd.ntmps26
  go_wp2_with fail
  refine (drawNew _ a len cap hl hc).mono ?_
  rintro e w1 ⟨rfl, hc1, hg1⟩
  have hb1 : Below w.heap.size w w1 := (Below.refl _ _).grown hg1 (Nat.le_refl _) (by simp)
  clear hg1
  go_wp2_with fail
  refine (drawAny6 _ _ a len cap hc1).mono ?_
  rintro e w2 ⟨v, rfl, ns, hown, hl2, hs, he, hc2, hg2⟩
  have hD : Hid (Drawn6 w w2 v ns) := ⟨own_base hown hb1.size, hl2, hs, he⟩
  have hb2 : Below w.heap.size w w2 := hb1.grown hg2 hb1.size (by simp)
  clear hown hc1 hg2 hb1
  go_wp2
  go_ret
  exact ⟨v, ns, rfl, hD.out, hb2⟩

set_option maxHeartbeats 1000000 in
set_option maxRecDepth 100000 in
theorem drawShowTree (w : World) (a : Option Addr) (len cap : Nat) (hl : len ≤ 4096) (hc : Code w w.heap.size a len) :
    Calls Tryd.prog 7 #[.slice a len cap] w fun e w' => ∃ v ns, e = .returned v ∧ Drawn6 w w' v ns ∧ Below w.heap.size w w' := by
  go_enter Tryd.func7, Tryd.ntmps7
  go_wp2_with fail
  refine (drawTreeOkD _ a len cap hl hc).mono ?_
  rintro e w2 ⟨v, ns, rfl, hd, hb2⟩
  have hD : Hid (Drawn6 w w2 v ns) := hd
  clear hd
  go_wp2
  go_ret
  exact ⟨v, ns, rfl, hD.out, hb2⟩



set_option maxHeartbeats 1000000 in
set_option maxRecDepth 100000 in
theorem drawReadTree (w : World) (a : Option Addr) (len cap : Nat) (hl : len ≤ 4096) (hc : Code w w.heap.size a len) :
    Calls Tryd.prog 9 #[.slice a len cap] w fun e w' => ∃ t : List UInt8, e = .returned (.string ⟨t.toArray⟩) ∧ t.length ≤ 1862 ∧ Below w.heap.size w w' := by
  go_enter Tryd.func9, Tryd.ntmps9
  go_wp2_with fail
  refine (drawNew _ a len cap hl hc).mono ?_
  rintro e w1 ⟨rfl, hc1, hg1⟩
  have hb1 : Below w.heap.size w w1 := (Below.refl _ _).grown hg1 (Nat.le_refl _) (by simp)
  clear hg1
  go_wp2_with fail
  refine (drawAny6 _ _ a len cap hc1).mono ?_
  rintro e w2 ⟨v, rfl, ns, hown, hl2, hs, he, hc2, hg2⟩
  have hb2 : Below w.heap.size w w2 := hb1.grown hg2 hb1.size (by simp)
  obtain ⟨_, a2, c2, rfl, hin2⟩ := own_nodes hown
  have hT : Hid (_) := specShowTree a2 ns.length c2 ns w2 hin2 hs.short (by omega)
  clear hc1 hg2 hb1 hown hin2 hs he
  go_wp2_with fail
  refine Calls.mono hT.out ?_
  rintro e w3 ⟨rfl, hb3⟩
  have hlen := showT_len (ns := ns)
  have hc3 := hc2.below hb3
  have hb4 : Below w.heap.size w w3 := hb2.trans (hb3.mono hb2.size)
  clear hT hb3 hb2 hc2
  generalize showT ns = s at hlen ⊢
  go_wp2_with fail
  refine (drawOnce _ _ a len cap 2 (by omega) (by omega) hc3).mono ?_
  rintro e w4 ⟨o, rfl, hc4, hg4⟩
  have hb5 : Below w.heap.size w w4 := hb4.grown hg4 hb4.size (by simp)
  clear hc3 hg4 hb4
  rcases o with _ | _
  · go_wp2
    go_ret
    exact ⟨s, rfl, by omega, hb5⟩
  · go_wp2_with fail
    refine (drawBend _ _ a len cap s [43, 45, 42, 47, 63, 36, 64, 46, 48, 32, 49] hc4 (by omega) (by simp) (by simp)).mono ?_
    rintro e w5 ⟨l, rfl, hl5, hc5, hg5⟩
    go_wp2
    go_ret
    exact ⟨l, rfl, by omega, hb5.grown hg5 hb5.size (by simp)⟩

end Go.Proofs.YtjkfjenhocaljaaDoor
