/-
  A right tree is drawn, and any list of nodes.
-/
import Derived.Test.YtjkfjenhocaljaaDoorDrawTr
import Derived.Test.YtjkfjenhocaljaaDoorMath6D
namespace Go.Proofs.YtjkfjenhocaljaaDoor
open Go.RowKit

theorem small_at {ns : List Nd} (h : SmallT ns) (j : Nat) : SmallN (ns.getD j nd0) := by
  rw [List.getD_eq_getElem?_getD]
  rcases Nat.lt_or_ge j ns.length with hj | hj
  · rw [List.getElem?_eq_getElem hj]; exact h _ (List.getElem_mem hj)
  · rw [List.getElem?_eq_none hj]; exact ⟨intN_nd0, by decide, by decide⟩

theorem SmallT.short {ns : List Nd} (h : SmallT ns) : ShortT ns := fun j => ⟨Nat.le_trans (small_at h j).2.1 (by omega), Nat.le_trans (small_at h j).2.2 (by omega)⟩
theorem SmallT.int {ns : List Nd} (h : SmallT ns) : IntT ns := fun j => (small_at h j).1

theorem ret_val {u v : Value} (h : u = v) : Ending.returned u = .returned v := by rw [h]

set_option maxHeartbeats 2000000 in
set_option maxRecDepth 100000 in
theorem drawTreeOk (w : World) (B : Nat) (a : Option Addr) (len cap : Nat) (args : Int) (ca : Option Addr) (cl cc : Nat) (calls : List Nd) (ha0 : 0 ≤ args) (ha1 : args ≤ 1000) (hc : Cur w B a len cap) (hin : NodesIn w ca cl calls) (hcl : cl ≤ 1000) (hsm : ∀ j, SmallN (calls.getD j nd0)) (hkd : ∀ j, kidsV (calls.getD j nd0) ≤ 3) (hne : ∀ b off, ca = some ⟨b, off, none⟩ → b ≠ B) :
    Calls Tryd.prog 57 #[.pointer (some ⟨B, 0, none⟩), .int .i64 args, .slice ca cl cc] w fun e w' => ∃ v ns, e = .returned v ∧ w'.ownsRow w.heap.size 31 4 v ns.length (nodesV ns) ∧ treeB ns = true ∧ SmallT ns ∧ Cur w' B a len cap ∧ w.grownBy w' (some B) := by
  have HIN : Hid (NodesIn w ca cl calls) := hin
  have HSM : Hid (∀ j, SmallN (calls.getD j nd0)) := hsm
  have HKD : Hid (∀ j, kidsV (calls.getD j nd0) ≤ 3) := hkd
  have HNE : Hid (∀ b off, ca = some ⟨b, off, none⟩ → b ≠ B) := hne
  clear hin hsm hkd hne
  go_enter Tryd.func57, Tryd.ntmps57
  go_wp2_with fail
  refine (drawBelow _ B a len cap 3 (by omega) (by omega) hc).mono ?_
  rintro e w1 ⟨x1, rfl, h10, h11, hc1, hg1⟩
  obtain ⟨d1, rfl⟩ : ∃ d1 : Nat, x1 = (d1 : Int) := Int.eq_ofNat_of_zero_le h10
  have hin1 : NodesIn w1 ca cl calls := HIN.out.keep hg1.size (fun b off e hlt => hg1.block b hlt (fun e2 => HNE.out b off e (by injection e2)))
  have hC : Hid (_) := drawTree6 (1 + d1) w1 B a len cap args ca cl cc calls (by omega) ha0 ha1 hc1 hin1 hcl HSM.out HKD.out HNE.out
  rw [show ((1 + d1 : Nat) : Int) = 1 + (d1 : Int) by omega] at hC
  clear HIN HSM HKD HNE hin1 hc hc1
  go_wp2_with fail
  refine Calls.mono hC.out ?_
  rintro e w2 ⟨v2, ns, rfl, hown2, hl2, hs2, hc2, hg2⟩
  have hG2 := hg1.trans hg2
  obtain ⟨_, a2, c2, rfl, hin2⟩ := own_nodes hown2
  have hT : Hid (_) := specTreeOk a2 ns.length c2 ns w2 hin2 hs2.short (by omega)
  have hown3 := own_base hown2 hg1.size
  clear hC hg1 hg2 hown2 hin2
  go_wp2_with fail
  refine Calls.mono hT.out ?_
  rintro e w4 ⟨rfl, hb4⟩
  have hown4 := own_below hown3 hb4
  have hc4 := hc2.below hb4
  have hG4 : w.grownBy w4 (some B) := hG2.andThen (Below.by hb4) (by simp)
  clear hT hb4 hown3 hc2 hG2
  rcases htb : treeB ns with _ | _
  · have hown := lit1 w w4 ((1, 7, [], []) : Nd) hG4.size
    have hgz := hG4.trans (World.grownBy_alloc w4 (.cells #[.int .i64 1, .int .i64 7, .string ⟨#[]⟩, .string ⟨#[]⟩] 31) (some B))
    have hcz := hc4.kept (World.grownBy_alloc w4 (.cells #[.int .i64 1, .int .i64 7, .string ⟨#[]⟩, .string ⟨#[]⟩] 31) none) (by simp)
    simp only at hown
    go_wp2
    go_ret
    exact ⟨_, [((1, 7, [], []) : Nd)], rfl, hown, by decide, by intro m hm; rw [List.mem_singleton] at hm; subst hm; exact ⟨⟨by decide, by decide⟩, by decide, by decide⟩, hcz, hgz⟩
  · have HB : Hid (treeB ns = true) := htb
    clear htb
    go_wp2
    go_ret
    exact ⟨_, ns, rfl, hown4, HB.out, hs2, hc4, hG4⟩

end Go.Proofs.YtjkfjenhocaljaaDoor
