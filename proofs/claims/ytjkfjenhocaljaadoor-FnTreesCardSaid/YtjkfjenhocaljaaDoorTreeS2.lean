/-
  The contracts of chapter 6's specification over lists of nodes: EndOf, TreeOk.
-/
import Derived.Test.YtjkfjenhocaljaaDoorTreeS
import Derived.Test.YtjkfjenhocaljaaDoorOwn
namespace Go.Proofs.YtjkfjenhocaljaaDoor
open Go.RowKit

def nd0 : Nd := (0, 0, [], [])

/-- The nodes ns lie at a, four cells each. -/
def NodesIn (w : World) (a : Option Addr) (len : Nat) (ns : List Nd) : Prop :=
  ns.length = len ∧ ∀ j, j < len → ∃ b off, a = some ⟨b, off, none⟩ ∧ b < w.heap.size ∧ w.cell? ⟨b, off + j * 4, none⟩ = some (.int .i64 (ns.getD j nd0).1) ∧ w.cell? ⟨b, off + j * 4 + 1, none⟩ = some (.int .i64 (ns.getD j nd0).2.1) ∧ w.cell? ⟨b, off + j * 4 + 2, none⟩ = some (.string ⟨(ns.getD j nd0).2.2.1.toArray⟩) ∧ w.cell? ⟨b, off + j * 4 + 3, none⟩ = some (.string ⟨(ns.getD j nd0).2.2.2.toArray⟩)

theorem NodesIn.keep {w w' : World} {a : Option Addr} {len : Nat} {ns : List Nd} (h : NodesIn w a len ns) (hs : w.heap.size ≤ w'.heap.size) (hb : ∀ b off, a = some ⟨b, off, none⟩ → b < w.heap.size → w'.heap[b]? = w.heap[b]?) : NodesIn w' a len ns := by
  refine ⟨h.1, fun j hj => ?_⟩
  obtain ⟨b, off, e, hlt, c0, c1, c2, c3⟩ := h.2 j hj
  have hk := hb b off e hlt
  exact ⟨b, off, e, Nat.lt_of_lt_of_le hlt hs, (World.cell?_of_block (a := ⟨b, off + j * 4, none⟩) hk).trans c0, (World.cell?_of_block (a := ⟨b, off + j * 4 + 1, none⟩) hk).trans c1, (World.cell?_of_block (a := ⟨b, off + j * 4 + 2, none⟩) hk).trans c2, (World.cell?_of_block (a := ⟨b, off + j * 4 + 3, none⟩) hk).trans c3⟩

theorem NodesIn.below {w w' : World} {a : Option Addr} {len : Nat} {ns : List Nd} (h : NodesIn w a len ns) (hb : Below w.heap.size w w') : NodesIn w' a len ns :=
  h.keep hb.size (fun b _ _ hlt => hb.block b hlt)

theorem NodesIn.at {w : World} {a : Option Addr} {len : Nat} {ns : List Nd} (h : NodesIn w a len ns) (hz : 0 < len) : ∃ b off, a = some ⟨b, off, none⟩ ∧ b < w.heap.size ∧
    ∀ j, j < len → w.cell? ⟨b, off + j * 4, none⟩ = some (.int .i64 (ns.getD j nd0).1) ∧ w.cell? ⟨b, off + j * 4 + 1, none⟩ = some (.int .i64 (ns.getD j nd0).2.1) ∧ w.cell? ⟨b, off + j * 4 + 2, none⟩ = some (.string ⟨(ns.getD j nd0).2.2.1.toArray⟩) ∧ w.cell? ⟨b, off + j * 4 + 3, none⟩ = some (.string ⟨(ns.getD j nd0).2.2.2.toArray⟩) := by
  obtain ⟨b, off, rfl, hb, _⟩ := h.2 0 hz
  refine ⟨b, off, rfl, hb, fun j hj => ?_⟩
  obtain ⟨b', off', e, _, c⟩ := h.2 j hj
  injection e with e
  injection e with e1 e2
  subst e1 e2
  exact c

/-- No text of a node is too long. -/
def ShortT (ns : List Nd) : Prop := ∀ j, (ns.getD j nd0).2.2.1.length ≤ 1048576 ∧ (ns.getD j nd0).2.2.2.length ≤ 1048576

/-- What is still to go, from place k on with o open. -/
def endTo (ns : List Nd) (k o : Nat) : Int := match endGo (ns.drop k) o with | some d => (k : Int) + d | none => -1

theorem endTo_start {ns : List Nd} {k : Nat} (hk : k < ns.length) : endTo ns k 1 = endV ns (k : Int) := by rw [endV_nat]; unfold endN endTo; rw [if_pos hk]; cases endGo (ns.drop k) 1 <;> rfl
theorem endTo_zero (ns : List Nd) (k : Nat) : endTo ns k 0 = (k : Int) := by unfold endTo; rw [endGo_zero]; simp
theorem endTo_over {ns : List Nd} {k o : Nat} (hk : ns.length ≤ k) : endTo ns k (o + 1) = -1 := by unfold endTo; rw [end_over hk]
theorem endTo_bad {ns : List Nd} {k o : Nat} (hk : k < ns.length) (hn : nodeB (ns.getD k nd0) = false) : endTo ns k (o + 1) = -1 := by
  have hg : ns.getD k nd0 = ns[k] := by simp [List.getD, hk]
  rw [hg] at hn
  unfold endTo
  rw [end_bad hk hn]
theorem endTo_round {ns : List Nd} {k o : Nat} (hk : k < ns.length) (hn : nodeB (ns.getD k nd0) = true) : endTo ns k (o + 1) = endTo ns (k + 1) (o + kidsN (ns.getD k nd0)) := by
  have hg : ns.getD k nd0 = ns[k] := by simp [List.getD, hk]
  rw [hg] at hn ⊢
  unfold endTo
  rw [end_round hk hn]
  cases endGo (ns.drop (k + 1)) (o + kidsN ns[k]) with
  | none => rfl
  | some d => simp only [Option.map_some]; omega

set_option maxHeartbeats 2000000 in
set_option maxRecDepth 100000 in
theorem specEndOf (a : Option Addr) (len cap : Nat) (ns : List Nd) (at_ : Int) (w : World) (hin : NodesIn w a len ns) (hsh : ShortT ns) (hlen : len ≤ 1048576) :
    Calls Tryd.prog 43 #[.slice a len cap, .int .i64 at_] w fun e w' => e = .returned (.int .i64 (endV ns at_)) ∧ Below w.heap.size w w' := by
  obtain rfl : ns.length = len := hin.1
  by_cases hout : at_ < 0 ∨ (ns.length : Int) ≤ at_
  · have HE : Hid (endV ns at_ = -1) := endV_out ns at_ hout
    by_cases h0 : at_ < 0
    · go_enter Tryd.func43, Tryd.ntmps43
      go_wp2
      go_ret
      exact ⟨by rw [HE.out]; rfl, Below.refl _ _⟩
    · have h1 : (ns.length : Int) ≤ at_ := by omega
      clear hout
      go_enter Tryd.func43, Tryd.ntmps43
      go_wp2
      go_ret
      exact ⟨by rw [HE.out]; rfl, Below.refl _ _⟩
  · obtain ⟨k0, rfl⟩ : ∃ k0 : Nat, at_ = (k0 : Int) := Int.eq_ofNat_of_zero_le (by omega)
    have hk0 : k0 < ns.length := by omega
    have h0 : ¬ (k0 : Int) < 0 := by omega
    have h1 : ¬ (ns.length : Int) ≤ (k0 : Int) := by omega
    have HE : Hid (endTo ns k0 1 = endV ns (k0 : Int)) := endTo_start hk0
    have HI : Hid (NodesIn w a ns.length ns) := hin
    have HS : Hid (ShortT ns) := hsh
    clear hout hin hsh
    go_enter Tryd.func43, Tryd.ntmps43
    go_wp2
    go_loopw [1, 5] (fun av ov wr => ∃ k o : Nat, av = .int .i64 k ∧ ov = .int .i64 o ∧ k ≤ ns.length ∧ o ≤ 1 + 3 * k ∧ Hid (endTo ns k o = endV ns (k0 : Int)) ∧ Below w.heap.size w wr) (fun av _ _ => ns.length - (intOf av).toNat)
    case atStart => exact ⟨k0, 1, rfl, rfl, by omega, by omega, HE, Below.refl _ _⟩
    case round =>
      obtain ⟨k, o, rfl, rfl, hk, ho, HT, hb⟩ := hrel
      clear HE
      by_cases hoz : o = 0
      · subst hoz
        have HF : Hid ((k : Int) = endV ns (k0 : Int)) := by exact (by rw [← HT.out, endTo_zero] : (k : Int) = endV ns (k0 : Int))
        go_wp2
        go_ret
        exact ⟨by rw [← HF.out]; rfl, hb⟩
      · obtain ⟨o', rfl⟩ : ∃ o', o = o' + 1 := ⟨o - 1, by omega⟩
        have ho1 : (0 : Int) < ((o' + 1 : Nat) : Int) := by omega
        by_cases hkl : (ns.length : Int) ≤ (k : Int)
        · have HF : Hid (endV ns (k0 : Int) = -1) := by exact (by rw [← HT.out, endTo_over (by omega)] : endV ns (k0 : Int) = -1)
          clear hoz
          go_wp2
          go_ret
          exact ⟨by rw [HF.out]; rfl, hb⟩
        · obtain ⟨b, off, rfl, hbl, hcells⟩ := (HI.out.below hb).at (by omega)
          obtain ⟨c0, c1, c2, c3⟩ := hcells k (by omega)
          have hs := HS.out k
          obtain ⟨n, hn⟩ : ∃ n, ns.getD k nd0 = n := ⟨_, rfl⟩
          rw [hn] at c0 c1 c2 c3 hs
          have HN : Hid (ns.getD k nd0 = n) := hn
          have HC : Hid (_) := fun W : World => specNodeOk n W hs.1 hs.2
          have HK : Hid (_) := fun W : World => specKids n W
          have hkv := @kidsV_ok n
          obtain ⟨kd, aa, p, f⟩ := n
          unfold nodeVal at HC HK
          simp only at c0 c1 c2 c3 hs HC HK
          clear hn hcells hoz
          go_wp2_with fail
          refine Calls.mono (HC.out _) ?_
          rintro e w1 ⟨rfl, hb1⟩
          have hB1 := hb.trans (hb1.mono hb.size)
          have bc := hb1.block b hbl
          have d0 := (World.cell?_of_block (a := ⟨b, off + k * 4, none⟩) bc).trans c0
          have d1 := (World.cell?_of_block (a := ⟨b, off + k * 4 + 1, none⟩) bc).trans c1
          have d2 := (World.cell?_of_block (a := ⟨b, off + k * 4 + 2, none⟩) bc).trans c2
          have d3 := (World.cell?_of_block (a := ⟨b, off + k * 4 + 3, none⟩) bc).trans c3
          clear c0 c1 c2 c3 hb1 hb HC bc
          rcases hnb : nodeB (kd, aa, p, f) with _ | _
          · have HF : Hid (endV ns (k0 : Int) = -1) := by exact (by rw [← HT.out, endTo_bad (by omega) (by rw [HN.out]; exact hnb)] : endV ns (k0 : Int) = -1)
            clear hnb hkv
            go_wp2
            go_ret
            exact ⟨by rw [HF.out]; rfl, hB1⟩
          · obtain ⟨hk1, hk3⟩ := hkv hnb
            have HT2 : Hid (endTo ns (k + 1) (o' + kidsN (kd, aa, p, f)) = endV ns (k0 : Int)) := by
              have := endTo_round (o := o') (show k < ns.length by omega) (by rw [HN.out]; exact hnb)
              rw [HN.out] at this
              exact (by rw [← this]; exact HT.out : endTo ns (k + 1) (o' + kidsN (kd, aa, p, f)) = endV ns (k0 : Int))
            clear hnb hkv
            go_wp2_with fail
            refine Calls.mono (HK.out _) ?_
            rintro e w2 ⟨rfl, hb2⟩
            rw [hk1]
            have hB2 := hB1.trans (hb2.mono hB1.size)
            obtain ⟨q, hq⟩ : ∃ q, kidsN (kd, aa, p, f) = q := ⟨_, rfl⟩
            rw [hq] at HT2 hk3 ⊢
            have hqi : (q : Int) ≤ 3 := by omega
            clear hk1 hq hb2 hB1 d0 d1 d2 d3 HK
            go_wp2
            go_roundw
            case rel => exact ⟨k + 1, o' + q, by go_num, by go_num, by omega, by omega, HT2, hB2⟩
            case measure => simp [intOf]; omega

end Go.Proofs.YtjkfjenhocaljaaDoor
