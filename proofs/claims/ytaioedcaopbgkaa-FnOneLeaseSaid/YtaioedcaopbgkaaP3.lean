/-
  Parts of one proof, one behind the other: TreeS, TreeS2, Math7, Math3C, Draw, Draw2, ChunkS, TreeS3, Math7S, Math7R.
-/
import Derived.Test.YtaioedcaopbgkaaP2
import Derived.Test.YtaioedcaopbgkaaP1
import Derived.Test.YtaioedcaopbgkaaRows
import Derived.WalkKit
import Derived.WalkLawsBesides
import Derived.Laws.IdiomStrings
import Derived.Laws.OwnMore
import Derived.Maps.AppendAt
import Derived.Maps.Range
import Derived.OpenShut
import Derived.Handy
import Derived.Lib.AppendStr
import Derived.Deep.RegionHeld3

/-! The contracts of chapter 6's specification: NodeOk, how many parts, KidsOf. -/
namespace Go.Proofs.Ytaioedcaopbgkaa
open Go.RowKit

def nodeVal (n : Nd) : Value := .agg #[.int .i64 n.1, .int .i64 n.2.1, .string ⟨n.2.2.1.toArray⟩, .string ⟨n.2.2.2.toArray⟩]

theorem nodeB_texts (k a : Int) (p f : List UInt8) (hk : k ≠ 8) (h : p ≠ [] ∨ f ≠ []) : nodeB (k, a, p, f) = false := nodeB_no (fun hp => by
 unfold nodeP at hp
 simp only at hp
 rcases hp with ⟨_, _, h1, h2⟩ | ⟨_, _, h1, h2⟩ | ⟨_, _, h1, h2⟩ | ⟨h1, _⟩
 ·
  rcases h with h | h; exact h h1; exact h h2
 ·
  rcases h with h | h; exact h h1; exact h h2
 ·
  rcases h with h | h; exact h h1; exact h h2
 ·
  exact hk h1)
theorem nodeB_num (a : Int) : nodeB (1, a, [], []) = inB a (-2147483648) 2147483647 := by
 unfold nodeB inB
 exact decide_eq_decide.2 (by unfold nodeP; simp)
theorem nodeB_arg (a : Int) : nodeB (2, a, [], []) = inB a 0 2 := by
 unfold nodeB inB
 exact decide_eq_decide.2 (by unfold nodeP; simp)
theorem nodeB_op (k a : Int) (h : 3 ≤ k ∧ k ≤ 7) : nodeB (k, a, [], []) = (a == 0) := by
 rw [Bool.eq_iff_iff, nodeB_iff, beq_iff_eq]
 unfold nodeP
 simp
 omega
theorem nodeB_call (a : Int) (p f : List UInt8) : nodeB (8, a, p, f) = (inB a 0 3 && (nameB p && nameB f)) := by
 rw [Bool.eq_iff_iff, nodeB_iff]
 unfold nodeP inB
 simp
theorem nodeB_other (k a : Int) (p f : List UInt8) (h : k < 1 ∨ 8 < k) : nodeB (k, a, p, f) = false := nodeB_no (fun hp => by
 unfold nodeP at hp
 simp only at hp
 omega)

set_option maxHeartbeats 2000000 in
set_option maxRecDepth 100000 in
theorem specNodeOk (n : Nd) (w : World) (hp : n.2.2.1.length ≤ 1048576) (hf : n.2.2.2.length ≤ 1048576) :
 Calls Try.prog 89 #[nodeVal n] w fun e w' => e = .returned (.bool (nodeB n)) ∧ Below w.heap.size w w' := by
 obtain ⟨k, a, p, f⟩ := n
 simp only at hp hf
 unfold nodeVal
 simp only
 by_cases h8 : k = 8
 ·
  subst h8
  have HN := nodeB_call a p f
  rw [HN]
  clear HN
  rcases hia : inB a 0 3 with _ | _
  ·
   have HA : Hid (inB a 0 3 = false) := hia
   clear hia
   go_enter Try.func89, Try.ntmps89
   go_wp2_with fail
   refine (specIn _ _ _ _).mono ?_
   rintro e w1 ⟨rfl, rfl⟩
   rw [HA.out]
   go_wp2
   go_ret
   exact ⟨rfl, (Below.refl _ w).alloc (Nat.le_refl _) _⟩
  ·
   have HA : Hid (inB a 0 3 = true) := hia
   clear hia
   rcases hnp : nameB p with _ | _
   ·
    have HP : Hid (nameB p = false) := hnp
    clear hnp
    go_enter Try.func89, Try.ntmps89
    go_wp2_with fail
    refine (specIn _ _ _ _).mono ?_
    rintro e w1 ⟨rfl, rfl⟩
    rw [HA.out]
    go_wp2_with fail
    refine (specNameOk p _ hp).mono ?_
    rintro e w1 ⟨rfl, rfl⟩
    rw [HP.out]
    go_wp2
    go_ret
    exact ⟨rfl, (Below.refl _ w).alloc (Nat.le_refl _) _⟩
   ·
    have HP : Hid (nameB p = true) := hnp
    clear hnp
    go_enter Try.func89, Try.ntmps89
    go_wp2_with fail
    refine (specIn _ _ _ _).mono ?_
    rintro e w1 ⟨rfl, rfl⟩
    rw [HA.out]
    go_wp2_with fail
    refine (specNameOk p _ hp).mono ?_
    rintro e w1 ⟨rfl, rfl⟩
    rw [HP.out]
    go_wp2_with fail
    refine (specNameOk f _ hf).mono ?_
    rintro e w1 ⟨rfl, rfl⟩
    go_wp2
    go_ret
    exact ⟨rfl, (Below.refl _ w).alloc (Nat.le_refl _) _⟩
 ·
  have d8 : (k != 8) = true := bne_iff_ne.2 h8
  have d8' : (k == 8) = false := beq_eq_false_iff_ne.2 h8
  by_cases hpe : p = []
  ·
   subst hpe
   by_cases hfe : f = []
   ·
    subst hfe
    by_cases h1 : k = 1
    ·
     subst h1
     have HN := nodeB_num a
     rw [HN]
     clear HN
     go_enter Try.func89, Try.ntmps89
     go_wp2_with fail
     refine (specWordOk _ _).mono ?_
     rintro e w1 ⟨rfl, rfl⟩
     go_wp2
     go_ret
     exact ⟨rfl, (Below.refl _ w).alloc (Nat.le_refl _) _⟩
    ·
     have d1 : (k == 1) = false := beq_eq_false_iff_ne.2 h1
     by_cases h2 : k = 2
     ·
      subst h2
      have HN := nodeB_arg a
      rw [HN]
      clear HN
      go_enter Try.func89, Try.ntmps89
      go_wp2_with fail
      refine (specIn _ _ _ _).mono ?_
      rintro e w1 ⟨rfl, rfl⟩
      go_wp2
      go_ret
      exact ⟨rfl, (Below.refl _ w).alloc (Nat.le_refl _) _⟩
     ·
      have d2 : (k == 2) = false := beq_eq_false_iff_ne.2 h2
      by_cases h37 : 3 ≤ k ∧ k ≤ 7
      ·
       have HN := nodeB_op k a h37
       rw [HN]
       clear HN
       rcases (show k = 3 ∨ k = 4 ∨ k = 5 ∨ k = 6 ∨ k = 7 by omega) with rfl | rfl | rfl | rfl | rfl
       all_goals
        go_enter Try.func89, Try.ntmps89
        go_wp2
        go_ret
        exact ⟨rfl, (Below.refl _ w).alloc (Nat.le_refl _) _⟩
      ·
       have HN := nodeB_other k a [] [] (by omega)
       rw [HN]
       clear HN
       have d3 : (k == 3) = false := beq_eq_false_iff_ne.2 (by omega)
       have d4 : (k == 4) = false := beq_eq_false_iff_ne.2 (by omega)
       have d5 : (k == 5) = false := beq_eq_false_iff_ne.2 (by omega)
       have d6 : (k == 6) = false := beq_eq_false_iff_ne.2 (by omega)
       have d7 : (k == 7) = false := beq_eq_false_iff_ne.2 (by omega)
       clear h37 h1 h2 h8
       go_enter Try.func89, Try.ntmps89
       go_wp2
       go_ret
       exact ⟨rfl, (Below.refl _ w).alloc (Nat.le_refl _) _⟩
   ·
    have HN := nodeB_texts k a [] f h8 (Or.inr hfe)
    rw [HN]
    have hfb : f.isEmpty = false := by simp [hfe]
    clear HN hfe h8
    go_enter Try.func89, Try.ntmps89
    go_wp2
    go_ret
    exact ⟨rfl, (Below.refl _ w).alloc (Nat.le_refl _) _⟩
  ·
   have HN := nodeB_texts k a p f h8 (Or.inl hpe)
   rw [HN]
   have hpb : p.isEmpty = false := by simp [hpe]
   clear HN hpe h8
   go_enter Try.func89, Try.ntmps89
   go_wp2
   go_ret
   exact ⟨rfl, (Below.refl _ w).alloc (Nat.le_refl _) _⟩

theorem kids_two (k a : Int) (p f : List UInt8) (h : 3 ≤ k ∧ k ≤ 6) : kidsV (k, a, p, f) = 2 := if_pos h
theorem kids_if (a : Int) (p f : List UInt8) : kidsV (7, a, p, f) = 3 := by unfold kidsV; simp
theorem kids_call (a : Int) (p f : List UInt8) : kidsV (8, a, p, f) = a := by unfold kidsV; simp
theorem kids_none (k a : Int) (p f : List UInt8) (h : k < 3 ∨ 8 < k) : kidsV (k, a, p, f) = 0 := by
 unfold kidsV
 simp only
 rw [if_neg (by omega), if_neg (by omega), if_neg (by omega)]

set_option maxHeartbeats 2000000 in
set_option maxRecDepth 100000 in
theorem specKids (n : Nd) (w : World) :
 Calls Try.prog 81 #[nodeVal n] w fun e w' => e = .returned (.int .i64 (kidsV n)) ∧ Below w.heap.size w w' := by
 obtain ⟨k, a, p, f⟩ := n
 unfold nodeVal
 simp only
 by_cases h36 : 3 ≤ k ∧ k ≤ 6
 ·
  rw [kids_two k a p f h36]
  rcases (show k = 3 ∨ k = 4 ∨ k = 5 ∨ k = 6 by omega) with rfl | rfl | rfl | rfl
  all_goals
   go_enter Try.func81, Try.ntmps81
   go_wp2
   go_ret
   exact ⟨rfl, (Below.refl _ w).alloc (Nat.le_refl _) _⟩
 ·
  by_cases h7 : k = 7
  ·
   subst h7
   rw [kids_if]
   go_enter Try.func81, Try.ntmps81
   go_wp2
   go_ret
   exact ⟨rfl, (Below.refl _ w).alloc (Nat.le_refl _) _⟩
  ·
   by_cases h8 : k = 8
   ·
    subst h8
    rw [kids_call]
    go_enter Try.func81, Try.ntmps81
    go_wp2
    go_ret
    exact ⟨rfl, (Below.refl _ w).alloc (Nat.le_refl _) _⟩
   ·
    rw [kids_none k a p f (by omega)]
    have d3 : (k == 3) = false := beq_eq_false_iff_ne.2 (by omega)
    have d4 : (k == 4) = false := beq_eq_false_iff_ne.2 (by omega)
    have d5 : (k == 5) = false := beq_eq_false_iff_ne.2 (by omega)
    have d6 : (k == 6) = false := beq_eq_false_iff_ne.2 (by omega)
    have d7 : (k == 7) = false := beq_eq_false_iff_ne.2 h7
    have d8 : (k == 8) = false := beq_eq_false_iff_ne.2 h8
    clear h36 h7 h8
    go_enter Try.func81, Try.ntmps81
    go_wp2
    go_ret
    exact ⟨rfl, (Below.refl _ w).alloc (Nat.le_refl _) _⟩

end Go.Proofs.Ytaioedcaopbgkaa

/-! The contracts of chapter 6's specification over lists of nodes: EndOf, TreeOk. -/
namespace Go.Proofs.Ytaioedcaopbgkaa
open Go.RowKit

def nd0 : Nd := (0, 0, [], [])

/-- The nodes ns lie at a, four cells each. -/
def NodesIn (w : World) (a : Option Addr) (len : Nat) (ns : List Nd) : Prop :=
 ns.length = len ∧ ∀ j, j < len → ∃ b off, a = some ⟨b, off, none⟩ ∧ b < w.heap.size ∧ w.cell? ⟨b, off + j * 4, none⟩ = some (.int .i64 (ns.getD j nd0).1) ∧ w.cell? ⟨b, off + j * 4 + 1, none⟩ = some (.int .i64 (ns.getD j nd0).2.1) ∧ w.cell? ⟨b, off + j * 4 + 2, none⟩ = some (.string ⟨(ns.getD j nd0).2.2.1.toArray⟩) ∧ w.cell? ⟨b, off + j * 4 + 3, none⟩ = some (.string ⟨(ns.getD j nd0).2.2.2.toArray⟩)

theorem NodesIn.keep {w w' : World} {a : Option Addr} {len : Nat} {ns : List Nd} (h : NodesIn w a len ns) (hs : w.heap.size ≤ w'.heap.size) (hb : ∀ b off, a = some ⟨b, off, none⟩ → b < w.heap.size → w'.heap[b]? = w.heap[b]?) : NodesIn w' a len ns := by
 refine ⟨h.1, fun j hj => ?_⟩
 obtain ⟨b, off, e, hlt, c0, c1, c2, c3⟩ := h.2 j hj
 have hk := hb b off e hlt
 exact ⟨b, off, e, Nat.lt_of_lt_of_le hlt hs, (World.cell?_of_block (a := ⟨b, off + j * 4, none⟩) hk).trans c0, (World.cell?_of_block (a := ⟨b, off + j * 4 + 1, none⟩) hk).trans c1, (World.cell?_of_block (a := ⟨b, off + j * 4 + 2, none⟩) hk).trans c2, (World.cell?_of_block (a := ⟨b, off + j * 4 + 3, none⟩) hk).trans c3⟩

theorem NodesIn.below {w w' : World} {a : Option Addr} {len : Nat} {ns : List Nd} (h : NodesIn w a len ns) (hb : Below w.heap.size w w') : NodesIn w' a len ns :=
 h.keep hb.size (fun b _ _ hlt => hb.block b hlt)

theorem NodesIn.at {w : World} {a : Option Addr} {len : Nat} {ns : List Nd} (h : NodesIn w a len ns) (hz : 0 < len) : ∃ b off, a = some ⟨b, off, none⟩ ∧ b < w.heap.size ∧
 ∀ j, j < len → w.cell? ⟨b, off + j * 4, none⟩ = some (.int .i64 (ns.getD j nd0).1) ∧ w.cell? ⟨b, off + j * 4 + 1, none⟩ = some (.int .i64 (ns.getD j nd0).2.1) ∧ w.cell? ⟨b, off + j * 4 + 2, none⟩ = some (.string ⟨(ns.getD j nd0).2.2.1.toArray⟩) ∧ w.cell? ⟨b, off + j * 4 + 3, none⟩ = some (.string ⟨(ns.getD j nd0).2.2.2.toArray⟩) := by
 obtain ⟨b, off, rfl, hb, _⟩ := h.2 0 hz
 refine ⟨b, off, rfl, hb, fun j hj => ?_⟩
 obtain ⟨b', off', e, _, c⟩ := h.2 j hj
 injection e with e
 injection e with e1 e2
 subst e1 e2
 exact c

/-- No text of a node is too long. -/
def ShortT (ns : List Nd) : Prop := ∀ j, (ns.getD j nd0).2.2.1.length ≤ 1048576 ∧ (ns.getD j nd0).2.2.2.length ≤ 1048576

/-- What is still to go, from place k on with o open. -/
def endTo (ns : List Nd) (k o : Nat) : Int := match endGo (ns.drop k) o with | some d => (k : Int) + d | none => -1

theorem endTo_start {ns : List Nd} {k : Nat} (hk : k < ns.length) : endTo ns k 1 = endV ns (k : Int) := by rw [endV_nat]; unfold endN endTo; rw [if_pos hk]; cases endGo (ns.drop k) 1 <;> rfl
theorem endTo_zero (ns : List Nd) (k : Nat) : endTo ns k 0 = (k : Int) := by unfold endTo; rw [endGo_zero]; simp
theorem endTo_over {ns : List Nd} {k o : Nat} (hk : ns.length ≤ k) : endTo ns k (o + 1) = -1 := by unfold endTo; rw [end_over hk]
theorem endTo_bad {ns : List Nd} {k o : Nat} (hk : k < ns.length) (hn : nodeB (ns.getD k nd0) = false) : endTo ns k (o + 1) = -1 := by
 have hg : ns.getD k nd0 = ns[k] := by simp [List.getD, hk]
 rw [hg] at hn
 unfold endTo
 rw [end_bad hk hn]
theorem endTo_round {ns : List Nd} {k o : Nat} (hk : k < ns.length) (hn : nodeB (ns.getD k nd0) = true) : endTo ns k (o + 1) = endTo ns (k + 1) (o + kidsN (ns.getD k nd0)) := by
 have hg : ns.getD k nd0 = ns[k] := by simp [List.getD, hk]
 rw [hg] at hn ⊢
 unfold endTo
 rw [end_round hk hn]
 cases endGo (ns.drop (k + 1)) (o + kidsN ns[k]) with
 | none => rfl
 | some d => simp only [Option.map_some]; omega

set_option maxHeartbeats 2000000 in
set_option maxRecDepth 100000 in
theorem specEndOf (a : Option Addr) (len cap : Nat) (ns : List Nd) (at_ : Int) (w : World) (hin : NodesIn w a len ns) (hsh : ShortT ns) (hlen : len ≤ 1048576) :
 Calls Try.prog 82 #[.slice a len cap, .int .i64 at_] w fun e w' => e = .returned (.int .i64 (endV ns at_)) ∧ Below w.heap.size w w' := by
 obtain rfl : ns.length = len := hin.1
 by_cases hout : at_ < 0 ∨ (ns.length : Int) ≤ at_
 ·
  have HE : Hid (endV ns at_ = -1) := endV_out ns at_ hout
  by_cases h0 : at_ < 0
  ·
   go_enter Try.func82, Try.ntmps82
   go_wp2
   go_ret
   exact ⟨by rw [HE.out]; rfl, Below.refl _ _⟩
  ·
   have h1 : (ns.length : Int) ≤ at_ := by omega
   clear hout
   go_enter Try.func82, Try.ntmps82
   go_wp2
   go_ret
   exact ⟨by rw [HE.out]; rfl, Below.refl _ _⟩
 ·
  obtain ⟨k0, rfl⟩ : ∃ k0 : Nat, at_ = (k0 : Int) := Int.eq_ofNat_of_zero_le (by omega)
  have hk0 : k0 < ns.length := by omega
  have h0 : ¬ (k0 : Int) < 0 := by omega
  have h1 : ¬ (ns.length : Int) ≤ (k0 : Int) := by omega
  have HE : Hid (endTo ns k0 1 = endV ns (k0 : Int)) := endTo_start hk0
  have HI : Hid (NodesIn w a ns.length ns) := hin
  have HS : Hid (ShortT ns) := hsh
  clear hout hin hsh
  go_enter Try.func82, Try.ntmps82
  go_wp2
  go_loopw [1, 5] (fun av ov wr => ∃ k o : Nat, av = .int .i64 k ∧ ov = .int .i64 o ∧ k ≤ ns.length ∧ o ≤ 1 + 3 * k ∧ Hid (endTo ns k o = endV ns (k0 : Int)) ∧ Below w.heap.size w wr) (fun av _ _ => ns.length - (intOf av).toNat)
  case atStart => exact ⟨k0, 1, rfl, rfl, by omega, by omega, HE, Below.refl _ _⟩
  case round =>
   obtain ⟨k, o, rfl, rfl, hk, ho, HT, hb⟩ := hrel
   clear HE
   by_cases hoz : o = 0
   ·
    subst hoz
    have HF : Hid ((k : Int) = endV ns (k0 : Int)) := by exact (by rw [← HT.out, endTo_zero] : (k : Int) = endV ns (k0 : Int))
    go_wp2
    go_ret
    exact ⟨by rw [← HF.out]; rfl, hb⟩
   ·
    obtain ⟨o', rfl⟩ : ∃ o', o = o' + 1 := ⟨o - 1, by omega⟩
    have ho1 : (0 : Int) < ((o' + 1 : Nat) : Int) := by omega
    by_cases hkl : (ns.length : Int) ≤ (k : Int)
    ·
     have HF : Hid (endV ns (k0 : Int) = -1) := by exact (by rw [← HT.out, endTo_over (by omega)] : endV ns (k0 : Int) = -1)
     clear hoz
     go_wp2
     go_ret
     exact ⟨by rw [HF.out]; rfl, hb⟩
    ·
     obtain ⟨b, off, rfl, hbl, hcells⟩ := (HI.out.below hb).at (by omega)
     obtain ⟨c0, c1, c2, c3⟩ := hcells k (by omega)
     have hs := HS.out k
     obtain ⟨n, hn⟩ : ∃ n, ns.getD k nd0 = n := ⟨_, rfl⟩
     rw [hn] at c0 c1 c2 c3 hs
     have HN : Hid (ns.getD k nd0 = n) := hn
     have HC : Hid (_) := fun W : World => specNodeOk n W hs.1 hs.2
     have HK : Hid (_) := fun W : World => specKids n W
     have hkv := @kidsV_ok n
     obtain ⟨kd, aa, p, f⟩ := n
     unfold nodeVal at HC HK
     simp only at c0 c1 c2 c3 hs HC HK
     clear hn hcells hoz
     go_wp2_with fail
     refine Calls.mono (HC.out _) ?_
     rintro e w1 ⟨rfl, hb1⟩
     have hB1 := hb.trans (hb1.mono hb.size)
     have bc := hb1.block b hbl
     have d0 := (World.cell?_of_block (a := ⟨b, off + k * 4, none⟩) bc).trans c0
     have d1 := (World.cell?_of_block (a := ⟨b, off + k * 4 + 1, none⟩) bc).trans c1
     have d2 := (World.cell?_of_block (a := ⟨b, off + k * 4 + 2, none⟩) bc).trans c2
     have d3 := (World.cell?_of_block (a := ⟨b, off + k * 4 + 3, none⟩) bc).trans c3
     clear c0 c1 c2 c3 hb1 hb HC bc
     rcases hnb : nodeB (kd, aa, p, f) with _ | _
     ·
      have HF : Hid (endV ns (k0 : Int) = -1) := by exact (by rw [← HT.out, endTo_bad (by omega) (by rw [HN.out]; exact hnb)] : endV ns (k0 : Int) = -1)
      clear hnb hkv
      go_wp2
      go_ret
      exact ⟨by rw [HF.out]; rfl, hB1⟩
     ·
      obtain ⟨hk1, hk3⟩ := hkv hnb
      have HT2 : Hid (endTo ns (k + 1) (o' + kidsN (kd, aa, p, f)) = endV ns (k0 : Int)) := by
       have := endTo_round (o := o') (show k < ns.length by omega) (by rw [HN.out]; exact hnb)
       rw [HN.out] at this
       exact (by rw [← this]; exact HT.out : endTo ns (k + 1) (o' + kidsN (kd, aa, p, f)) = endV ns (k0 : Int))
      clear hnb hkv
      go_wp2_with fail
      refine Calls.mono (HK.out _) ?_
      rintro e w2 ⟨rfl, hb2⟩
      rw [hk1]
      have hB2 := hB1.trans (hb2.mono hB1.size)
      obtain ⟨q, hq⟩ : ∃ q, kidsN (kd, aa, p, f) = q := ⟨_, rfl⟩
      rw [hq] at HT2 hk3 ⊢
      have hqi : (q : Int) ≤ 3 := by omega
      clear hk1 hq hb2 hB1 d0 d1 d2 d3 HK
      go_wp2
      go_roundw
      case rel => exact ⟨k + 1, o' + q, by go_num, by go_num, by omega, by omega, HT2, hB2⟩
      case measure => simp [intOf]; omega

end Go.Proofs.Ytaioedcaopbgkaa

/-! Plain facts for chapter 7 (packages). -/
namespace Go.Proofs.Ytaioedcaopbgkaa
open Go.RowKit

def leT (a b : List UInt8) : Bool := Op.bytesLess a b || (a == b)

/-- Each is behind the one ahead of it. -/
def riseB (l : List (List UInt8)) : Bool := decide (∀ i, i < l.length - 1 → leT (l.getD (i + 1) []) (l.getD i []) = false)
theorem riseB_yes {l : List (List UInt8)} {j : Nat} (hj : l.length ≤ j + 1) (h : ∀ i, i < j → leT (l.getD (i + 1) []) (l.getD i []) = false) : riseB l = true := decide_eq_true (fun i hi => h i (by omega))
theorem riseB_no {l : List (List UInt8)} {j : Nat} (hj : j + 1 < l.length) (h : leT (l.getD (j + 1) []) (l.getD j []) = true) : riseB l = false := decide_eq_false (fun g => by rw [g j (by omega)] at h; cases h)

def importsB (l : List (List UInt8)) : Bool := decide (∀ i, i < l.length → nameB (l.getD i []) = true) && (decide (l.length ≤ 6) && riseB l)
theorem importsB_no {l : List (List UInt8)} {j : Nat} (hj : j < l.length) (h : nameB (l.getD j []) = false) : importsB l = false := by
 unfold importsB
 rw [decide_eq_false (fun g => by rw [g j hj] at h; cases h)]; rfl
theorem importsB_all {l : List (List UInt8)} (h : ∀ i, i < l.length → nameB (l.getD i []) = true) : importsB l = (decide (l.length ≤ 6) && riseB l) := by
 unfold importsB
 rw [decide_eq_true h]; rfl

/-- A function: its name, how many arguments, its tree. -/
abbrev Fn := List UInt8 × Int × List Nd
/-- A package: its name, its imports, its functions. -/
abbrev Pk := List UInt8 × List (List UInt8) × List Fn

def fn0 : Fn := ([], 0, [])
def funcB (f : Fn) : Bool := nameB f.1 && (inB f.2.1 0 3 && treeB f.2.2)

/-- The first of such a name, from k on. -/
def atGo (s : List UInt8) : List Fn → Nat → Int
 | [], _ => -1
 | f :: r, k => if f.1 = s then (k : Int) else atGo s r (k + 1)
def atV (fs : List Fn) (s : List UInt8) : Int := atGo s fs 0

theorem atGo_drop {fs : List Fn} {k : Nat} (hk : k < fs.length) (s : List UInt8) : atGo s (fs.drop k) k = if (fs.getD k fn0).1 = s then (k : Int) else atGo s (fs.drop (k + 1)) (k + 1) := by
 rw [List.drop_eq_getElem_cons hk, atGo]
 have : fs.getD k fn0 = fs[k] := by rw [List.getD_eq_getElem?_getD, List.getElem?_eq_getElem hk]; rfl
 rw [this]

def funcsOk (fs : List Fn) (i : Nat) : Prop := funcB (fs.getD i fn0) = true ∧ atV fs (fs.getD i fn0).1 = (i : Int)
instance (fs : List Fn) (i : Nat) : Decidable (funcsOk fs i) := by unfold funcsOk; infer_instance

def pkgB (p : Pk) : Bool := (nameB p.1 && (importsB p.2.1 && inB (p.2.2.length : Int) 1 8)) && decide (∀ i, i < p.2.2.length → funcsOk p.2.2 i)

end Go.Proofs.Ytaioedcaopbgkaa

/-! Plain facts for chapter 3: a text in pieces. -/
namespace Go.Proofs.Ytaioedcaopbgkaa
open Go.RowKit

def chunksGo : Nat → Nat → List UInt8 → List (List UInt8)
 | 0, _, _ => []
 | f + 1, n, l => if l = [] then [] else l.take n :: chunksGo f n (l.drop n)

def chunksL (l : List UInt8) (size : Int) : List (List UInt8) := if size < 1 then [] else chunksGo l.length size.toNat l

end Go.Proofs.Ytaioedcaopbgkaa

/-! The contracts of the draws that every law of chapter 1 makes: the cursor lies in one block of its own, each draw gives a number in its range, writes that block alone and makes at most new blocks. -/
namespace Go.Proofs.Ytaioedcaopbgkaa
open Go.RowKit

/-- The bytes of the code lie below block B. -/
def Code (w : World) (B : Nat) (a : Option Addr) (len : Nat) : Prop :=
 ∀ j, j < len → ∃ b off x, a = some ⟨b, off, none⟩ ∧ b < B ∧ w.cell? ⟨b, off + j, none⟩ = some (.int .u8 x) ∧ 0 ≤ x ∧ x ≤ 255

/-- The cursor lies in block B: the code, a place, a number. -/
structure Cur (w : World) (B : Nat) (a : Option Addr) (len cap : Nat) : Prop where
 code : Code w B a len
 short : len ≤ 4096
 c0 : w.cell? ⟨B, 0, none⟩ = some (.slice a len cap)
 c12 : ∃ i : Nat, ∃ h : Int, i ≤ len ∧ w.cell? ⟨B, 1, none⟩ = some (.int .i64 i) ∧ w.cell? ⟨B, 2, none⟩ = some (.int .i64 h)
 free : ∀ j, w.frozen? ⟨B, j, none⟩ = false

theorem grown_drew (w : World) (row : Option Nat) : w.grownBy w.drew row := ⟨rfl, rfl, rfl, Nat.le_refl _, fun _ _ _ => rfl⟩
theorem grown_setCell (w : World) (B o : Nat) (v : Value) : w.grownBy (w.setCell ⟨B, o, none⟩ v) (some B) :=
 ⟨rfl, rfl, rfl, by simp, fun k _ hne => Below.heap_setCell w _ v k (fun e => hne (by rw [e]))⟩

theorem Cur.kept {w w' : World} {B : Nat} {a : Option Addr} {len cap : Nat} {row : Option Nat} (h : Cur w B a len cap) (hg : w.grownBy w' row) (hne : ∀ k, row = some k → B < k) : Cur w' B a len cap := by
 have hlt : B < w.heap.size := World.block_lt_of_cell? w ⟨B, 0, none⟩ h.c0
 have hb : ∀ k, k ≤ B → w'.heap[k]? = w.heap[k]? := fun k hk => hg.block k (by omega) (fun e => by have := hne k e.symm; omega)
 have hB := hb B (Nat.le_refl _)
 refine ⟨?_, h.short, ?_, ?_, ?_⟩
 ·
  intro j hj
  obtain ⟨b, off, x, e1, e2, e3, e0⟩ := h.code j hj
  exact ⟨b, off, x, e1, e2, (World.cell?_of_block (hb b (by omega))).trans e3, e0⟩
 ·
  exact (World.cell?_of_block hB).trans h.c0
 ·
  obtain ⟨i, n, hi, e1, e2⟩ := h.c12
  exact ⟨i, n, hi, (World.cell?_of_block hB).trans e1, (World.cell?_of_block hB).trans e2⟩
 ·
  intro j
  exact (World.frozen?_of_block hB).trans (h.free j)

theorem Cur.lt {w : World} {B : Nat} {a : Option Addr} {len cap : Nat} (h : Cur w B a len cap) : B < w.heap.size := World.block_lt_of_cell? w ⟨B, 0, none⟩ h.c0

/-- A store of the place. -/
theorem Cur.set1 {w : World} {B : Nat} {a : Option Addr} {len cap : Nat} (h : Cur w B a len cap) (i : Nat) (hi : i ≤ len) : Cur (w.setCell ⟨B, 1, none⟩ (.int .i64 i)) B a len cap := by
 obtain ⟨i0, n, _, e1, e2⟩ := h.c12
 refine ⟨?_, h.short, ?_, ⟨i, n, hi, World.cell?_setCell_same _ _ _ e1, ?_⟩, ?_⟩
 ·
  intro j hj
  obtain ⟨b, off, x, e3, e4, e5, e0⟩ := h.code j hj
  exact ⟨b, off, x, e3, e4, (World.cell?_setCell_other _ _ _ _ (by intro e; injection e with e6; omega)).trans e5, e0⟩
 ·
  exact (World.cell?_setCell_other _ _ _ _ (by simp)).trans h.c0
 ·
  exact (World.cell?_setCell_other _ _ _ _ (by simp)).trans e2
 ·
  intro j; rw [World.frozen?_setCell]; exact h.free j

/-- A store of the number. -/
theorem Cur.set2 {w : World} {B : Nat} {a : Option Addr} {len cap : Nat} (h : Cur w B a len cap) (m : Int) : Cur (w.setCell ⟨B, 2, none⟩ (.int .i64 m)) B a len cap := by
 obtain ⟨i0, n, hi, e1, e2⟩ := h.c12
 refine ⟨?_, h.short, ?_, ⟨i0, m, hi, ?_, World.cell?_setCell_same _ _ _ e2⟩, ?_⟩
 ·
  intro j hj
  obtain ⟨b, off, x, e3, e4, e5, e0⟩ := h.code j hj
  exact ⟨b, off, x, e3, e4, (World.cell?_setCell_other _ _ _ _ (by intro e; injection e with e6; omega)).trans e5, e0⟩
 ·
  exact (World.cell?_setCell_other _ _ _ _ (by simp)).trans h.c0
 ·
  exact (World.cell?_setCell_other _ _ _ _ (by simp)).trans e1
 ·
  intro j; rw [World.frozen?_setCell]; exact h.free j

theorem Cur.drew {w : World} {B : Nat} {a : Option Addr} {len cap : Nat} (h : Cur w B a len cap) : Cur w.drew B a len cap := ⟨h.code, h.short, h.c0, h.c12, h.free⟩

set_option maxHeartbeats 1000000 in
set_option maxRecDepth 100000 in
theorem byteNo (w : World) (B : Nat) (a : Option Addr) (len cap i : Nat) (n : Int) (hi : len ≤ i)
 (c0 : w.cell? ⟨B, 0, none⟩ = some (.slice a len cap)) (c1 : w.cell? ⟨B, 1, none⟩ = some (.int .i64 i)) (c2 : w.cell? ⟨B, 2, none⟩ = some (.int .i64 n)) (f2 : w.frozen? ⟨B, 2, none⟩ = false) :
 Calls Try.prog 50 #[.pointer (some ⟨B, 0, none⟩)] w fun e w' => ∃ x m : Int, e = .returned (.int .i64 x) ∧ 0 ≤ x ∧ x ≤ 255 ∧ w' = (w.setCell ⟨B, 2, none⟩ (.int .i64 m)).drew.drew := by
 have hA := and255
 go_enter Try.func50, Try.ntmps50
 go_wp2
 go_region
 all_goals (try go_wp2)
 go_region
 all_goals (try go_wp2)
 go_ret
 exact ⟨_, _, rfl, by omega, by omega, rfl⟩

set_option maxHeartbeats 1000000 in
set_option maxRecDepth 100000 in
theorem byteYes (w : World) (B b off : Nat) (len cap i : Nat) (n x : Int) (hi : i < len) (hil : len ≤ 4096)
 (c0 : w.cell? ⟨B, 0, none⟩ = some (.slice (some ⟨b, off, none⟩) len cap)) (c1 : w.cell? ⟨B, 1, none⟩ = some (.int .i64 i)) (c2 : w.cell? ⟨B, 2, none⟩ = some (.int .i64 n)) (f1 : w.frozen? ⟨B, 1, none⟩ = false) (f2 : w.frozen? ⟨B, 2, none⟩ = false)
 (hbB : b ≠ B) (cx : w.cell? ⟨b, off + i, none⟩ = some (.int .u8 x)) :
 Calls Try.prog 50 #[.pointer (some ⟨B, 0, none⟩)] w fun e w' => ∃ x m : Int, e = .returned (.int .i64 x) ∧ 0 ≤ x ∧ x ≤ 255 ∧ w' = ((w.setCell ⟨B, 2, none⟩ (.int .i64 m)).setCell ⟨B, 1, none⟩ (.int .i64 ((i + 1 : Nat) : Int))).drew.drew.drew := by
 have hA := and255
 have hBb : B ≠ b := fun e => hbB e.symm
 go_enter Try.func50, Try.ntmps50
 go_wp2
 go_region
 all_goals (try go_wp2)
 go_region
 all_goals (try go_wp2)
 go_region
 all_goals (try go_wp2)
 go_ret
 exact ⟨_, _, rfl, by omega, by omega, rfl⟩

/-- One byte is drawn. -/
theorem drawByte (w : World) (B : Nat) (a : Option Addr) (len cap : Nat) (h : Cur w B a len cap) :
 Calls Try.prog 50 #[.pointer (some ⟨B, 0, none⟩)] w fun e w' => ∃ x : Int, e = .returned (.int .i64 x) ∧ 0 ≤ x ∧ x ≤ 255 ∧ Cur w' B a len cap ∧ w.grownBy w' (some B) := by
 obtain ⟨i, n, hi, c1, c2⟩ := h.c12
 have hs := h.short
 by_cases hlt : i < len
 ·
  obtain ⟨b, off, x, rfl, hb, cx, _⟩ := h.code i hlt
  refine (byteYes w B b off len cap i n x hlt hs h.c0 c1 c2 (h.free 1) (h.free 2) (by omega) cx).mono ?_
  rintro e w' ⟨y, m, rfl, h0, h1, rfl⟩
  exact ⟨y, rfl, h0, h1, ((h.set2 m).set1 (i + 1) (by omega)).drew.drew.drew, ((((grown_setCell _ _ _ _).trans (grown_setCell _ _ _ _)).trans (grown_drew _ _)).trans (grown_drew _ _)).trans (grown_drew _ _)⟩
 ·
  refine (byteNo w B a len cap i n (by omega) h.c0 c1 c2 (h.free 2)).mono ?_
  rintro e w' ⟨y, m, rfl, h0, h1, rfl⟩
  exact ⟨y, rfl, h0, h1, (h.set2 m).drew.drew, ((grown_setCell _ _ _ _).trans (grown_drew _ _)).trans (grown_drew _ _)⟩


set_option maxHeartbeats 1000000 in
set_option maxRecDepth 100000 in
/-- A number below n is drawn; 0 where n is not above 0. -/
theorem drawBelow (w : World) (B : Nat) (a : Option Addr) (len cap : Nat) (n : Int) (hn : 0 < n) (hn' : n ≤ 4294967296) (h : Cur w B a len cap) :
 Calls Try.prog 27 #[.pointer (some ⟨B, 0, none⟩), .int .i64 n] w fun e w' => ∃ x : Int, e = .returned (.int .i64 x) ∧ 0 ≤ x ∧ x < n ∧ Cur w' B a len cap ∧ w.grownBy w' (some B) := by
 have hz : (n == 0) = false := beq_eq_false_iff_ne.2 (by omega)
 by_cases hs : n ≤ 256
 ·
  go_enter Try.func27, Try.ntmps27
  go_wp2_with fail
  refine (drawByte _ B a len cap h).mono ?_
  rintro e w1 ⟨x, rfl, h0, h1, hc, hg⟩
  go_wp2
  go_ret
  exact ⟨_, rfl, Int.emod_nonneg _ (by omega), Int.emod_lt_of_pos _ hn, hc, hg⟩
 ·
  go_enter Try.func27, Try.ntmps27
  go_wp2_with fail
  refine (drawByte _ B a len cap h).mono ?_
  rintro e w1 ⟨x1, rfl, l1, u1, hc1, hg1⟩
  go_wp2_with fail
  refine (drawByte _ B a len cap hc1).mono ?_
  rintro e w2 ⟨x2, rfl, l2, u2, hc2, hg2⟩
  go_wp2_with fail
  refine (drawByte _ B a len cap hc2).mono ?_
  rintro e w3 ⟨x3, rfl, l3, u3, hc3, hg3⟩
  go_wp2_with fail
  refine (drawByte _ B a len cap hc3).mono ?_
  rintro e w4 ⟨x4, rfl, l4, u4, hc4, hg4⟩
  go_wp2
  go_ret
  exact ⟨_, rfl, Int.emod_nonneg _ (by omega), Int.emod_lt_of_pos _ hn, hc4, ((hg1.trans hg2).trans hg3).trans hg4⟩


set_option maxHeartbeats 1000000 in
set_option maxRecDepth 100000 in
theorem drawOnce (w : World) (B : Nat) (a : Option Addr) (len cap : Nat) (n : Int) (hn : 0 < n) (hn' : n ≤ 4294967296) (h : Cur w B a len cap) :
 Calls Try.prog 26 #[.pointer (some ⟨B, 0, none⟩), .int .i64 n] w fun e w' => ∃ x : Bool, e = .returned (.bool x) ∧ Cur w' B a len cap ∧ w.grownBy w' (some B) := by
 go_enter Try.func26, Try.ntmps26
 go_wp2_with fail
 refine (drawBelow _ B a len cap n hn hn' h).mono ?_
 rintro e w1 ⟨x, rfl, h0, h1, hc, hg⟩
 go_wp2
 go_ret
 exact ⟨_, rfl, hc, hg⟩


theorem cur_new (w : World) (a : Option Addr) (len cap : Nat) (m : Int) (hl : len ≤ 4096) (hc : Code w w.heap.size a len) :
 Cur (w.alloc (.cells #[.slice a len cap, .int .i64 0, .int .i64 m] 52)) w.heap.size a len cap := by
 refine ⟨?_, hl, by simp, ⟨0, m, Nat.zero_le _, by simp, by simp⟩, fun j => by simp⟩
 intro j hj
 obtain ⟨b, off, x, e1, e2, e3, e0⟩ := hc j hj
 exact ⟨b, off, x, e1, e2, (World.cell?_of_block (Below.heap_alloc _ _ _ e2)).trans e3, e0⟩

set_option maxHeartbeats 1000000 in
set_option maxRecDepth 100000 in
theorem newSome (w : World) (b off len cap : Nat) (hl : len ≤ 4096) (hc : ∀ j, j < len → ∃ x, w.cell? ⟨b, off + j, none⟩ = some (.int .u8 x)) :
 Calls Try.prog 11 #[.slice (some ⟨b, off, none⟩) len cap] w fun e w' => e = .returned (.pointer (some ⟨w.heap.size, 0, none⟩)) ∧ ∃ m : Int, w' = w.alloc (.cells #[.slice (some ⟨b, off, none⟩) len cap, .int .i64 0, .int .i64 m] 52) := by
 have HC : Hid (∀ j, j < len → ∃ x, w.cell? ⟨b, off + j, none⟩ = some (.int .u8 x)) := hc
 clear hc
 go_enter Try.func11, Try.ntmps11
 go_wp2
 go_loop [3, 4] (fun h i => ∃ k : Nat, ∃ m : Int, k ≤ len ∧ i = .int .i64 k ∧ h = .int .i64 m) (fun _ i => len - (intOf i).toNat)
 case atStart => exact ⟨0, _, Nat.zero_le _, rfl, rfl⟩
 case round =>
  obtain ⟨k, m, hk, rfl, rfl⟩ := hrel
  by_cases hlt : k < len
  ·
   obtain ⟨x, cx⟩ := HC.out k hlt
   go_wp2
   go_round
   case rel => exact ⟨k + 1, _, by omega, by go_num, rfl⟩
   case measure => simp [intOf]; omega
  ·
   go_wp2
   go_ret
   exact ⟨rfl, m, rfl⟩

set_option maxHeartbeats 1000000 in
set_option maxRecDepth 100000 in
theorem newNone (w : World) (a : Option Addr) (cap : Nat) :
 Calls Try.prog 11 #[.slice a 0 cap] w fun e w' => e = .returned (.pointer (some ⟨w.heap.size, 0, none⟩)) ∧ ∃ m : Int, w' = w.alloc (.cells #[.slice a 0 cap, .int .i64 0, .int .i64 m] 52) := by
 go_enter Try.func11, Try.ntmps11
 go_wp2
 refine wp_loop_rounds 1 ?_
 rw [rounds_succ]
 go_wp2
 go_ret
 exact ⟨rfl, _, rfl⟩

/-- A cursor is made: a new block. -/
theorem drawNew (w : World) (a : Option Addr) (len cap : Nat) (hl : len ≤ 4096) (hc : Code w w.heap.size a len) :
 Calls Try.prog 11 #[.slice a len cap] w fun e w' => e = .returned (.pointer (some ⟨w.heap.size, 0, none⟩)) ∧ Cur w' w.heap.size a len cap ∧ w.grownBy w' none := by
 by_cases hz : len = 0
 ·
  subst hz
  refine (newNone w a cap).mono ?_
  rintro e w' ⟨rfl, m, rfl⟩
  exact ⟨rfl, cur_new w a 0 cap m hl hc, World.grownBy_alloc _ _ _⟩
 ·
  obtain ⟨b, off, x, rfl, _, _⟩ := hc 0 (by omega)
  refine (newSome w b off len cap hl ?_).mono ?_
  ·
   intro j hj
   obtain ⟨b', off', x', e1, _, e3, _⟩ := hc j hj
   injection e1 with e1
   injection e1 with e4 e5
   subst e4 e5
   exact ⟨x', e3⟩
  ·
   rintro e w' ⟨rfl, m, rfl⟩
   exact ⟨rfl, cur_new w _ len cap m hl hc, World.grownBy_alloc _ _ _⟩


/-- What a slice of bytes that the call made holds, as bytes. -/
def bytesV (l : List UInt8) : List Value := l.map (fun b => Value.int .u8 (b.toNat : Int))

end Go.Proofs.Ytaioedcaopbgkaa

/-! The contract of l1DrawBytes: a text of at most eight bytes is drawn. -/
namespace Go.Proofs.Ytaioedcaopbgkaa
open Go.RowKit

/-- A world that has at most new blocks keeps the cursor. -/
theorem Cur.below {w w' : World} {B : Nat} {a : Option Addr} {len cap : Nat} (h : Cur w B a len cap) (hb : Below w.heap.size w w') : Cur w' B a len cap :=
 h.kept (row := none) ⟨hb.os, hb.tape, hb.output, hb.size, fun k hk _ => hb.block k hk⟩ (by simp)


end Go.Proofs.Ytaioedcaopbgkaa

/-! The contracts of chapter 3's specification: Chunks, Joined. -/
namespace Go.Proofs.Ytaioedcaopbgkaa
open Go.RowKit

/-- The texts ts lie at a, one behind the other. -/
def TextsIn (w : World) (a : Option Addr) (len : Nat) (ts : List (List UInt8)) : Prop :=
 ts.length = len ∧ ∀ j, j < len → ∃ b off, a = some ⟨b, off, none⟩ ∧ b < w.heap.size ∧ w.cell? ⟨b, off + j, none⟩ = some (.string ⟨(ts.getD j []).toArray⟩)

theorem TextsIn.below {w w' : World} {a : Option Addr} {len : Nat} {ts : List (List UInt8)} (h : TextsIn w a len ts) (hb : Below w.heap.size w w') : TextsIn w' a len ts := by
 refine ⟨h.1, fun j hj => ?_⟩
 obtain ⟨b, off, e, hlt, c⟩ := h.2 j hj
 exact ⟨b, off, e, Nat.lt_of_lt_of_le hlt hb.size, (hb.cell (p := ⟨b, off + j, none⟩) hlt).trans c⟩

theorem TextsIn.at {w : World} {a : Option Addr} {len : Nat} {ts : List (List UInt8)} (h : TextsIn w a len ts) (hz : 0 < len) : ∃ b off, a = some ⟨b, off, none⟩ ∧ b < w.heap.size ∧ ∀ j, j < len → w.cell? ⟨b, off + j, none⟩ = some (.string ⟨(ts.getD j []).toArray⟩) := by
 obtain ⟨b, off, rfl, hb, _⟩ := h.2 0 hz
 refine ⟨b, off, rfl, hb, fun j hj => ?_⟩
 obtain ⟨b', off', e, _, c⟩ := h.2 j hj
 injection e with e
 injection e with e1 e2
 subst e1 e2
 exact c

theorem own_texts {w : World} {base n : Nat} {v : Value} {ts : List (List UInt8)} (h : w.ownsRow base 9 1 v n (strV ts)) : ts.length = n ∧ ∃ a cap, v = .slice a n cap ∧ TextsIn w a n ts := by
 have hlen : ts.length = n := by have := h.1; rw [strV_len] at this; omega
 refine ⟨hlen, ?_⟩
 rcases own_forms h with ⟨rfl, rfl, _⟩ | ⟨g, cp, rfl⟩
 ·
  exact ⟨none, 0, rfl, hlen, fun j hj => by omega⟩
 ·
  refine ⟨some ⟨g, 0, none⟩, cp, rfl, hlen, fun j hj => ⟨g, 0, rfl, (h.lt g rfl).2, ?_⟩⟩
  rw [Nat.zero_add]; exact str_cellsD h hlen j hj

set_option maxHeartbeats 400000 in
set_option maxRecDepth 100000 in
theorem specL1Min (x y : Int) (w : World) :
 Calls Try.prog 42 #[.int .i64 x, .int .i64 y] w fun e w' => e = .returned (.int .i64 (if x < y then x else y)) ∧ w' = w := by
 by_cases h : x < y
 ·
  go_enter Try.func42, Try.ntmps42
  go_wp2
  go_ret
  exact ⟨rfl, rfl⟩
 ·
  go_enter Try.func42, Try.ntmps42
  go_wp2
  go_ret
  exact ⟨rfl, rfl⟩


end Go.Proofs.Ytaioedcaopbgkaa

/-! The contracts of chapter 6's specification: TreeOk; a node and a tree are shown. -/
namespace Go.Proofs.Ytaioedcaopbgkaa
open Go.RowKit

set_option maxHeartbeats 1000000 in
set_option maxRecDepth 100000 in
theorem specTreeOk (a : Option Addr) (len cap : Nat) (ns : List Nd) (w : World) (hin : NodesIn w a len ns) (hsh : ShortT ns) (hlen : len ≤ 1048576) :
 Calls Try.prog 70 #[.slice a len cap] w fun e w' => e = .returned (.bool (treeB ns)) ∧ Below w.heap.size w w' := by
 obtain rfl : ns.length = len := hin.1
 have HC : Hid (_) := fun W (h : NodesIn W a ns.length ns) => specEndOf a ns.length cap ns 0 W h hsh hlen
 have HI : Hid (NodesIn w a ns.length ns) := hin
 clear hin hsh
 by_cases h : 1 ≤ (ns.length : Int) ∧ (ns.length : Int) ≤ 60
 ·
  have HB : Hid (inB (ns.length : Int) 1 60 = true) := inB_yes _ _ _ h.1 h.2
  have HT : Hid (treeB ns = (endV ns 0 == (ns.length : Int))) := by
   exact (by unfold treeB; rw [Bool.eq_iff_iff, decide_eq_true_iff, beq_iff_eq]; constructor; exact fun x => x.2; exact fun x => ⟨by omega, x⟩ : treeB ns = (endV ns 0 == (ns.length : Int)))
  go_enter Try.func70, Try.ntmps70
  go_wp2_with fail
  refine (specIn _ _ _ _).mono ?_
  rintro e w1 ⟨rfl, rfl⟩
  rw [HB.out]
  go_wp2_with fail
  refine Calls.mono (HC.out _ HI.out) ?_
  rintro e w2 ⟨rfl, hb2⟩
  go_wp2
  go_ret
  exact ⟨by rw [HT.out]; rfl, hb2⟩
 ·
  have HB : Hid (inB (ns.length : Int) 1 60 = false) := inB_no _ _ _ (by omega)
  have HT : Hid (treeB ns = false) := by exact (decide_eq_false (fun x => h (by omega)) : treeB ns = false)
  go_enter Try.func70, Try.ntmps70
  go_wp2_with fail
  refine (specIn _ _ _ _).mono ?_
  rintro e w1 ⟨rfl, rfl⟩
  rw [HB.out]
  go_wp2
  go_ret
  exact ⟨by rw [HT.out]; rfl, Below.refl _ _⟩

end Go.Proofs.Ytaioedcaopbgkaa

/-! Plain facts for chapter 7: how a package is shown and read. -/
namespace Go.Proofs.Ytaioedcaopbgkaa
open Go.RowKit

def kwPackage : List UInt8 := [112, 97, 99, 107, 97, 103, 101]
def kwImport : List UInt8 := [105, 109, 112, 111, 114, 116]
def kwFunc : List UInt8 := [102, 117, 110, 99]

def packLn (s : List UInt8) : List UInt8 := kwPackage ++ [32] ++ s
def impLn (s : List UInt8) : List UInt8 := kwImport ++ [32] ++ s
def funcLn (f : Fn) : List UInt8 := kwFunc ++ [32] ++ f.1 ++ [32] ++ intL f.2.1 ++ [32] ++ showL f.2.2
def pkLines (p : Pk) : List (List UInt8) := packLn p.1 :: (p.2.1.map impLn ++ p.2.2.map funcLn)
def showP (p : Pk) : List UInt8 := termJ (pkLines p)
def showPk (p : Pk) : List UInt8 := if pkgB p = true then showP p else []

/-- What a line adds. -/
noncomputable def readLn (p : Pk) (l : List UInt8) : Option Pk :=
 if (splitL 32 l).getD 0 [] = kwPackage ∧ (splitL 32 l).length = 2 then some ((splitL 32 l).getD 1 [], p.2.1, p.2.2)
 else if (splitL 32 l).getD 0 [] = kwImport ∧ (splitL 32 l).length = 2 then some (p.1, p.2.1 ++ [(splitL 32 l).getD 1 []], p.2.2)
 else if (splitL 32 l).getD 0 [] = kwFunc ∧ 3 < (splitL 32 l).length then
  (if readOk (l.drop (((splitL 32 l).getD 1 []).length + ((splitL 32 l).getD 2 []).length + 7)) = true then
   some (p.1, p.2.1, p.2.2 ++ [((splitL 32 l).getD 1 [], readV ((splitL 32 l).getD 2 []), readTV (l.drop (((splitL 32 l).getD 1 []).length + ((splitL 32 l).getD 2 []).length + 7)))])
  else none)
 else none

noncomputable def readLs : Pk → List (List UInt8) → Option Pk
 | p, [] => some p
 | p, l :: r => match readLn p l with | none => none | some q => readLs q r

theorem pkgB_parts {p : Pk} (h : pkgB p = true) : nameB p.1 = true ∧ (∀ x ∈ p.2.1, nameB x = true) ∧ p.2.1.length ≤ 6 ∧ (1 ≤ p.2.2.length ∧ p.2.2.length ≤ 8) ∧ (∀ f ∈ p.2.2, funcB f = true) := by
 unfold pkgB importsB inB at h
 simp only [Bool.and_eq_true, decide_eq_true_eq] at h
 obtain ⟨⟨h1, ⟨h2, h3, _⟩, h4⟩, h5⟩ := h
 refine ⟨h1, fun x hx => ?_, h3, by omega, fun f hf => ?_⟩
 ·
  obtain ⟨i, hi, rfl⟩ := List.getElem_of_mem hx
  have := h2 i hi
  rwa [List.getD_eq_getElem?_getD, List.getElem?_eq_getElem hi] at this
 ·
  obtain ⟨i, hi, rfl⟩ := List.getElem_of_mem hf
  have := (h5 i hi).1
  rwa [List.getD_eq_getElem?_getD, List.getElem?_eq_getElem hi] at this

end Go.Proofs.Ytaioedcaopbgkaa

/-! Plain facts for chapter 7: ReadPackage of ShowPackage is the package. -/
namespace Go.Proofs.Ytaioedcaopbgkaa
open Go.RowKit

def lineT (x : List UInt8) : List UInt8 := x ++ [10]

def pk0 : Pk := ([], [], [])

/-- What is read of a text: the package, where there is one. -/
noncomputable def readPB (s : List UInt8) : Bool := decide (s.length ≤ 20000) && (match readLs pk0 (linesL s) with | none => false | some p => pkgB p && (showP p == s))
noncomputable def readPV (s : List UInt8) : Pk := if readPB s = true then (readLs pk0 (linesL s)).getD pk0 else pk0

end Go.Proofs.Ytaioedcaopbgkaa
