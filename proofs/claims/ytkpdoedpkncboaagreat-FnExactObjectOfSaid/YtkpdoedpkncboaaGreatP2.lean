/-
  Parts of one proof, one behind the other: TreeS, TreeS2, Math7, Math3C, Draw, Draw2, ChunkS, TreeS3, Math7S, Math7R, Math8, Math8R, Math8H, Math8P, Math9, Math9L, Math10, Math10L, Math10T, Math6D, Math11, Math11F, TreeS4, TreeS5.
-/
import Derived.Test.YtkpdoedpkncboaaGreatP1
import Derived.Test.YtkpdoedpkncboaaGreatRows
import Derived.WalkKit
import Derived.WalkLawsBesides
import Derived.Laws.IdiomStrings
import Derived.Laws.OwnMore
import Derived.Maps.AppendAt
import Derived.Maps.Range
import Derived.OpenShut
import Derived.Handy
import Derived.Lib.AppendStr
import Derived.Deep.RegionHeld3
import Derived.Deep.RegionWith
namespace Go.Proofs.YtkpdoedpkncboaaGreat
open Go.RowKit
def zaa (n : Nd) : Value := .agg #[.int .i64 n.1, .int .i64 n.2.1, .string ⟨n.2.2.1.toArray⟩, .string ⟨n.2.2.2.toArray⟩]
theorem zeC (k a : Int) (p f : List UInt8) (hk : k ≠ 8) (h : p ≠ [] ∨ f ≠ []) : zaD (k, a, p, f) = false := ziw (fun hp => by
 unfold zbC at hp
 simp only at hp
 rcases hp with ⟨_, _, h1, h2⟩ | ⟨_, _, h1, h2⟩ | ⟨_, _, h1, h2⟩ | ⟨h1, _⟩
 ·
  rcases h with h | h; exact h h1; exact h h2
 ·
  rcases h with h | h; exact h h1; exact h h2
 ·
  rcases h with h | h; exact h h1; exact h h2
 ·
  exact hk h1)
theorem zkR (a : Int) : zaD (1, a, [], []) = inB a (-2147483648) 2147483647 := by
 unfold zaD inB
 exact decide_eq_decide.2 (by unfold zbC; simp)
theorem zkS (a : Int) : zaD (2, a, [], []) = inB a 0 2 := by
 unfold zaD inB
 exact decide_eq_decide.2 (by unfold zbC; simp)
theorem nodeB_op (k a : Int) (h : 3 ≤ k ∧ k ≤ 7) : zaD (k, a, [], []) = (a == 0) := by
 rw [Bool.eq_iff_iff, zaV, beq_iff_eq]
 unfold zbC
 simp
 omega
theorem zjj (a : Int) (p f : List UInt8) : zaD (8, a, p, f) = (inB a 0 3 && (zak p && zak f)) := by
 rw [Bool.eq_iff_iff, zaV]
 unfold zbC inB
 simp
theorem zhM (k a : Int) (p f : List UInt8) (h : k < 1 ∨ 8 < k) : zaD (k, a, p, f) = false := ziw (fun hp => by
 unfold zbC at hp
 simp only at hp
 omega)
set_option maxHeartbeats 2000000 in
set_option maxRecDepth 100000 in
theorem zj4 (n : Nd) (w : World) (hp : n.2.2.1.length ≤ 1048576) (hf : n.2.2.2.length ≤ 1048576) :
 Calls Tryz.prog 135 #[zaa n] w fun e w' => e = .returned (.bool (zaD n)) ∧ Below w.heap.size w w' := by
 obtain ⟨k, a, p, f⟩ := n
 simp only at hp hf
 unfold zaa
 simp only
 by_cases h8 : k = 8
 ·
  subst h8
  have HN := zjj a p f
  rw [HN]
  clear HN
  rcases hia : inB a 0 3 with _ | _
  ·
   have HA : Hid (inB a 0 3 = false) := hia
   clear hia
   go_enter Tryz.func135, Tryz.ntmps135
   go_wp2_with fail
   refine (zch _ _ _ _).mono ?_
   rintro e w1 ⟨rfl, rfl⟩
   rw [HA.out]
   go_wp2
   go_ret
   exact ⟨rfl, (Below.refl _ w).alloc (Nat.le_refl _) _⟩
  ·
   have HA : Hid (inB a 0 3 = true) := hia
   clear hia
   rcases hnp : zak p with _ | _
   ·
    have HP : Hid (zak p = false) := hnp
    clear hnp
    go_enter Tryz.func135, Tryz.ntmps135
    go_wp2_with fail
    refine (zch _ _ _ _).mono ?_
    rintro e w1 ⟨rfl, rfl⟩
    rw [HA.out]
    go_wp2_with fail
    refine (zbu p _ hp).mono ?_
    rintro e w1 ⟨rfl, rfl⟩
    rw [HP.out]
    go_wp2
    go_ret
    exact ⟨rfl, (Below.refl _ w).alloc (Nat.le_refl _) _⟩
   ·
    have HP : Hid (zak p = true) := hnp
    clear hnp
    go_enter Tryz.func135, Tryz.ntmps135
    go_wp2_with fail
    refine (zch _ _ _ _).mono ?_
    rintro e w1 ⟨rfl, rfl⟩
    rw [HA.out]
    go_wp2_with fail
    refine (zbu p _ hp).mono ?_
    rintro e w1 ⟨rfl, rfl⟩
    rw [HP.out]
    go_wp2_with fail
    refine (zbu f _ hf).mono ?_
    rintro e w1 ⟨rfl, rfl⟩
    go_wp2
    go_ret
    exact ⟨rfl, (Below.refl _ w).alloc (Nat.le_refl _) _⟩
 ·
  have d8 : (k != 8) = true := bne_iff_ne.2 h8
  have d8' : (k == 8) = false := beq_eq_false_iff_ne.2 h8
  by_cases hpe : p = []
  ·
   subst hpe
   by_cases hfe : f = []
   ·
    subst hfe
    by_cases h1 : k = 1
    ·
     subst h1
     have HN := zkR a
     rw [HN]
     clear HN
     go_enter Tryz.func135, Tryz.ntmps135
     go_wp2_with fail
     refine (zfH _ _).mono ?_
     rintro e w1 ⟨rfl, rfl⟩
     go_wp2
     go_ret
     exact ⟨rfl, (Below.refl _ w).alloc (Nat.le_refl _) _⟩
    ·
     have d1 : (k == 1) = false := beq_eq_false_iff_ne.2 h1
     by_cases h2 : k = 2
     ·
      subst h2
      have HN := zkS a
      rw [HN]
      clear HN
      go_enter Tryz.func135, Tryz.ntmps135
      go_wp2_with fail
      refine (zch _ _ _ _).mono ?_
      rintro e w1 ⟨rfl, rfl⟩
      go_wp2
      go_ret
      exact ⟨rfl, (Below.refl _ w).alloc (Nat.le_refl _) _⟩
     ·
      have d2 : (k == 2) = false := beq_eq_false_iff_ne.2 h2
      by_cases h37 : 3 ≤ k ∧ k ≤ 7
      ·
       have HN := nodeB_op k a h37
       rw [HN]
       clear HN
       rcases (show k = 3 ∨ k = 4 ∨ k = 5 ∨ k = 6 ∨ k = 7 by omega) with rfl | rfl | rfl | rfl | rfl
       all_goals
        go_enter Tryz.func135, Tryz.ntmps135
        go_wp2
        go_ret
        exact ⟨rfl, (Below.refl _ w).alloc (Nat.le_refl _) _⟩
      ·
       have HN := zhM k a [] [] (by omega)
       rw [HN]
       clear HN
       have d3 : (k == 3) = false := beq_eq_false_iff_ne.2 (by omega)
       have d4 : (k == 4) = false := beq_eq_false_iff_ne.2 (by omega)
       have d5 : (k == 5) = false := beq_eq_false_iff_ne.2 (by omega)
       have d6 : (k == 6) = false := beq_eq_false_iff_ne.2 (by omega)
       have d7 : (k == 7) = false := beq_eq_false_iff_ne.2 (by omega)
       clear h37 h1 h2 h8
       go_enter Tryz.func135, Tryz.ntmps135
       go_wp2
       go_ret
       exact ⟨rfl, (Below.refl _ w).alloc (Nat.le_refl _) _⟩
   ·
    have HN := zeC k a [] f h8 (Or.inr hfe)
    rw [HN]
    have hfb : f.isEmpty = false := by simp [hfe]
    clear HN hfe h8
    go_enter Tryz.func135, Tryz.ntmps135
    go_wp2
    go_ret
    exact ⟨rfl, (Below.refl _ w).alloc (Nat.le_refl _) _⟩
  ·
   have HN := zeC k a p f h8 (Or.inl hpe)
   rw [HN]
   have hpb : p.isEmpty = false := by simp [hpe]
   clear HN hpe h8
   go_enter Tryz.func135, Tryz.ntmps135
   go_wp2
   go_ret
   exact ⟨rfl, (Below.refl _ w).alloc (Nat.le_refl _) _⟩
theorem kids_two (k a : Int) (p f : List UInt8) (h : 3 ≤ k ∧ k ≤ 6) : zdO (k, a, p, f) = 2 := if_pos h
theorem kids_if (a : Int) (p f : List UInt8) : zdO (7, a, p, f) = 3 := by unfold zdO; simp
theorem zl7 (a : Int) (p f : List UInt8) : zdO (8, a, p, f) = a := by unfold zdO; simp
theorem zl6 (k a : Int) (p f : List UInt8) (h : k < 3 ∨ 8 < k) : zdO (k, a, p, f) = 0 := by
 unfold zdO
 simp only
 rw [if_neg (by omega), if_neg (by omega), if_neg (by omega)]
set_option maxHeartbeats 2000000 in
set_option maxRecDepth 100000 in
theorem zig (n : Nd) (w : World) :
 Calls Tryz.prog 95 #[zaa n] w fun e w' => e = .returned (.int .i64 (zdO n)) ∧ Below w.heap.size w w' := by
 obtain ⟨k, a, p, f⟩ := n
 unfold zaa
 simp only
 by_cases h36 : 3 ≤ k ∧ k ≤ 6
 ·
  rw [kids_two k a p f h36]
  rcases (show k = 3 ∨ k = 4 ∨ k = 5 ∨ k = 6 by omega) with rfl | rfl | rfl | rfl
  all_goals
   go_enter Tryz.func95, Tryz.ntmps95
   go_wp2
   go_ret
   exact ⟨rfl, (Below.refl _ w).alloc (Nat.le_refl _) _⟩
 ·
  by_cases h7 : k = 7
  ·
   subst h7
   rw [kids_if]
   go_enter Tryz.func95, Tryz.ntmps95
   go_wp2
   go_ret
   exact ⟨rfl, (Below.refl _ w).alloc (Nat.le_refl _) _⟩
  ·
   by_cases h8 : k = 8
   ·
    subst h8
    rw [zl7]
    go_enter Tryz.func95, Tryz.ntmps95
    go_wp2
    go_ret
    exact ⟨rfl, (Below.refl _ w).alloc (Nat.le_refl _) _⟩
   ·
    rw [zl6 k a p f (by omega)]
    have d3 : (k == 3) = false := beq_eq_false_iff_ne.2 (by omega)
    have d4 : (k == 4) = false := beq_eq_false_iff_ne.2 (by omega)
    have d5 : (k == 5) = false := beq_eq_false_iff_ne.2 (by omega)
    have d6 : (k == 6) = false := beq_eq_false_iff_ne.2 (by omega)
    have d7 : (k == 7) = false := beq_eq_false_iff_ne.2 h7
    have d8 : (k == 8) = false := beq_eq_false_iff_ne.2 h8
    clear h36 h7 h8
    go_enter Tryz.func95, Tryz.ntmps95
    go_wp2
    go_ret
    exact ⟨rfl, (Below.refl _ w).alloc (Nat.le_refl _) _⟩
theorem zi8 {w w1 : World} {o : Obj} (h : Below (w.alloc o).heap.size (w.alloc o) w1) : Below w.heap.size w w1 :=
 ((Below.refl _ w).alloc (Nat.le_refl _) o).trans (h.mono (by simp))
def nd0 : Nd := (0, 0, [], [])
def za4 (w : World) (a : Option Addr) (len : Nat) (ns : List Nd) : Prop :=
 ns.length = len ∧ ∀ j, j < len → ∃ b off, a = some ⟨b, off, none⟩ ∧ b < w.heap.size ∧ w.cell? ⟨b, off + j * 4, none⟩ = some (.int .i64 (ns.getD j nd0).1) ∧ w.cell? ⟨b, off + j * 4 + 1, none⟩ = some (.int .i64 (ns.getD j nd0).2.1) ∧ w.cell? ⟨b, off + j * 4 + 2, none⟩ = some (.string ⟨(ns.getD j nd0).2.2.1.toArray⟩) ∧ w.cell? ⟨b, off + j * 4 + 3, none⟩ = some (.string ⟨(ns.getD j nd0).2.2.2.toArray⟩)
theorem za4.keep {w w' : World} {a : Option Addr} {len : Nat} {ns : List Nd} (h : za4 w a len ns) (hs : w.heap.size ≤ w'.heap.size) (hb : ∀ b off, a = some ⟨b, off, none⟩ → b < w.heap.size → w'.heap[b]? = w.heap[b]?) : za4 w' a len ns := by
 refine ⟨h.1, fun j hj => ?_⟩
 obtain ⟨b, off, e, hlt, c0, c1, c2, c3⟩ := h.2 j hj
 have hk := hb b off e hlt
 exact ⟨b, off, e, Nat.lt_of_lt_of_le hlt hs, (World.cell?_of_block (a := ⟨b, off + j * 4, none⟩) hk).trans c0, (World.cell?_of_block (a := ⟨b, off + j * 4 + 1, none⟩) hk).trans c1, (World.cell?_of_block (a := ⟨b, off + j * 4 + 2, none⟩) hk).trans c2, (World.cell?_of_block (a := ⟨b, off + j * 4 + 3, none⟩) hk).trans c3⟩
theorem za4.below {w w' : World} {a : Option Addr} {len : Nat} {ns : List Nd} (h : za4 w a len ns) (hb : Below w.heap.size w w') : za4 w' a len ns :=
 h.keep hb.size (fun b _ _ hlt => hb.block b hlt)
theorem za4.at {w : World} {a : Option Addr} {len : Nat} {ns : List Nd} (h : za4 w a len ns) (hz : 0 < len) : ∃ b off, a = some ⟨b, off, none⟩ ∧ b < w.heap.size ∧
 ∀ j, j < len → w.cell? ⟨b, off + j * 4, none⟩ = some (.int .i64 (ns.getD j nd0).1) ∧ w.cell? ⟨b, off + j * 4 + 1, none⟩ = some (.int .i64 (ns.getD j nd0).2.1) ∧ w.cell? ⟨b, off + j * 4 + 2, none⟩ = some (.string ⟨(ns.getD j nd0).2.2.1.toArray⟩) ∧ w.cell? ⟨b, off + j * 4 + 3, none⟩ = some (.string ⟨(ns.getD j nd0).2.2.2.toArray⟩) := by
 obtain ⟨b, off, rfl, hb, _⟩ := h.2 0 hz
 refine ⟨b, off, rfl, hb, fun j hj => ?_⟩
 obtain ⟨b', off', e, _, c⟩ := h.2 j hj
 injection e with e
 injection e with e1 e2
 subst e1 e2
 exact c
def zam (ns : List Nd) : Prop := ∀ j, (ns.getD j nd0).2.2.1.length ≤ 1048576 ∧ (ns.getD j nd0).2.2.2.length ≤ 1048576
def zcz (ns : List Nd) (k o : Nat) : Int := match zbj (ns.drop k) o with | some d => (k : Int) + d | none => -1
theorem zeX {ns : List Nd} {k : Nat} (hk : k < ns.length) : zcz ns k 1 = endV ns (k : Int) := by rw [zcp]; unfold endN zcz; rw [if_pos hk]; cases zbj (ns.drop k) 1 <;> rfl
theorem zfW (ns : List Nd) (k : Nat) : zcz ns k 0 = (k : Int) := by unfold zcz; rw [zbB]; simp
theorem zdU {ns : List Nd} {k o : Nat} (hk : ns.length ≤ k) : zcz ns k (o + 1) = -1 := by unfold zcz; rw [end_over hk]
theorem zhl {ns : List Nd} {k o : Nat} (hk : k < ns.length) (hn : zaD (ns.getD k nd0) = false) : zcz ns k (o + 1) = -1 := by
 have hg : ns.getD k nd0 = ns[k] := by simp [List.getD, hk]
 rw [hg] at hn
 unfold zcz
 rw [end_bad hk hn]
theorem zeY {ns : List Nd} {k o : Nat} (hk : k < ns.length) (hn : zaD (ns.getD k nd0) = true) : zcz ns k (o + 1) = zcz ns (k + 1) (o + za7 (ns.getD k nd0)) := by
 have hg : ns.getD k nd0 = ns[k] := by simp [List.getD, hk]
 rw [hg] at hn ⊢
 unfold zcz
 rw [zlV hk hn]
 cases zbj (ns.drop (k + 1)) (o + za7 ns[k]) with
 | none => rfl
 | some d => simp only [Option.map_some]; omega
set_option maxHeartbeats 2000000 in
set_option maxRecDepth 100000 in
theorem zgM (a : Option Addr) (len cap : Nat) (ns : List Nd) (at_ : Int) (w : World) (hin : za4 w a len ns) (hsh : zam ns) (hlen : len ≤ 1048576) :
 Calls Tryz.prog 93 #[.slice a len cap, .int .i64 at_] w fun e w' => e = .returned (.int .i64 (endV ns at_)) ∧ Below w.heap.size w w' := by
 obtain rfl : ns.length = len := hin.1
 by_cases hout : at_ < 0 ∨ (ns.length : Int) ≤ at_
 ·
  have HE : Hid (endV ns at_ = -1) := zca ns at_ hout
  by_cases h0 : at_ < 0
  ·
   go_enter Tryz.func93, Tryz.ntmps93
   go_wp2
   go_ret
   exact ⟨by rw [HE.out]; rfl, Below.refl _ _⟩
  ·
   have h1 : (ns.length : Int) ≤ at_ := by omega
   clear hout
   go_enter Tryz.func93, Tryz.ntmps93
   go_wp2
   go_ret
   exact ⟨by rw [HE.out]; rfl, Below.refl _ _⟩
 ·
  obtain ⟨k0, rfl⟩ : ∃ k0 : Nat, at_ = (k0 : Int) := Int.eq_ofNat_of_zero_le (by omega)
  have hk0 : k0 < ns.length := by omega
  have h0 : ¬ (k0 : Int) < 0 := by omega
  have h1 : ¬ (ns.length : Int) ≤ (k0 : Int) := by omega
  have HE : Hid (zcz ns k0 1 = endV ns (k0 : Int)) := zeX hk0
  have HI : Hid (za4 w a ns.length ns) := hin
  have HS : Hid (zam ns) := hsh
  clear hout hin hsh
  go_enter Tryz.func93, Tryz.ntmps93
  go_wp2
  go_loopw [1, 5] (fun av ov wr => ∃ k o : Nat, av = .int .i64 k ∧ ov = .int .i64 o ∧ k ≤ ns.length ∧ o ≤ 1 + 3 * k ∧ Hid (zcz ns k o = endV ns (k0 : Int)) ∧ Below w.heap.size w wr) (fun av _ _ => ns.length - (intOf av).toNat)
  case atStart => exact ⟨k0, 1, rfl, rfl, by omega, by omega, HE, Below.refl _ _⟩
  case round =>
   obtain ⟨k, o, rfl, rfl, hk, ho, HT, hb⟩ := hrel
   clear HE
   by_cases hoz : o = 0
   ·
    subst hoz
    have HF : Hid ((k : Int) = endV ns (k0 : Int)) := by exact (by rw [← HT.out, zfW] : (k : Int) = endV ns (k0 : Int))
    go_wp2
    go_ret
    exact ⟨by rw [← HF.out]; rfl, hb⟩
   ·
    obtain ⟨o', rfl⟩ : ∃ o', o = o' + 1 := ⟨o - 1, by omega⟩
    have ho1 : (0 : Int) < ((o' + 1 : Nat) : Int) := by omega
    by_cases hkl : (ns.length : Int) ≤ (k : Int)
    ·
     have HF : Hid (endV ns (k0 : Int) = -1) := by exact (by rw [← HT.out, zdU (by omega)] : endV ns (k0 : Int) = -1)
     clear hoz
     go_wp2
     go_ret
     exact ⟨by rw [HF.out]; rfl, hb⟩
    ·
     obtain ⟨b, off, rfl, hbl, hcells⟩ := (HI.out.below hb).at (by omega)
     obtain ⟨c0, c1, c2, c3⟩ := hcells k (by omega)
     have hs := HS.out k
     obtain ⟨n, hn⟩ : ∃ n, ns.getD k nd0 = n := ⟨_, rfl⟩
     rw [hn] at c0 c1 c2 c3 hs
     have HN : Hid (ns.getD k nd0 = n) := hn
     have HC : Hid (_) := fun W : World => zj4 n W hs.1 hs.2
     have HK : Hid (_) := fun W : World => zig n W
     have hkv := @zaT n
     obtain ⟨kd, aa, p, f⟩ := n
     unfold zaa at HC HK
     simp only at c0 c1 c2 c3 hs HC HK
     clear hn hcells hoz
     go_wp2_with fail
     refine Calls.mono (HC.out _) ?_
     rintro e w1 ⟨rfl, hb1⟩
     have hB1 := hb.trans (hb1.mono hb.size)
     have bc := hb1.block b hbl
     have d0 := (World.cell?_of_block (a := ⟨b, off + k * 4, none⟩) bc).trans c0
     have d1 := (World.cell?_of_block (a := ⟨b, off + k * 4 + 1, none⟩) bc).trans c1
     have d2 := (World.cell?_of_block (a := ⟨b, off + k * 4 + 2, none⟩) bc).trans c2
     have d3 := (World.cell?_of_block (a := ⟨b, off + k * 4 + 3, none⟩) bc).trans c3
     clear c0 c1 c2 c3 hb1 hb HC bc
     rcases hnb : zaD (kd, aa, p, f) with _ | _
     ·
      have HF : Hid (endV ns (k0 : Int) = -1) := by exact (by rw [← HT.out, zhl (by omega) (by rw [HN.out]; exact hnb)] : endV ns (k0 : Int) = -1)
      clear hnb hkv
      go_wp2
      go_ret
      exact ⟨by rw [HF.out]; rfl, hB1⟩
     ·
      obtain ⟨hk1, hk3⟩ := hkv hnb
      have HT2 : Hid (zcz ns (k + 1) (o' + za7 (kd, aa, p, f)) = endV ns (k0 : Int)) := by
       have := zeY (o := o') (show k < ns.length by omega) (by rw [HN.out]; exact hnb)
       rw [HN.out] at this
       exact (by rw [← this]; exact HT.out : zcz ns (k + 1) (o' + za7 (kd, aa, p, f)) = endV ns (k0 : Int))
      clear hnb hkv
      go_wp2_with fail
      refine Calls.mono (HK.out _) ?_
      rintro e w2 ⟨rfl, hb2⟩
      rw [hk1]
      have hB2 := hB1.trans (hb2.mono hB1.size)
      obtain ⟨q, hq⟩ : ∃ q, za7 (kd, aa, p, f) = q := ⟨_, rfl⟩
      rw [hq] at HT2 hk3 ⊢
      have hqi : (q : Int) ≤ 3 := by omega
      clear hk1 hq hb2 hB1 d0 d1 d2 d3 HK
      go_wp2
      go_roundw
      case rel => exact ⟨k + 1, o' + q, by go_num, by go_num, by omega, by omega, HT2, hB2⟩
      case measure => simp [intOf]; omega
def leT (a b : List UInt8) : Bool := Op.bytesLess a b || (a == b)
def zev (l : List (List UInt8)) : Bool := decide (∀ i, i < l.length - 1 → leT (l.getD (i + 1) []) (l.getD i []) = false)
theorem zgN {l : List (List UInt8)} {j : Nat} (hj : l.length ≤ j + 1) (h : ∀ i, i < j → leT (l.getD (i + 1) []) (l.getD i []) = false) : zev l = true := decide_eq_true (fun i hi => h i (by omega))
theorem zio {l : List (List UInt8)} {j : Nat} (hj : j + 1 < l.length) (h : leT (l.getD (j + 1) []) (l.getD j []) = true) : zev l = false := decide_eq_false (fun g => by rw [g j (by omega)] at h; cases h)
def zal (l : List (List UInt8)) : Bool := decide (∀ i, i < l.length → zak (l.getD i []) = true) && (decide (l.length ≤ 6) && zev l)
theorem zhW {l : List (List UInt8)} {j : Nat} (hj : j < l.length) (h : zak (l.getD j []) = false) : zal l = false := by
 unfold zal
 rw [decide_eq_false (fun g => by rw [g j hj] at h; cases h)]; rfl
theorem zh6 {l : List (List UInt8)} (h : ∀ i, i < l.length → zak (l.getD i []) = true) : zal l = (decide (l.length ≤ 6) && zev l) := by
 unfold zal
 rw [decide_eq_true h]; rfl
abbrev Fn := List UInt8 × Int × List Nd
abbrev Pk := List UInt8 × List (List UInt8) × List Fn
def fn0 : Fn := ([], 0, [])
def zcW (f : Fn) : Bool := zak f.1 && (inB f.2.1 0 3 && zaI f.2.2)
def atGo (s : List UInt8) : List Fn → Nat → Int
 | [], _ => -1
 | f :: r, k => if f.1 = s then (k : Int) else atGo s r (k + 1)
def atV (fs : List Fn) (s : List UInt8) : Int := atGo s fs 0
theorem zf7 {fs : List Fn} {k : Nat} (hk : k < fs.length) (s : List UInt8) : atGo s (fs.drop k) k = if (fs.getD k fn0).1 = s then (k : Int) else atGo s (fs.drop (k + 1)) (k + 1) := by
 rw [List.drop_eq_getElem_cons hk, atGo]
 have : fs.getD k fn0 = fs[k] := by rw [List.getD_eq_getElem?_getD, List.getElem?_eq_getElem hk]; rfl
 rw [this]
def zbi (fs : List Fn) (i : Nat) : Prop := zcW (fs.getD i fn0) = true ∧ atV fs (fs.getD i fn0).1 = (i : Int)
instance (fs : List Fn) (i : Nat) : Decidable (zbi fs i) := by unfold zbi; infer_instance
def pkgB (p : Pk) : Bool := (zak p.1 && (zal p.2.1 && inB (p.2.2.length : Int) 1 8)) && decide (∀ i, i < p.2.2.length → zbi p.2.2 i)

def Code (w : World) (B : Nat) (a : Option Addr) (len : Nat) : Prop :=
 ∀ j, j < len → ∃ b off x, a = some ⟨b, off, none⟩ ∧ b < B ∧ w.cell? ⟨b, off + j, none⟩ = some (.int .u8 x) ∧ 0 ≤ x ∧ x ≤ 255
theorem zcx (w : World) (row : Option Nat) : w.grownBy w.drew row := ⟨rfl, rfl, rfl, Nat.le_refl _, fun _ _ _ => rfl⟩
theorem zcJ (w : World) (B o : Nat) (v : Value) : w.grownBy (w.setCell ⟨B, o, none⟩ v) (some B) :=
 ⟨rfl, rfl, rfl, by simp, fun k _ hne => Below.heap_setCell w _ v k (fun e => hne (by rw [e]))⟩

def zae (w : World) (a : Option Addr) (len : Nat) (ts : List (List UInt8)) : Prop :=
 ts.length = len ∧ ∀ j, j < len → ∃ b off, a = some ⟨b, off, none⟩ ∧ b < w.heap.size ∧ w.cell? ⟨b, off + j, none⟩ = some (.string ⟨(ts.getD j []).toArray⟩)
theorem zae.below {w w' : World} {a : Option Addr} {len : Nat} {ts : List (List UInt8)} (h : zae w a len ts) (hb : Below w.heap.size w w') : zae w' a len ts := by
 refine ⟨h.1, fun j hj => ?_⟩
 obtain ⟨b, off, e, hlt, c⟩ := h.2 j hj
 exact ⟨b, off, e, Nat.lt_of_lt_of_le hlt hb.size, (hb.cell (p := ⟨b, off + j, none⟩) hlt).trans c⟩
theorem zae.at {w : World} {a : Option Addr} {len : Nat} {ts : List (List UInt8)} (h : zae w a len ts) (hz : 0 < len) : ∃ b off, a = some ⟨b, off, none⟩ ∧ b < w.heap.size ∧ ∀ j, j < len → w.cell? ⟨b, off + j, none⟩ = some (.string ⟨(ts.getD j []).toArray⟩) := by
 obtain ⟨b, off, rfl, hb, _⟩ := h.2 0 hz
 refine ⟨b, off, rfl, hb, fun j hj => ?_⟩
 obtain ⟨b', off', e, _, c⟩ := h.2 j hj
 injection e with e
 injection e with e1 e2
 subst e1 e2
 exact c
theorem zdt {w : World} {base n : Nat} {v : Value} {ts : List (List UInt8)} (h : w.ownsRow base 9 1 v n (strV ts)) : ts.length = n ∧ ∃ a cap, v = .slice a n cap ∧ zae w a n ts := by
 have hlen : ts.length = n := by have := h.1; rw [zie] at this; omega
 refine ⟨hlen, ?_⟩
 rcases zar h with ⟨rfl, rfl, _⟩ | ⟨g, cp, rfl⟩
 ·
  exact ⟨none, 0, rfl, hlen, fun j hj => by omega⟩
 ·
  refine ⟨some ⟨g, 0, none⟩, cp, rfl, hlen, fun j hj => ⟨g, 0, rfl, (h.lt g rfl).2, ?_⟩⟩
  rw [Nat.zero_add]; exact zdG h hlen j hj
theorem zlP (ts : List (List UInt8)) (k : Nat) (hk : k < ts.length) : (ts.take (k + 1)).flatten = (ts.take k).flatten ++ ts.getD k [] := by
 have hg : ts.getD k [] = ts[k] := by simp [List.getD, hk]
 rw [hg, List.take_succ_eq_append_getElem hk, List.flatten_append]; simp
theorem zlO (ts : List (List UInt8)) (k : Nat) : (ts.take k).flatten.length ≤ ts.flatten.length := by
 have h := congrArg (fun x => x.flatten.length) (List.take_append_drop k ts)
 simp only [List.flatten_append, List.length_append] at h
 omega
set_option maxHeartbeats 1000000 in
set_option maxRecDepth 100000 in
theorem zj3 (a : Option Addr) (len cap : Nat) (ns : List Nd) (w : World) (hin : za4 w a len ns) (hsh : zam ns) (hlen : len ≤ 1048576) :
 Calls Tryz.prog 62 #[.slice a len cap] w fun e w' => e = .returned (.bool (zaI ns)) ∧ Below w.heap.size w w' := by
 obtain rfl : ns.length = len := hin.1
 have HC : Hid (_) := fun W (h : za4 W a ns.length ns) => zgM a ns.length cap ns 0 W h hsh hlen
 have HI : Hid (za4 w a ns.length ns) := hin
 clear hin hsh
 by_cases h : 1 ≤ (ns.length : Int) ∧ (ns.length : Int) ≤ 60
 ·
  have HB : Hid (inB (ns.length : Int) 1 60 = true) := zc7 _ _ _ h.1 h.2
  have HT : Hid (zaI ns = (endV ns 0 == (ns.length : Int))) := by
   exact (by unfold zaI; rw [Bool.eq_iff_iff, decide_eq_true_iff, beq_iff_eq]; constructor; exact fun x => x.2; exact fun x => ⟨by omega, x⟩ : zaI ns = (endV ns 0 == (ns.length : Int)))
  go_enter Tryz.func62, Tryz.ntmps62
  go_wp2_with fail
  refine (zch _ _ _ _).mono ?_
  rintro e w1 ⟨rfl, rfl⟩
  rw [HB.out]
  go_wp2_with fail
  refine Calls.mono (HC.out _ HI.out) ?_
  rintro e w2 ⟨rfl, hb2⟩
  go_wp2
  go_ret
  exact ⟨by rw [HT.out]; rfl, hb2⟩
 ·
  have HB : Hid (inB (ns.length : Int) 1 60 = false) := zbL _ _ _ (by omega)
  have HT : Hid (zaI ns = false) := by exact (decide_eq_false (fun x => h (by omega)) : zaI ns = false)
  go_enter Tryz.func62, Tryz.ntmps62
  go_wp2_with fail
  refine (zch _ _ _ _).mono ?_
  rintro e w1 ⟨rfl, rfl⟩
  rw [HB.out]
  go_wp2
  go_ret
  exact ⟨by rw [HT.out]; rfl, Below.refl _ _⟩
theorem zje {p : Pk} (h : pkgB p = true) : zak p.1 = true ∧ (∀ x ∈ p.2.1, zak x = true) ∧ p.2.1.length ≤ 6 ∧ (1 ≤ p.2.2.length ∧ p.2.2.length ≤ 8) ∧ (∀ f ∈ p.2.2, zcW f = true) := by
 unfold pkgB zal inB at h
 simp only [Bool.and_eq_true, decide_eq_true_eq] at h
 obtain ⟨⟨h1, ⟨h2, h3, _⟩, h4⟩, h5⟩ := h
 refine ⟨h1, fun x hx => ?_, h3, by omega, fun f hf => ?_⟩
 ·
  obtain ⟨i, hi, rfl⟩ := List.getElem_of_mem hx
  have := h2 i hi
  rwa [List.getD_eq_getElem?_getD, List.getElem?_eq_getElem hi] at this
 ·
  obtain ⟨i, hi, rfl⟩ := List.getElem_of_mem hf
  have := (h5 i hi).1
  rwa [List.getD_eq_getElem?_getD, List.getElem?_eq_getElem hi] at this
def pk0 : Pk := ([], [], [])
theorem zhT : ∀ x : List UInt8, Op.bytesLess x x = false
 | [] => rfl
 | a :: r => by simp [Op.bytesLess, zhT r]
theorem zdv : ∀ {x y z : List UInt8}, Op.bytesLess x y = true → Op.bytesLess y z = true → Op.bytesLess x z = true
 | x, y, [], _, h => by cases y <;> simp [Op.bytesLess] at h
 | [], y, c :: z, _, _ => rfl
 | a :: x, [], c :: z, h, _ => by simp [Op.bytesLess] at h
 | a :: x, b :: y, c :: z, h, k => by
  simp only [Op.bytesLess, Bool.or_eq_true, decide_eq_true_eq, Bool.and_eq_true, beq_iff_eq] at h k ⊢
  rcases h with h | ⟨rfl, h⟩
  ·
   rcases k with k | ⟨rfl, k⟩
   ·
    exact Or.inl (UInt8.lt_trans h k)
   ·
    exact Or.inl h
  ·
   rcases k with k | ⟨rfl, k⟩
   ·
    exact Or.inl k
   ·
    exact Or.inr ⟨rfl, zdv h k⟩
theorem zhS : ∀ {x y : List UInt8}, Op.bytesLess x y = false → Op.bytesLess y x = false → x = y
 | [], [], _, _ => rfl
 | [], b :: y, h, _ => by simp [Op.bytesLess] at h
 | a :: x, [], _, k => by simp [Op.bytesLess] at k
 | a :: x, b :: y, h, k => by
  simp only [Op.bytesLess, Bool.or_eq_false_iff, decide_eq_false_iff_not, Bool.and_eq_false_iff, beq_eq_false_iff_ne] at h k
  have hab : a = b := by
   have h1 := h.1
   have h2 := k.1
   rw [UInt8.lt_iff_toNat_lt] at h1 h2
   exact UInt8.toNat_inj.1 (by omega)
  subst hab
  rw [zhS (h.2.resolve_left (by simp)) (k.2.resolve_left (by simp))]
def names8 (ps : List Pk) : List (List UInt8) := ps.map (·.1)
def pj8 (ps : List Pk) (i : Nat) : Prop := pkgB (ps.getD i pk0) = true ∧ (0 < i → leT (ps.getD i pk0).1 (ps.getD (i - 1) pk0).1 = false)
instance (ps : List Pk) (i : Nat) : Decidable (pj8 ps i) := by unfold pj8; infer_instance
def projB (ps : List Pk) : Bool := decide (∀ i, i < ps.length → pj8 ps i) && inB (ps.length : Int) 1 8
def at8Go (s : List UInt8) : List Pk → Nat → Int
 | [], _ => -1
 | p :: r, k => if p.1 = s then (k : Int) else at8Go s r (k + 1)
def at8 (ps : List Pk) (s : List UInt8) : Int := at8Go s ps 0
def free8 (ps : List Pk) (out : List (List UInt8)) (p : Pk) : Prop := ¬ p.1 ∈ out ∧ ∀ m ∈ p.2.1, m ∈ names8 ps → m ∈ out
instance (ps : List Pk) (out : List (List UInt8)) (p : Pk) : Decidable (free8 ps out p) := by unfold free8; infer_instance

def sw (l : List Nat) (i j : Nat) : List Nat := (l.set i (l.getD j 0)).set j (l.getD i 0)

def farB (ps : List Pk) (p : Pk) (q : List UInt8) : Bool := decide (q ≠ p.1 ∧ (¬ q ∈ p.2.1 ∨ at8 ps q < 0))
def ofPk (ps : List Pk) (p : Pk) (q : List UInt8) : Pk := if q = p.1 then p else ps.getD (at8 ps q).toNat pk0
def call9 (ps : List Pk) (p : Pk) (i : Int) (n : Nd) : Int :=
 if farB ps p n.2.2.1 = true then 1
 else if atV (ofPk ps p n.2.2.1).2.2 n.2.2.2 < 0 ∨ (n.2.2.1 = p.1 ∧ i ≤ atV (ofPk ps p n.2.2.1).2.2 n.2.2.2) then 2
 else if ((ofPk ps p n.2.2.1).2.2.getD (atV (ofPk ps p n.2.2.1).2.2 n.2.2.2).toNat fn0).2.1 ≠ n.2.1 then 3 else 0
def pkOf (ps : List Pk) (s : List UInt8) : Pk := ps.getD (at8 ps s).toNat pk0
def callB (ps : List Pk) (s : List UInt8) (i : Int) (n : Nd) : Prop := projB ps = true ∧ 0 ≤ at8 ps s ∧ zaD n = true ∧ n.1 = 8 ∧ 0 ≤ i ∧ i < ((pkOf ps s).2.2.length : Int)
instance (ps : List Pk) (s : List UInt8) (i : Int) (n : Nd) : Decidable (callB ps s i n) := by unfold callB; infer_instance
def arg9 (f : Fn) (n : Nd) : Prop := n.1 = 2 ∧ f.2.1 ≤ n.2.1
instance (f : Fn) (n : Nd) : Decidable (arg9 f n) := by unfold arg9; infer_instance
def bad9 (ps : List Pk) (p : Pk) (i : Nat) (n : Nd) : Prop := n.1 = 8 ∧ call9 ps p i n ≠ 0
instance (ps : List Pk) (p : Pk) (i : Nat) (n : Nd) : Decidable (bad9 ps p i n) := by unfold bad9; infer_instance
def fnGo (ps : List Pk) (p : Pk) (i : Nat) (f : Fn) : List Nd → Int → Int
 | [], c => c
 | n :: r, c => if arg9 f n then 3 else fnGo ps p i f r (if bad9 ps p i n then 4 else c)
def func9 (ps : List Pk) (p : Pk) (i : Nat) : Int := fnGo ps p i (p.2.2.getD i fn0) (p.2.2.getD i fn0).2.2 0
def miss9 (ps : List Pk) (p : Pk) : Prop := ∃ m ∈ p.2.1, at8 ps m < 0
instance (ps : List Pk) (p : Pk) : Decidable (miss9 ps p) := by unfold miss9; infer_instance

def za1 (t : List Nd) (a : Int) : List Int := zad t (za7 (t.getD a.toNat nd0)) (a + 1)
def Word10 (v : Int) : Prop := -2147483648 ≤ v ∧ v ≤ 2147483647
def zb5 (t : List Nd) : Prop := ∀ n ∈ t, zaD n = true

theorem ziN (l : List Nd) {a : Int} (h : a < 0) : endV l a = -1 := if_pos h
theorem endV_ge (l : List Nd) (a : Int) : -1 ≤ endV l a := by
 unfold endV
 split
 ·
  omega
 ·
  unfold endN
  split
  ·
   split <;> omega
  ·
   omega
theorem zf5 (l : List Nd) : ∀ k, zc8 l k (-1) = -1
 | 0 => rfl
 | k + 1 => by rw [zc8, ziN l (by decide), zf5 l k]
theorem zip (l : List Nd) : ∀ (k : Nat) (next : Int), 0 ≤ zc8 l k next → ∀ i, i < k → 0 ≤ endV l ((zad l k next).getD i 0)
 | 0, _, _, i, hi => absurd hi (Nat.not_lt_zero _)
 | k + 1, next, h, i, hi => by
  rw [zc8] at h
  have h0 : 0 ≤ endV l next := by
   rcases Int.lt_or_le (endV l next) 0 with h1 | h1
   ·
    have e : endV l next = -1 := by have := endV_ge l next; omega
    rw [e, zf5] at h
    omega
   ·
    exact h1
  rw [zad]
  rcases i with _ | i
  ·
   exact h0
  ·
   exact zip l k _ h i (by omega)
theorem zjM {l : List Nd} {a : Int} (h : 0 ≤ endV l a) : ∃ q : Nat, a = (q : Int) ∧ q < l.length := by
 rcases Int.lt_or_le a 0 with h1 | h1
 ·
  rw [ziN l h1] at h; omega
 ·
  obtain ⟨q, rfl⟩ : ∃ q : Nat, a = (q : Int) := ⟨a.toNat, by omega⟩
  exact ⟨q, rfl, (zac h).1⟩
theorem zbP {t : List Nd} {a : Nat} (h : 0 ≤ endV t (a : Int)) {i : Nat} (hi : i < za7 (t.getD a nd0)) : ∃ q : Nat, (za1 t (a : Int)).getD i 0 = (q : Int) ∧ q < t.length ∧ 0 ≤ endV t (q : Int) := by
 obtain ⟨_, _, hc, h1, _⟩ := zac h
 have hc2 : zc8 t (za7 (t.getD a nd0)) ((a : Int) + 1) = endV t (a : Int) := hc
 have hp := zip t (za7 (t.getD a nd0)) ((a : Int) + 1) (by rw [hc2]; exact h) i hi
 have e : (za1 t (a : Int)).getD i 0 = (zad t (za7 (t.getD a nd0)) ((a : Int) + 1)).getD i 0 := rfl
 rw [← e] at hp
 obtain ⟨q, hq, hl⟩ := zjM hp
 rw [hq] at hp
 exact ⟨q, hq, hl, hp⟩
theorem zb0 (t : List Nd) (a : Nat) : (za1 t (a : Int)).length = za7 (t.getD a nd0) := by
 unfold za1
 rw [zcF, Int.toNat_natCast]

inductive One : List Nd → Prop
 | mk (n : Nd) (ks : List (List Nd)) : zaD n = true → ks.length = za7 n → (∀ k ∈ ks, One k) → One (n :: ks.flatten)
theorem One.pos {s : List Nd} (h : One s) : 0 < s.length := by cases h; simp
theorem zis : ∀ (ks : List (List Nd)) (post : List Nd), (∀ k ∈ ks, ∀ post, zbj (k ++ post) 1 = some k.length) → zbj (ks.flatten ++ post) ks.length = some ks.flatten.length
 | [], post, _ => by simp [zbB]
 | k :: r, post, h => by
  have h1 := h k List.mem_cons_self (r.flatten ++ post)
  have h2 := zis r post (fun x hx => h x (List.mem_cons_of_mem _ hx))
  rw [List.flatten_cons, List.append_assoc, List.length_cons, Nat.add_comm, zdA, h1]
  simp only [Option.bind_some, List.drop_left, h2, Option.map_some, List.length_append]
theorem One.end_ {s : List Nd} (h : One s) : ∀ post, zbj (s ++ post) 1 = some s.length := by
 induction h with
 | mk n ks hn hk _ ih =>
  intro post
  have h2 := zis ks post ih
  rw [List.cons_append, zbd, if_pos hn, Nat.zero_add, ← hk, h2]
  simp
theorem parse : ∀ (l : List Nd) (o d : Nat), zbj l o = some d → ∃ ks : List (List Nd), ks.length = o ∧ (∀ k ∈ ks, One k) ∧ l.take d = ks.flatten
 | l, 0, d, h => by
  rw [zbB] at h
  injection h with h
  subst h
  exact ⟨[], rfl, (fun k hk => by cases hk), by simp⟩
 | [], o + 1, d, h => by rw [zcj] at h; cases h
 | n :: r, o + 1, d, h => by
  rw [zbd] at h
  split at h
  ·
   rename_i hn
   cases he : zbj r (o + za7 n) with
   | none => rw [he] at h; cases h
   | some e =>
    rw [he] at h
    simp only [Option.map_some, Option.some.injEq] at h
    subst h
    obtain ⟨ks, hl, ho, hf⟩ := parse r (o + za7 n) e he
    refine ⟨(n :: (ks.take (za7 n)).flatten) :: ks.drop (za7 n), by simp; omega, fun k hk => ?_, ?_⟩
    ·
     rcases List.mem_cons.1 hk with e1 | e1
     ·
      rw [e1]
      exact One.mk n _ hn (by simp; omega) (fun k hk => ho k (List.mem_of_mem_take hk))
     ·
      exact ho k (List.mem_of_mem_drop e1)
    ·
     rw [List.take_succ_cons, hf, List.flatten_cons, List.cons_append, ← List.flatten_append, List.take_append_drop]
  ·
   cases h
theorem zjh {l : List Nd} {d : Nat} (h : zbj l 1 = some d) : One (l.take d) := by
 obtain ⟨ks, hl, ho, hf⟩ := parse l 1 d h
 obtain ⟨k, rfl⟩ : ∃ k, ks = [k] := List.length_eq_one_iff.1 hl
 rw [hf]
 simpa using ho k (by simp)
theorem One.pre {a b x y : List Nd} (ha : One a) (hb : One b) (h : a ++ x = b ++ y) : a = b ∧ x = y := by
 have h1 := ha.end_ x
 rw [h, hb.end_ y] at h1
 injection h1 with h1
 exact List.append_inj h h1.symm
theorem zgd : ∀ {ks js : List (List Nd)}, (∀ k ∈ ks, One k) → (∀ k ∈ js, One k) → ks.length = js.length → ks.flatten = js.flatten → ks = js
 | [], [], _, _, _, _ => rfl
 | [], _ :: _, _, _, h, _ => by cases h
 | _ :: _, [], _, _, h, _ => by cases h
 | a :: r, b :: t, ha, hb, hl, hf => by
  rw [List.flatten_cons, List.flatten_cons] at hf
  obtain ⟨rfl, h2⟩ := (ha a List.mem_cons_self).pre (hb b List.mem_cons_self) hf
  rw [zgd (fun k hk => ha k (List.mem_cons_of_mem _ hk)) (fun k hk => hb k (List.mem_cons_of_mem _ hk)) (by simpa using hl) h2]
theorem zdd {t s post : List Nd} {a : Nat} (h : t.drop a = s ++ post) (hs : One s) : endV t (a : Int) = ((a + s.length : Nat) : Int) := by
 have ha : a < t.length := by
  rcases Nat.lt_or_ge a t.length with h1 | h1
  ·
   exact h1
  ·
   rw [List.drop_eq_nil_of_le h1] at h
   have := hs.pos
   have h2 := congrArg List.length h
   simp at h2
   omega
 rw [zcp]
 unfold endN
 rw [if_pos ha, h, hs.end_ post]
 simp
theorem zcM {t : List Nd} {a : Nat} (h : 0 ≤ endV t (a : Int)) : ∃ s post, t.drop a = s ++ post ∧ One s := by
 rw [zcp] at h
 unfold endN at h
 split at h
 ·
  cases he : zbj (t.drop a) 1 with
  | none => rw [he] at h; simp at h
  | some d => exact ⟨_, _, (List.take_append_drop d (t.drop a)).symm, zjh he⟩
 ·
  omega
theorem zaM {t : List Nd} : zaI t = true ↔ (t.length ≤ 60 ∧ One t) := by
 constructor
 ·
  intro h
  have h1 := of_decide_eq_true h
  refine ⟨h1.1.2, ?_⟩
  obtain ⟨s, post, e, hs⟩ := zcM (t := t) (a := 0) (by rw [show ((0 : Nat) : Int) = 0 from rfl, h1.2]; omega)
  have h2 := zdd e hs
  rw [show ((0 : Nat) : Int) = 0 from rfl, h1.2] at h2
  rw [List.drop_zero] at e
  have h3 := congrArg List.length e
  rw [List.length_append] at h3
  have h4 : post = [] := List.eq_nil_of_length_eq_zero (by omega)
  rw [e, h4, List.append_nil]
  exact hs
 ·
  rintro ⟨h1, h2⟩
  have h3 := zdd (t := t) (a := 0) (post := []) (by simp) h2
  refine decide_eq_true ⟨⟨h2.pos, h1⟩, ?_⟩
  rw [show (0 : Int) = ((0 : Nat) : Int) from rfl, h3]
  simp
theorem ze1 (l : List Nd) : ∀ (k : Nat) (q : Int), zc8 l (k + 1) q = endV l (zc8 l k q)
 | 0, _ => rfl
 | k + 1, q => by rw [zc8, ze1 l k]; rfl
theorem zf4 {t post : List Nd} {a : Nat} {n : Nd} {ks : List (List Nd)} (h : t.drop a = (n :: ks.flatten) ++ post) (ho : ∀ k ∈ ks, One k) : ∀ i, i ≤ ks.length → zc8 t i ((a + 1 : Nat) : Int) = ((a + 1 + (ks.take i).flatten.length : Nat) : Int) ∧ t.drop (a + 1 + (ks.take i).flatten.length) = (ks.drop i).flatten ++ post
 | 0, _ => by
  refine ⟨by simp [zc8], ?_⟩
  have h1 : t.drop (a + 1) = ks.flatten ++ post := by rw [← List.drop_drop, h]; rfl
  simpa using h1
 | i + 1, hi => by
  obtain ⟨e1, e2⟩ := zf4 h ho i (by omega)
  have hi2 : i < ks.length := by omega
  have hd : (ks.drop i).flatten = ks[i] ++ (ks.drop (i + 1)).flatten := by rw [List.drop_eq_getElem_cons hi2, List.flatten_cons]
  have ht : (ks.take (i + 1)).flatten.length = (ks.take i).flatten.length + ks[i].length := by
   rw [List.take_succ_eq_append_getElem hi2, List.flatten_append, List.length_append]
   simp
  rw [hd, List.append_assoc] at e2
  have h3 := zdd e2 (ho _ (List.getElem_mem hi2))
  refine ⟨by rw [ze1, e1, h3, ht]; omega, ?_⟩
  rw [ht, ← Nat.add_assoc, ← List.drop_drop, e2, List.drop_left]
def zai (t : List Nd) : Bool := decide (t.length = 1 ∧ (t.getD 0 nd0).1 = 1)
def zap (t : List Nd) (v : Int) : Bool := zai t && decide ((t.getD 0 nd0).2.1 = v)
def mk11 (n : Nd) (rs : List (List Nd)) : List Nd :=
 if 3 ≤ n.1 ∧ n.1 ≤ 6 then
  if (zai (rs.getD 0 []) && zai (rs.getD 1 [])) = true then
   if zbt n.1 ((rs.getD 0 []).getD 0 nd0).2.1 ((rs.getD 1 []).getD 0 nd0).2.1 = true then [(1, zb3 n.1 ((rs.getD 0 []).getD 0 nd0).2.1 ((rs.getD 1 []).getD 0 nd0).2.1, [], [])] else n :: rs.flatten
  else if (decide (n.1 ≤ 4) && zap (rs.getD 1 []) 0 || decide (5 ≤ n.1) && zap (rs.getD 1 []) 1) = true then rs.getD 0 []
  else if (decide (n.1 = 3) && zap (rs.getD 0 []) 0 || decide (n.1 = 5) && zap (rs.getD 0 []) 1) = true then rs.getD 1 []
  else n :: rs.flatten
 else if n.1 = 7 then
  if zai (rs.getD 0 []) = true then (if zap (rs.getD 0 []) 0 = true then rs.getD 2 [] else rs.getD 1 []) else n :: rs.flatten
 else n :: rs.flatten
theorem zfP (n : Nd) (rs : List (List Nd)) : mk11 n rs = n :: rs.flatten ∨ (3 ≤ n.1 ∧ n.1 ≤ 6 ∧ ∃ v, -2147483648 ≤ v ∧ v ≤ 2147483647 ∧ mk11 n rs = [(1, v, [], [])]) ∨ (3 ≤ n.1 ∧ n.1 ≤ 6 ∧ (mk11 n rs = rs.getD 0 [] ∨ mk11 n rs = rs.getD 1 [])) ∨ (n.1 = 7 ∧ (mk11 n rs = rs.getD 1 [] ∨ mk11 n rs = rs.getD 2 [])) := by
 unfold mk11
 split
 ·
  rename_i h
  split
  ·
   split
   ·
    exact Or.inr (Or.inl ⟨h.1, h.2, _, (ziP _ _ _).1, (ziP _ _ _).2, rfl⟩)
   ·
    exact Or.inl rfl
  ·
   split
   ·
    exact Or.inr (Or.inr (Or.inl ⟨h.1, h.2, Or.inl rfl⟩))
   ·
    split
    ·
     exact Or.inr (Or.inr (Or.inl ⟨h.1, h.2, Or.inr rfl⟩))
    ·
     exact Or.inl rfl
 ·
  split
  ·
   rename_i h7
   split
   ·
    split
    ·
     exact Or.inr (Or.inr (Or.inr ⟨h7, Or.inr rfl⟩))
    ·
     exact Or.inr (Or.inr (Or.inr ⟨h7, Or.inl rfl⟩))
   ·
    exact Or.inl rfl
  ·
   exact Or.inl rfl
inductive Fo : List Nd → List Nd → Prop
 | mk (n : Nd) (ks rs : List (List Nd)) : zaD n = true → ks.length = za7 n → rs.length = ks.length → (∀ k ∈ ks, One k) → (∀ i, i < ks.length → Fo (ks.getD i []) (rs.getD i [])) → Fo (n :: ks.flatten) (mk11 n rs)
theorem Fo.one {s r : List Nd} (h : Fo s r) : One s := by
 cases h with
 | mk n ks rs hn hk hr ho hf => exact One.mk n ks hn hk ho
theorem zeg {α : Type} {l : List α} {x d : α} (h : x ∈ l) : ∃ i, i < l.length ∧ l.getD i d = x := by
 obtain ⟨i, hi, e⟩ := List.mem_iff_getElem.1 h
 exact ⟨i, hi, by simp [List.getD, hi, e]⟩
theorem zbo {α : Type} {l : List α} {i : Nat} {d : α} (h : i < l.length) : l.getD i d ∈ l := by
 simp [List.getD, h]
theorem num_one {v : Int} (h0 : -2147483648 ≤ v) (h1 : v ≤ 2147483647) : One [((1, v, [], []) : Nd)] := by
 have hn : zaD ((1, v, [], []) : Nd) = true := decide_eq_true (Or.inl ⟨rfl, ⟨h0, h1⟩, rfl, rfl⟩)
 exact One.mk (1, v, [], []) [] hn rfl (fun k hk => by cases hk)
theorem zaX {n : Nd} (h : 3 ≤ n.1 ∧ n.1 ≤ 6) : za7 n = 2 := if_pos h
theorem zbn {n : Nd} (h : n.1 = 7) : za7 n = 3 := by unfold za7; rw [if_neg (by omega), if_pos h]
theorem Fo.res {s r : List Nd} (h : Fo s r) : One r ∧ r.length ≤ s.length ∧ ∀ n ∈ r, n ∈ s ∨ n.1 = 1 := by
 induction h with
 | mk n ks rs hn hk hr ho _ ih =>
  have hall : One (n :: rs.flatten) := One.mk n rs hn (by omega) (fun x hx => by
   obtain ⟨i, hi, e⟩ := zeg (d := []) hx
   rw [← e]; exact (ih i (by omega)).1)
  have hlen : rs.flatten.length ≤ ks.flatten.length := by
   have key : ∀ (a b : List (List Nd)), a.length = b.length → (∀ i, i < b.length → (a.getD i []).length ≤ (b.getD i []).length) → a.flatten.length ≤ b.flatten.length := by
    intro a
    induction a with
    | nil => intro b _ _; simp
    | cons x a iha =>
     intro b hb hl
     cases b with
     | nil => cases hb
     | cons y b =>
      have h0 := hl 0 (by simp)
      have h1 := iha b (by simpa using hb) (fun i hi => by have := hl (i + 1) (by simpa using hi); simpa using this)
      simp only [List.flatten_cons, List.length_append]
      simp at h0
      omega
   exact key rs ks hr (fun i hi => (ih i hi).2.1)
  have hpart : ∀ i, i < ks.length → One (rs.getD i []) ∧ (rs.getD i []).length ≤ (n :: ks.flatten).length ∧ ∀ m ∈ rs.getD i [], m ∈ n :: ks.flatten ∨ m.1 = 1 := fun i hi => by
   obtain ⟨h1, h2, h3⟩ := ih i hi
   have hmem : ks.getD i [] ∈ ks := zbo hi
   refine ⟨h1, ?_, fun m hm => ?_⟩
   ·
    have : (ks.getD i []).length ≤ ks.flatten.length := (List.sublist_flatten_of_mem hmem).length_le
    simp only [List.length_cons]
    omega
   ·
    rcases h3 m hm with h4 | h4
    ·
     exact Or.inl (List.mem_cons_of_mem _ (List.mem_flatten.2 ⟨_, hmem, h4⟩))
    ·
     exact Or.inr h4
  rcases zfP n rs with e | ⟨_, _, v, h0, h1, e⟩ | ⟨h3, h6, e⟩ | ⟨h7, e⟩
  ·
   rw [e]
   refine ⟨hall, by simp only [List.length_cons]; omega, fun m hm => ?_⟩
   rcases List.mem_cons.1 hm with h4 | h4
   ·
    exact Or.inl (by rw [h4]; exact List.mem_cons_self)
   ·
    obtain ⟨x, hx, h5⟩ := List.mem_flatten.1 h4
    obtain ⟨i, hi, e2⟩ := zeg (d := []) hx
    rw [← e2] at h5
    exact (hpart i (by omega)).2.2 m h5
  ·
   rw [e]
   exact ⟨num_one h0 h1, by simp, fun m hm => Or.inr (by rw [List.mem_singleton.1 hm])⟩
  ·
   have hk2 := zaX ⟨h3, h6⟩
   rcases e with e | e
   ·
    rw [e]; exact hpart 0 (by omega)
   ·
    rw [e]; exact hpart 1 (by omega)
  ·
   have hk3 := zbn h7
   rcases e with e | e
   ·
    rw [e]; exact hpart 1 (by omega)
   ·
    rw [e]; exact hpart 2 (by omega)
theorem Fo.again {s r : List Nd} (h : Fo s r) : Fo r r := by
 induction h with
 | mk n ks rs hn hk hr ho hfo ih =>
  have hones : ∀ x ∈ rs, One x := fun x hx => by
   obtain ⟨i, hi, e⟩ := zeg (d := []) hx
   rw [← e]; exact (hfo i (by omega)).res.1
  have hnum : ∀ v : Int, -2147483648 ≤ v → v ≤ 2147483647 → Fo [((1, v, [], []) : Nd)] [((1, v, [], []) : Nd)] := fun v h0 h1 => by
   have hn : zaD ((1, v, [], []) : Nd) = true := decide_eq_true (Or.inl ⟨rfl, ⟨h0, h1⟩, rfl, rfl⟩)
   have h := Fo.mk (1, v, [], []) [] [] hn rfl rfl (fun k hk => by cases hk) (fun i hi => absurd hi (Nat.not_lt_zero _))
   exact h
  rcases zfP n rs with e | ⟨_, _, v, h0, h1, e⟩ | ⟨h3, h6, e⟩ | ⟨h7, e⟩
  ·
   have h := Fo.mk n rs rs hn (by omega) rfl hones (fun i hi => ih i (by omega))
   rw [e] at h
   rw [e]
   exact h
  ·
   rw [e]; exact hnum v h0 h1
  ·
   have hk2 := zaX ⟨h3, h6⟩
   rcases e with e | e
   ·
    rw [e]; exact ih 0 (by omega)
   ·
    rw [e]; exact ih 1 (by omega)
  ·
   have hk3 := zbn h7
   rcases e with e | e
   ·
    rw [e]; exact ih 1 (by omega)
   ·
    rw [e]; exact ih 2 (by omega)
theorem Fo.uniq {s r : List Nd} (h : Fo s r) : ∀ {r' : List Nd}, Fo s r' → r = r' := by
 induction h with
 | mk n ks rs hn hk hr ho _ ih =>
  intro r' h'
  generalize hs : n :: ks.flatten = s at h'
  cases h' with
  | mk m js qs hm hj hq hoj hfj =>
   injection hs with e1 e2
   subst e1
   obtain rfl := zgd ho hoj (by omega) e2
   have : rs = qs := by
    refine List.ext_getElem (by omega) (fun i h1 h2 => ?_)
    have h3 := ih i (by omega) (hfj i (by omega))
    simpa [List.getD, h1, h2] using h3
   rw [this]
def zab : Nat → List Nd → Int → List Nd
 | 0, _, _ => []
 | d + 1, t, a => mk11 (t.getD a.toNat nd0) ((za1 t a).map (zab d t))
theorem zbG {t post : List Nd} {a : Nat} {n : Nd} {ks : List (List Nd)} (h : t.drop a = (n :: ks.flatten) ++ post) (hk : ks.length = za7 n) (ho : ∀ k ∈ ks, One k) : t.getD a nd0 = n ∧ (za1 t (a : Int)).length = ks.length ∧ ∀ i, i < ks.length → ∃ post', (za1 t (a : Int)).getD i 0 = ((a + 1 + (ks.take i).flatten.length : Nat) : Int) ∧ t.drop (a + 1 + (ks.take i).flatten.length) = ks.getD i [] ++ post' := by
 have ha : t.getD a nd0 = n := by
  have h1 := congrArg (fun l => l.getD 0 nd0) h
  simp only [List.cons_append] at h1
  rw [show (n :: (ks.flatten ++ post)).getD 0 nd0 = n from rfl] at h1
  rw [← h1]
  simp [List.getD, List.getElem?_drop]
 refine ⟨ha, by rw [zb0, ha, hk], fun i hi => ?_⟩
 obtain ⟨e1, e2⟩ := zf4 h ho i (by omega)
 refine ⟨(ks.drop (i + 1)).flatten ++ post, ?_, ?_⟩
 ·
  have hc : (za1 t (a : Int)).getD i 0 = zc8 t i ((a + 1 : Nat) : Int) := by
   have key : ∀ (k : Nat) (q : Int) (i : Nat), i < k → (zad t k q).getD i 0 = zc8 t i q := by
    intro k
    induction k with
    | zero => intro q i hi; omega
    | succ k ihk =>
     intro q i hi
     cases i with
     | zero => rfl
     | succ i => rw [zad]; exact ihk (endV t q) i (by omega)
   unfold za1
   rw [Int.toNat_natCast, ha]
   exact key (za7 n) ((a : Int) + 1) i (by omega)
  rw [hc, e1]
 ·
  rw [e2, List.drop_eq_getElem_cons hi, List.flatten_cons, List.append_assoc]
  simp [List.getD, hi]
theorem zlL {s : List Nd} (h : One s) : ∀ (d : Nat) (t post : List Nd) (a : Nat), s.length ≤ d → t.drop a = s ++ post → Fo s (zab d t (a : Int)) := by
 induction h with
 | mk n ks hn hk ho ih =>
  intro d t post a hd ht
  rcases d with _ | d
  ·
   simp at hd
  ·
   obtain ⟨e1, e2, e3⟩ := zbG ht hk ho
   rw [zab, Int.toNat_natCast, e1]
   refine Fo.mk n ks _ hn hk (by rw [List.length_map, e2]) ho (fun i hi => ?_)
   obtain ⟨post', e4, e5⟩ := e3 i hi
   have e6 : ((za1 t (a : Int)).map (zab d t)).getD i [] = zab d t ((a + 1 + (ks.take i).flatten.length : Nat) : Int) := by
    rw [← e4]
    simp [List.getD, e2, hi]
   rw [e6]
   have hm : ks.getD i [] ∈ ks := zbo hi
   refine ih _ hm d t post' _ ?_ e5
   have h1 : (ks.getD i []).length ≤ ks.flatten.length := (List.sublist_flatten_of_mem hm).length_le
   simp only [List.length_cons] at hd
   omega
def zb2 (t : List Nd) : List Nd := if zaI t = true then zab 60 t 0 else []
theorem zgA {t : List Nd} (h : zaI t = true) : Fo t (zb2 t) := by
 unfold zb2
 rw [if_pos h]
 obtain ⟨h1, h2⟩ := zaM.1 h
 exact zlL h2 60 t [] 0 h1 (by simp)
theorem zei {t : List Nd} (h : zaI t = true) : zaI (zb2 t) = true ∧ (zb2 t).length ≤ t.length ∧ zb2 (zb2 t) = zb2 t := by
 have hf := zgA h
 obtain ⟨h1, h2, _⟩ := hf.res
 have h3 : zaI (zb2 t) = true := zaM.2 ⟨Nat.le_trans h2 (zaM.1 h).1, h1⟩
 exact ⟨h3, h2, (zgA h3).uniq hf.again⟩
theorem part_le (ws : List (List UInt8)) (j : Nat) : (ws.getD j []).length ≤ ws.flatten.length := by
 induction ws generalizing j with
 | nil => simp
 | cons x r ih =>
  cases j with
  | zero => simp
  | succ j => have := ih j; simp only [List.getD_cons_succ, List.flatten_cons, List.length_append]; omega
def za0 : List Nd → List Value
 | [] => []
 | n :: r => .int .i64 n.1 :: .int .i64 n.2.1 :: .string ⟨n.2.2.1.toArray⟩ :: .string ⟨n.2.2.2.toArray⟩ :: za0 r
theorem zd5 (ns : List Nd) : (za0 ns).length = ns.length * 4 := by
 induction ns with
 | nil => rfl
 | cons n r ih => simp only [za0, List.length_cons, ih]; omega
theorem zcG (x y : List Nd) : za0 (x ++ y) = za0 x ++ za0 y := by
 induction x with
 | nil => rfl
 | cons n r ih => simp only [List.cons_append, za0, ih]
theorem zd4 (ns : List Nd) : ∀ u ∈ za0 ns, u.oneCell' = true := by
 induction ns with
 | nil => intro u hu; cases hu
 | cons n r ih =>
  intro u hu
  simp only [za0, List.mem_cons] at hu
  rcases hu with rfl | rfl | rfl | rfl | h
  ·
   rfl
  ·
   rfl
  ·
   rfl
  ·
   rfl
  ·
   exact ih u h
theorem zcv (ns : List Nd) (j : Nat) (hj : j < ns.length) : (za0 ns)[j * 4]? = some (.int .i64 (ns.getD j nd0).1) ∧ (za0 ns)[j * 4 + 1]? = some (.int .i64 (ns.getD j nd0).2.1) ∧ (za0 ns)[j * 4 + 2]? = some (.string ⟨(ns.getD j nd0).2.2.1.toArray⟩) ∧ (za0 ns)[j * 4 + 3]? = some (.string ⟨(ns.getD j nd0).2.2.2.toArray⟩) := by
 induction ns generalizing j with
 | nil => simp at hj
 | cons n r ih =>
  cases j with
  | zero => simp [za0]
  | succ j =>
   have h := ih j (by simpa using hj)
   rw [show (j + 1) * 4 = j * 4 + 1 + 1 + 1 + 1 by omega]
   simpa [za0] using h
theorem zaq {w : World} {base n : Nat} {v : Value} {ns : List Nd} (h : w.ownsRow base 90 4 v n (za0 ns)) : ns.length = n ∧ ∃ a cap, v = .slice a n cap ∧ za4 w a n ns := by
 have hlen : ns.length = n := by have := h.1; rw [zd5] at this; omega
 refine ⟨hlen, ?_⟩
 rcases zar h with ⟨rfl, rfl, _⟩ | ⟨g, cp, rfl⟩
 ·
  exact ⟨none, 0, rfl, hlen, fun j hj => by omega⟩
 ·
  refine ⟨some ⟨g, 0, none⟩, cp, rfl, hlen, fun j hj => ?_⟩
  obtain ⟨v0, v1, v2, v3⟩ := zcv ns j (by omega)
  have c0 := h.cellAt (j * 4) (by omega)
  have c1 := h.cellAt (j * 4 + 1) (by omega)
  have c2 := h.cellAt (j * 4 + 2) (by omega)
  have c3 := h.cellAt (j * 4 + 3) (by omega)
  rw [v0] at c0
  rw [v1] at c1
  rw [v2] at c2
  rw [v3] at c3
  refine ⟨g, 0, rfl, (h.lt g rfl).2, ?_, ?_, ?_, ?_⟩
  ·
   rw [Nat.zero_add]; exact c0
  ·
   rw [Nat.zero_add]; exact c1
  ·
   rw [Nat.zero_add]; exact c2
  ·
   rw [Nat.zero_add]; exact c3
theorem zd8 : (Tryz.prog.info? 90).map (fun i => (i.zero, i.size, i.bytes)) = some (some (.agg #[.int .i64 0, .int .i64 0, .string ⟨#[]⟩, .string ⟨#[]⟩]), 4, 48) := by kernel_rfl
end Go.Proofs.YtkpdoedpkncboaaGreat
