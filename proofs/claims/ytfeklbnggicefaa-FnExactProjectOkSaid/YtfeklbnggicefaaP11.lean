/-
  Parts of one proof, one behind the other: HeapJ, HeapK, HeapP, ProjS.
-/
import Derived.Test.YtfeklbnggicefaaP10
import Derived.Test.YtfeklbnggicefaaP5
import Derived.Test.YtfeklbnggicefaaP7
import Derived.Deep.RegionHeld3
import Derived.Deep.Cut

/-! The contracts of container/heap over the landed heap of places. -/
namespace Go.Proofs.Ytfeklbnggicefaa
open Go.RowKit

theorem wrapPtr (A : Array TypeId) (T : TypeId) (p : Addr) (a b : ByteArray) : Builtin.ssaWrapNilChk_ A T #[.pointer (some p), .string a, .string b] = pure (.pointer (some p)) := rfl
/-! How a method of the heap behind the interface is found: the row is loaded through the pointer, or the pointer handed on. -/
theorem findLen {w : World} {nb : Nat} {a : Option Addr} {n c : Nat} (hc : w.cell? ⟨nb, 0, none⟩ = some (.slice a n c)) : Sem.run Try.prog (method 283 64 (.pointer (some ⟨nb, 0, none⟩)) "Len") w = .ok (51, .slice a n c) w := by
  have hm : (Array.find? (fun x => x.name == "Len") Try.t64.methods).map (fun m => (m.path, m.func)) = some (#[], some (51, false)) := by kernel_rfl
  obtain ⟨m, hm, he⟩ := Option.map_eq_some_iff.1 hm
  obtain ⟨h1, h2⟩ := Prod.mk.injEq .. ▸ he
  obtain ⟨k, hk⟩ : ∃ k, 283 = k + 1 := ⟨_, rfl⟩
  rw [hk, method]
  simp [go_sem, hm, h1, h2, follow, receiverAt, wrapPtr, Place.get, strVal, loadVar, hc]
theorem findLess {w : World} {nb : Nat} {a : Option Addr} {n c : Nat} (hc : w.cell? ⟨nb, 0, none⟩ = some (.slice a n c)) : Sem.run Try.prog (method 283 64 (.pointer (some ⟨nb, 0, none⟩)) "Less") w = .ok (149, .slice a n c) w := by
  have hm : (Array.find? (fun x => x.name == "Less") Try.t64.methods).map (fun m => (m.path, m.func)) = some (#[], some (149, false)) := by kernel_rfl
  obtain ⟨m, hm, he⟩ := Option.map_eq_some_iff.1 hm
  obtain ⟨h1, h2⟩ := Prod.mk.injEq .. ▸ he
  obtain ⟨k, hk⟩ : ∃ k, 283 = k + 1 := ⟨_, rfl⟩
  rw [hk, method]
  simp [go_sem, hm, h1, h2, follow, receiverAt, wrapPtr, Place.get, strVal, loadVar, hc]
theorem findSwap {w : World} {nb : Nat} {a : Option Addr} {n c : Nat} (hc : w.cell? ⟨nb, 0, none⟩ = some (.slice a n c)) : Sem.run Try.prog (method 283 64 (.pointer (some ⟨nb, 0, none⟩)) "Swap") w = .ok (152, .slice a n c) w := by
  have hm : (Array.find? (fun x => x.name == "Swap") Try.t64.methods).map (fun m => (m.path, m.func)) = some (#[], some (152, false)) := by kernel_rfl
  obtain ⟨m, hm, he⟩ := Option.map_eq_some_iff.1 hm
  obtain ⟨h1, h2⟩ := Prod.mk.injEq .. ▸ he
  obtain ⟨k, hk⟩ : ∃ k, 283 = k + 1 := ⟨_, rfl⟩
  rw [hk, method]
  simp [go_sem, hm, h1, h2, follow, receiverAt, wrapPtr, Place.get, strVal, loadVar, hc]
theorem findPush {w : World} {nb : Nat} : Sem.run Try.prog (method 283 64 (.pointer (some ⟨nb, 0, none⟩)) "Push") w = .ok (151, .pointer (some ⟨nb, 0, none⟩)) w := by
  have hm : (Array.find? (fun x => x.name == "Push") Try.t64.methods).map (fun m => (m.path, m.func)) = some (#[], some (151, true)) := by kernel_rfl
  obtain ⟨m, hm, he⟩ := Option.map_eq_some_iff.1 hm
  obtain ⟨h1, h2⟩ := Prod.mk.injEq .. ▸ he
  obtain ⟨k, hk⟩ : ∃ k, 283 = k + 1 := ⟨_, rfl⟩
  rw [hk, method]
  simp [go_sem, hm, h1, h2, follow, receiverAt, Place.get, strVal]
theorem findPop {w : World} {nb : Nat} : Sem.run Try.prog (method 283 64 (.pointer (some ⟨nb, 0, none⟩)) "Pop") w = .ok (150, .pointer (some ⟨nb, 0, none⟩)) w := by
  have hm : (Array.find? (fun x => x.name == "Pop") Try.t64.methods).map (fun m => (m.path, m.func)) = some (#[], some (150, true)) := by kernel_rfl
  obtain ⟨m, hm, he⟩ := Option.map_eq_some_iff.1 hm
  obtain ⟨h1, h2⟩ := Prod.mk.injEq .. ▸ he
  obtain ⟨k, hk⟩ : ∃ k, 283 = k + 1 := ⟨_, rfl⟩
  rw [hk, method]
  simp [go_sem, hm, h1, h2, follow, receiverAt, Place.get, strVal]

theorem HpIn.rown {w : World} {B nb n : Nat} {v : Value} {l : List Nat} (h : HpIn w B nb v l) (hn : l.length = n) : w.ownsRow B 3 1 v n (natV l) := by rw [← hn]; exact h.row

set_option maxHeartbeats 2000000 in
set_option maxRecDepth 100000 in
theorem heapUp (B nb g n cp : Nat) (l : List Nat) (j : Nat) (w : World) (h : HpIn w B nb (.slice (some ⟨g, 0, none⟩) n cp) l) (hn : l.length = n) (hj : j < n) (hup : HpUp l j) (hbig : n ≤ 1000) :
    Calls Try.prog 79 #[.iface 64 (.pointer (some ⟨nb, 0, none⟩)), .int .i64 (j : Int)] w fun e w' => e = .returned (.tuple #[]) ∧ ∃ l', HpIn w' B nb (.slice (some ⟨g, 0, none⟩) n cp) l' ∧ l'.length = n ∧ l'.Perm l ∧ HpN l' n ∧ w.grownBy w' (some g) := by
  have HH : Hid (HpIn w B nb (.slice (some ⟨g, 0, none⟩) n cp) l) := h
  have HL : Hid (l.length = n) := hn
  have HU : Hid (HpUp l j) := hup
  clear h hn hup
  go_enter Try.func79, Try.ntmps79
  go_wp2
  go_loopw [1, 4] (fun jv _ wr => ∃ (k : Nat) (lk : List Nat), jv = .int .i64 (k : Int) ∧ k < n ∧ Hid (HpIn wr B nb (.slice (some ⟨g, 0, none⟩) n cp) lk) ∧ Hid (lk.length = n) ∧ Hid (HpUp lk k) ∧ Hid (lk.Perm l) ∧ Hid (w.grownBy wr (some g))) (fun jv _ _ => (intOf jv).toNat)
  case atStart => exact ⟨j, l, rfl, hj, HH, HL, HU, List.Perm.refl _, World.grownBy.refl _ _⟩
  case round =>
    obtain ⟨k, lk, rfl, hk, HHk, HLk, HUk, HPk, HGk⟩ := hrel
    have c0 := HHk.out.cell
    rcases Nat.eq_zero_or_pos k with h0 | h0
    · subst h0
      go_wp2
      go_end0
      exact ⟨rfl, lk, HHk.out, HLk.out, HPk.out, by rw [← HLk.out]; exact up_end HUk.out (Or.inl rfl), HGk.out⟩
    · obtain ⟨m, rfl⟩ : ∃ m, k = m + 1 := ⟨k - 1, by omega⟩
      have hne : ¬ m / 2 = m + 1 := by omega
      have mL := findLess c0
      have HL1 : Hid (Calls Try.prog 149 #[.slice (some ⟨g, 0, none⟩) n cp, .int .i64 ((m : Int) + 1), .int .i64 ((m : Int) / 2)] wr fun e w' => e = .returned (.bool (decide (lk.getD (m + 1) 0 < lk.getD (m / 2) 0))) ∧ Below wr.heap.size wr w') := by
        have hL := upLess B g cp n lk (m + 1) (m / 2) wr (HHk.out.rown HLk.out) HLk.out hk (by omega)
        rw [show ((m + 1 : Nat) : Int) = (m : Int) + 1 by omega, show ((m / 2 : Nat) : Int) = (m : Int) / 2 by omega] at hL
        exact hL
      by_cases hlt : lk.getD (m + 1) 0 < lk.getD (m / 2) 0
      · rw [decide_eq_true hlt] at HL1
        have HSt : Hid (HpUp (sw lk (m / 2) (m + 1)) (m / 2)) := up_step HUk.out (by rw [HLk.out]; exact hk) h0 hlt
        clear hlt
        go_wp2_with (go_at_call 149; refine HL1.out.mono ?_; rintro e w2 ⟨rfl, hb2⟩; have HH2 : Hid (HpIn w2 B nb (.slice (some ⟨g, 0, none⟩) n cp) lk) := HHk.out.below hb2; have mS := findSwap HH2.out.cell; have HG2 : Hid (w.grownBy w2 (some g)) := HGk.out.trans ⟨hb2.os, hb2.tape, hb2.output, hb2.size, fun k hk _ => hb2.block k hk⟩; clear hb2 mL)
        have HS1 : Hid (Calls Try.prog 152 #[.slice (some ⟨g, 0, none⟩) n cp, .int .i64 ((m : Int) / 2), .int .i64 ((m : Int) + 1)] w2 fun e w' => e = .returned (.tuple #[]) ∧ w'.ownsRow B 3 1 (.slice (some ⟨g, 0, none⟩) n cp) n (natV (sw lk (m / 2) (m + 1))) ∧ w2.grownBy w' (some g)) := by
          have hS := upSwap B g cp n lk (m / 2) (m + 1) w2 (HH2.out.rown HLk.out) HLk.out (by omega) hk
          rw [show ((m + 1 : Nat) : Int) = (m : Int) + 1 by omega, show ((m / 2 : Nat) : Int) = (m : Int) / 2 by omega] at hS
          exact hS
        refine HS1.out.mono ?_
        rintro e w3 ⟨rfl, ho3, hg3⟩
        have HH3 : Hid (HpIn w3 B nb (.slice (some ⟨g, 0, none⟩) n cp) (sw lk (m / 2) (m + 1))) := HH2.out.swapped ho3 (by rw [sw_len]; exact HLk.out) hg3
        have HG3 : Hid (w.grownBy w3 (some g)) := HG2.out.trans hg3
        clear ho3 hg3 HS1 HL1
        go_wp2
        go_roundw
        case rel => exact ⟨m / 2, sw lk (m / 2) (m + 1), by simp, by omega, HH3, by exact (by rw [sw_len]; exact HLk.out : (sw lk (m / 2) (m + 1)).length = n), HSt, (sw_perm lk (by rw [HLk.out]; omega) (by rw [HLk.out]; omega)).trans HPk.out, HG3⟩
        case measure => simp [intOf]; omega
      · rw [decide_eq_false hlt] at HL1
        have HSt : Hid (HpN lk n) := by exact (by rw [← HLk.out]; exact up_end HUk.out (Or.inr (by simpa using hlt)) : HpN lk n)
        clear hlt
        go_wp2_with (go_at_call 149; refine HL1.out.mono ?_; rintro e w2 ⟨rfl, hb2⟩; have HH2 : Hid (HpIn w2 B nb (.slice (some ⟨g, 0, none⟩) n cp) lk) := HHk.out.below hb2; have HG2 : Hid (w.grownBy w2 (some g)) := HGk.out.trans ⟨hb2.os, hb2.tape, hb2.output, hb2.size, fun k hk _ => hb2.block k hk⟩; clear hb2 mL)
        go_end0
        exact ⟨rfl, lk, HH2.out, HLk.out, HPk.out, HSt.out, HG2.out⟩

end Go.Proofs.Ytfeklbnggicefaa

/-! The contracts of container/heap over the landed heap of places: down, Push, Pop; the first is taken. -/
namespace Go.Proofs.Ytfeklbnggicefaa
open Go.RowKit

set_option maxHeartbeats 4000000 in
set_option maxRecDepth 100000 in
theorem heapDown (B nb g N n cp : Nat) (l : List Nat) (w : World) (h : HpIn w B nb (.slice (some ⟨g, 0, none⟩) N cp) l) (hN : l.length = N) (hn : n + 1 = N) (hdn : HpDn l 0 n) (hbig : N ≤ 1000) :
    Calls Try.prog 105 #[.iface 64 (.pointer (some ⟨nb, 0, none⟩)), .int .i64 0, .int .i64 (n : Int)] w fun e w' => ∃ bb : Bool, e = .returned (.bool bb) ∧ ∃ l', HpIn w' B nb (.slice (some ⟨g, 0, none⟩) N cp) l' ∧ l'.length = N ∧ l'.Perm l ∧ HpN l' n ∧ (∀ q, n ≤ q → l'.getD q 0 = l.getD q 0) ∧ w.grownBy w' (some g) := by
  have HH : Hid (HpIn w B nb (.slice (some ⟨g, 0, none⟩) N cp) l) := h
  have HL : Hid (l.length = N) := hN
  have HD : Hid (HpDn l 0 n) := hdn
  clear h hN hdn
  go_enter Try.func105, Try.ntmps105
  go_wp2
  go_loopw [7, 8, 9, 10] (fun iv _ _ _ wr => ∃ (i : Nat) (lk : List Nat), iv = .int .i64 (i : Int) ∧ i < N ∧ Hid (HpIn wr B nb (.slice (some ⟨g, 0, none⟩) N cp) lk) ∧ Hid (lk.length = N) ∧ Hid (HpDn lk i n) ∧ Hid (lk.Perm l) ∧ Hid (∀ q, n ≤ q → lk.getD q 0 = l.getD q 0) ∧ Hid (w.grownBy wr (some g))) (fun iv _ _ _ _ => N - (intOf iv).toNat)
  case atStart => exact ⟨0, l, rfl, by omega, HH, HL, HD, List.Perm.refl _, (fun _ _ => rfl), World.grownBy.refl _ _⟩
  case round =>
    obtain ⟨i, lk, rfl, hi, HHk, HLk, HDk, HPk, HKk, HGk⟩ := hrel
    by_cases h1 : n ≤ 2 * i + 1
    · have h1z : (n : Int) ≤ 2 * (i : Int) + 1 := by omega
      have HSt : Hid (HpN lk n) := dn_end HDk.out (fun q h1 h2 h3 => by omega)
      clear h1
      go_wp2
      go_ret
      exact ⟨_, rfl, lk, HHk.out, HLk.out, HPk.out, HSt.out, HKk.out, HGk.out⟩
    · have h1z : ¬ (n : Int) ≤ 2 * (i : Int) + 1 := by omega
      have h0z : ¬ 2 * (i : Int) + 1 < 0 := by omega
      by_cases h2 : 2 * i + 2 < n
      · have h2z : 2 * (i : Int) + 1 + 1 < (n : Int) := by omega
        have mL := findLess HHk.out.cell
        have HL0 : Hid (Calls Try.prog 149 #[.slice (some ⟨g, 0, none⟩) N cp, .int .i64 (2 * (i : Int) + 1 + 1), .int .i64 (2 * (i : Int) + 1)] wr fun e w' => e = .returned (.bool (decide (lk.getD (2 * i + 2) 0 < lk.getD (2 * i + 1) 0))) ∧ Below wr.heap.size wr w') := by
          have hL := upLess B g cp N lk (2 * i + 2) (2 * i + 1) wr (HHk.out.rown HLk.out) HLk.out (by omega) (by omega)
          rw [show ((2 * i + 2 : Nat) : Int) = 2 * (i : Int) + 1 + 1 by omega, show ((2 * i + 1 : Nat) : Int) = 2 * (i : Int) + 1 by omega] at hL
          exact hL
        by_cases h3 : lk.getD (2 * i + 2) 0 < lk.getD (2 * i + 1) 0
        · rw [decide_eq_true h3] at HL0
          have HMin : Hid (∀ q, 0 < q → q < n → (q - 1) / 2 = i → lk.getD (2 * i + 2) 0 ≤ lk.getD q 0) := fun q q0 qn qp => by
            rcases (show q = 2 * i + 1 ∨ q = 2 * i + 2 by omega) with e | e <;> rw [e] <;> omega
          clear h3
          go_wp2_with fail
          refine HL0.out.mono ?_
          rintro e w1 ⟨rfl, hb1⟩
          have HH1 : Hid (HpIn w1 B nb (.slice (some ⟨g, 0, none⟩) N cp) lk) := HHk.out.below hb1
          have HG1 : Hid (w.grownBy w1 (some g)) := HGk.out.trans ⟨hb1.os, hb1.tape, hb1.output, hb1.size, fun k hk _ => hb1.block k hk⟩
          clear hb1 mL HL0
          have mL2 := findLess HH1.out.cell
          have HL2 : Hid (Calls Try.prog 149 #[.slice (some ⟨g, 0, none⟩) N cp, .int .i64 (2 * (i : Int) + 1 + 1), .int .i64 (i : Int)] w1 fun e w' => e = .returned (.bool (decide (lk.getD (2 * i + 2) 0 < lk.getD i 0))) ∧ Below w1.heap.size w1 w') := by
            have hL := upLess B g cp N lk (2 * i + 2) i w1 (HH1.out.rown HLk.out) HLk.out (by omega) (by omega)
            rw [show ((2 * i + 2 : Nat) : Int) = 2 * (i : Int) + 1 + 1 by omega] at hL
            exact hL
          by_cases hlt : lk.getD (2 * i + 2) 0 < lk.getD i 0
          · rw [decide_eq_true hlt] at HL2
            have HSt : Hid (HpDn (sw lk i (2 * i + 2)) (2 * i + 2) n) := dn_step HDk.out (by rw [HLk.out]; omega) (by omega) (by omega) (by omega) HMin.out hlt
            clear hlt HMin
            go_wp2_with fail
            refine HL2.out.mono ?_
            rintro e w2 ⟨rfl, hb2⟩
            have HH2 : Hid (HpIn w2 B nb (.slice (some ⟨g, 0, none⟩) N cp) lk) := HH1.out.below hb2
            have mS := findSwap HH2.out.cell
            have HG2 : Hid (w.grownBy w2 (some g)) := HG1.out.trans ⟨hb2.os, hb2.tape, hb2.output, hb2.size, fun k hk _ => hb2.block k hk⟩
            clear hb2 mL2 HL2
            go_wp2_with fail
            have HS1 : Hid (Calls Try.prog 152 #[.slice (some ⟨g, 0, none⟩) N cp, .int .i64 (i : Int), .int .i64 (2 * (i : Int) + 1 + 1)] w2 fun e w' => e = .returned (.tuple #[]) ∧ w'.ownsRow B 3 1 (.slice (some ⟨g, 0, none⟩) N cp) N (natV (sw lk i (2 * i + 2))) ∧ w2.grownBy w' (some g)) := by
              have hS := upSwap B g cp N lk i (2 * i + 2) w2 (HH2.out.rown HLk.out) HLk.out (by omega) (by omega)
              rw [show ((2 * i + 2 : Nat) : Int) = 2 * (i : Int) + 1 + 1 by omega] at hS
              exact hS
            refine HS1.out.mono ?_
            rintro e w3 ⟨rfl, ho3, hg3⟩
            have HH3 : Hid (HpIn w3 B nb (.slice (some ⟨g, 0, none⟩) N cp) (sw lk i (2 * i + 2))) := HH2.out.swapped ho3 (by rw [sw_len]; exact HLk.out) hg3
            have HG3 : Hid (w.grownBy w3 (some g)) := HG2.out.trans hg3
            have HK3 : Hid (∀ q, n ≤ q → (sw lk i (2 * i + 2)).getD q 0 = l.getD q 0) := fun q hq => by rw [sw_at lk (by rw [HLk.out]; omega) (by rw [HLk.out]; omega), if_neg (by omega), if_neg (by omega)]; exact HKk.out q hq
            clear ho3 hg3 HS1 mS
            go_wp2
            go_roundw
            case rel => exact ⟨2 * i + 2, sw lk i (2 * i + 2), by go_num, by omega, HH3, by exact (by rw [sw_len]; exact HLk.out : (sw lk i (2 * i + 2)).length = N), HSt, (sw_perm lk (by rw [HLk.out]; omega) (by rw [HLk.out]; omega)).trans HPk.out, HK3, HG3⟩
            case measure => simp [intOf]; omega
          · rw [decide_eq_false hlt] at HL2
            have HSt : Hid (HpN lk n) := dn_end HDk.out (fun q h1 h2 h3 => by have := HMin.out q h1 h2 h3; omega)
            clear hlt HMin
            go_wp2_with fail
            refine HL2.out.mono ?_
            rintro e w2 ⟨rfl, hb2⟩
            have HH2 : Hid (HpIn w2 B nb (.slice (some ⟨g, 0, none⟩) N cp) lk) := HH1.out.below hb2
            have HG2 : Hid (w.grownBy w2 (some g)) := HG1.out.trans ⟨hb2.os, hb2.tape, hb2.output, hb2.size, fun k hk _ => hb2.block k hk⟩
            clear hb2 mL2 HL2
            go_wp2
            go_ret
            exact ⟨_, rfl, lk, HH2.out, HLk.out, HPk.out, HSt.out, HKk.out, HG2.out⟩
        · rw [decide_eq_false h3] at HL0
          have HMin : Hid (∀ q, 0 < q → q < n → (q - 1) / 2 = i → lk.getD (2 * i + 1) 0 ≤ lk.getD q 0) := fun q q0 qn qp => by
            rcases (show q = 2 * i + 1 ∨ q = 2 * i + 2 by omega) with e | e <;> rw [e] <;> omega
          clear h3
          go_wp2_with fail
          refine HL0.out.mono ?_
          rintro e w1 ⟨rfl, hb1⟩
          have HH1 : Hid (HpIn w1 B nb (.slice (some ⟨g, 0, none⟩) N cp) lk) := HHk.out.below hb1
          have HG1 : Hid (w.grownBy w1 (some g)) := HGk.out.trans ⟨hb1.os, hb1.tape, hb1.output, hb1.size, fun k hk _ => hb1.block k hk⟩
          clear hb1 mL HL0
          have mL2 := findLess HH1.out.cell
          have HL2 : Hid (Calls Try.prog 149 #[.slice (some ⟨g, 0, none⟩) N cp, .int .i64 (2 * (i : Int) + 1), .int .i64 (i : Int)] w1 fun e w' => e = .returned (.bool (decide (lk.getD (2 * i + 1) 0 < lk.getD i 0))) ∧ Below w1.heap.size w1 w') := by
            have hL := upLess B g cp N lk (2 * i + 1) i w1 (HH1.out.rown HLk.out) HLk.out (by omega) (by omega)
            rw [show ((2 * i + 1 : Nat) : Int) = 2 * (i : Int) + 1 by omega] at hL
            exact hL
          by_cases hlt : lk.getD (2 * i + 1) 0 < lk.getD i 0
          · rw [decide_eq_true hlt] at HL2
            have HSt : Hid (HpDn (sw lk i (2 * i + 1)) (2 * i + 1) n) := dn_step HDk.out (by rw [HLk.out]; omega) (by omega) (by omega) (by omega) HMin.out hlt
            clear hlt HMin
            go_wp2_with fail
            refine HL2.out.mono ?_
            rintro e w2 ⟨rfl, hb2⟩
            have HH2 : Hid (HpIn w2 B nb (.slice (some ⟨g, 0, none⟩) N cp) lk) := HH1.out.below hb2
            have mS := findSwap HH2.out.cell
            have HG2 : Hid (w.grownBy w2 (some g)) := HG1.out.trans ⟨hb2.os, hb2.tape, hb2.output, hb2.size, fun k hk _ => hb2.block k hk⟩
            clear hb2 mL2 HL2
            go_wp2_with fail
            have HS1 : Hid (Calls Try.prog 152 #[.slice (some ⟨g, 0, none⟩) N cp, .int .i64 (i : Int), .int .i64 (2 * (i : Int) + 1)] w2 fun e w' => e = .returned (.tuple #[]) ∧ w'.ownsRow B 3 1 (.slice (some ⟨g, 0, none⟩) N cp) N (natV (sw lk i (2 * i + 1))) ∧ w2.grownBy w' (some g)) := by
              have hS := upSwap B g cp N lk i (2 * i + 1) w2 (HH2.out.rown HLk.out) HLk.out (by omega) (by omega)
              rw [show ((2 * i + 1 : Nat) : Int) = 2 * (i : Int) + 1 by omega] at hS
              exact hS
            refine HS1.out.mono ?_
            rintro e w3 ⟨rfl, ho3, hg3⟩
            have HH3 : Hid (HpIn w3 B nb (.slice (some ⟨g, 0, none⟩) N cp) (sw lk i (2 * i + 1))) := HH2.out.swapped ho3 (by rw [sw_len]; exact HLk.out) hg3
            have HG3 : Hid (w.grownBy w3 (some g)) := HG2.out.trans hg3
            have HK3 : Hid (∀ q, n ≤ q → (sw lk i (2 * i + 1)).getD q 0 = l.getD q 0) := fun q hq => by rw [sw_at lk (by rw [HLk.out]; omega) (by rw [HLk.out]; omega), if_neg (by omega), if_neg (by omega)]; exact HKk.out q hq
            clear ho3 hg3 HS1 mS
            go_wp2
            go_roundw
            case rel => exact ⟨2 * i + 1, sw lk i (2 * i + 1), by go_num, by omega, HH3, by exact (by rw [sw_len]; exact HLk.out : (sw lk i (2 * i + 1)).length = N), HSt, (sw_perm lk (by rw [HLk.out]; omega) (by rw [HLk.out]; omega)).trans HPk.out, HK3, HG3⟩
            case measure => simp [intOf]; omega
          · rw [decide_eq_false hlt] at HL2
            have HSt : Hid (HpN lk n) := dn_end HDk.out (fun q h1 h2 h3 => by have := HMin.out q h1 h2 h3; omega)
            clear hlt HMin
            go_wp2_with fail
            refine HL2.out.mono ?_
            rintro e w2 ⟨rfl, hb2⟩
            have HH2 : Hid (HpIn w2 B nb (.slice (some ⟨g, 0, none⟩) N cp) lk) := HH1.out.below hb2
            have HG2 : Hid (w.grownBy w2 (some g)) := HG1.out.trans ⟨hb2.os, hb2.tape, hb2.output, hb2.size, fun k hk _ => hb2.block k hk⟩
            clear hb2 mL2 HL2
            go_wp2
            go_ret
            exact ⟨_, rfl, lk, HH2.out, HLk.out, HPk.out, HSt.out, HKk.out, HG2.out⟩
      · have h2z : ¬ 2 * (i : Int) + 1 + 1 < (n : Int) := by omega
        have HMin : Hid (∀ q, 0 < q → q < n → (q - 1) / 2 = i → lk.getD (2 * i + 1) 0 ≤ lk.getD q 0) := fun q q0 qn qp => by
          have e : q = 2 * i + 1 := by omega
          rw [e]; omega
        have mL2 := findLess HHk.out.cell
        have HL2 : Hid (Calls Try.prog 149 #[.slice (some ⟨g, 0, none⟩) N cp, .int .i64 (2 * (i : Int) + 1), .int .i64 (i : Int)] wr fun e w' => e = .returned (.bool (decide (lk.getD (2 * i + 1) 0 < lk.getD i 0))) ∧ Below wr.heap.size wr w') := by
          have hL := upLess B g cp N lk (2 * i + 1) i wr (HHk.out.rown HLk.out) HLk.out (by omega) (by omega)
          rw [show ((2 * i + 1 : Nat) : Int) = 2 * (i : Int) + 1 by omega] at hL
          exact hL
        by_cases hlt : lk.getD (2 * i + 1) 0 < lk.getD i 0
        · rw [decide_eq_true hlt] at HL2
          have HSt : Hid (HpDn (sw lk i (2 * i + 1)) (2 * i + 1) n) := dn_step HDk.out (by rw [HLk.out]; omega) (by omega) (by omega) (by omega) HMin.out hlt
          clear hlt HMin
          go_wp2_with fail
          refine HL2.out.mono ?_
          rintro e w2 ⟨rfl, hb2⟩
          have HH2 : Hid (HpIn w2 B nb (.slice (some ⟨g, 0, none⟩) N cp) lk) := HHk.out.below hb2
          have mS := findSwap HH2.out.cell
          have HG2 : Hid (w.grownBy w2 (some g)) := HGk.out.trans ⟨hb2.os, hb2.tape, hb2.output, hb2.size, fun k hk _ => hb2.block k hk⟩
          clear hb2 mL2 HL2
          go_wp2_with fail
          have HS1 : Hid (Calls Try.prog 152 #[.slice (some ⟨g, 0, none⟩) N cp, .int .i64 (i : Int), .int .i64 (2 * (i : Int) + 1)] w2 fun e w' => e = .returned (.tuple #[]) ∧ w'.ownsRow B 3 1 (.slice (some ⟨g, 0, none⟩) N cp) N (natV (sw lk i (2 * i + 1))) ∧ w2.grownBy w' (some g)) := by
            have hS := upSwap B g cp N lk i (2 * i + 1) w2 (HH2.out.rown HLk.out) HLk.out (by omega) (by omega)
            rw [show ((2 * i + 1 : Nat) : Int) = 2 * (i : Int) + 1 by omega] at hS
            exact hS
          refine HS1.out.mono ?_
          rintro e w3 ⟨rfl, ho3, hg3⟩
          have HH3 : Hid (HpIn w3 B nb (.slice (some ⟨g, 0, none⟩) N cp) (sw lk i (2 * i + 1))) := HH2.out.swapped ho3 (by rw [sw_len]; exact HLk.out) hg3
          have HG3 : Hid (w.grownBy w3 (some g)) := HG2.out.trans hg3
          have HK3 : Hid (∀ q, n ≤ q → (sw lk i (2 * i + 1)).getD q 0 = l.getD q 0) := fun q hq => by rw [sw_at lk (by rw [HLk.out]; omega) (by rw [HLk.out]; omega), if_neg (by omega), if_neg (by omega)]; exact HKk.out q hq
          clear ho3 hg3 HS1 mS
          go_wp2
          go_roundw
          case rel => exact ⟨2 * i + 1, sw lk i (2 * i + 1), by go_num, by omega, HH3, by exact (by rw [sw_len]; exact HLk.out : (sw lk i (2 * i + 1)).length = N), HSt, (sw_perm lk (by rw [HLk.out]; omega) (by rw [HLk.out]; omega)).trans HPk.out, HK3, HG3⟩
          case measure => simp [intOf]; omega
        · rw [decide_eq_false hlt] at HL2
          have HSt : Hid (HpN lk n) := dn_end HDk.out (fun q h1 h2 h3 => by have := HMin.out q h1 h2 h3; omega)
          clear hlt HMin
          go_wp2_with fail
          refine HL2.out.mono ?_
          rintro e w2 ⟨rfl, hb2⟩
          have HH2 : Hid (HpIn w2 B nb (.slice (some ⟨g, 0, none⟩) N cp) lk) := HHk.out.below hb2
          have HG2 : Hid (w.grownBy w2 (some g)) := HGk.out.trans ⟨hb2.os, hb2.tape, hb2.output, hb2.size, fun k hk _ => hb2.block k hk⟩
          clear hb2 mL2 HL2
          go_wp2
          go_ret
          exact ⟨_, rfl, lk, HH2.out, HLk.out, HPk.out, HSt.out, HKk.out, HG2.out⟩

end Go.Proofs.Ytfeklbnggicefaa

/-! The contracts of container/heap over the landed heap of places: Push, Pop; the first is taken. -/
namespace Go.Proofs.Ytfeklbnggicefaa
open Go.RowKit

theorem Wrote.next {a b c : World} {S : Nat → Prop} {g : Nat} (h : Wrote a b S) (k : b.grownBy c (some g)) (hg : S g ∨ a.heap.size ≤ g) : Wrote a c S :=
  ⟨k.os.trans h.os, k.tape.trans h.tape, k.output.trans h.output, Nat.le_trans h.size k.size, fun i hi hs => (k.block i (Nat.lt_of_lt_of_le hi h.size) (fun e => by
    injection e with e
    subst e
    rcases hg with hg | hg
    · exact hs hg
    · omega)).trans (h.block i hi hs)⟩

set_option maxHeartbeats 2000000 in
set_option maxRecDepth 100000 in
theorem upPop (B nb g n cp : Nat) (l : List Nat) (w : World) (h : HpIn w B nb (.slice (some ⟨g, 0, none⟩) (n + 1) cp) l) (hn : l.length = n + 1) (hbig : n ≤ 1000) :
    Calls Try.prog 150 #[.pointer (some ⟨nb, 0, none⟩)] w fun e w' => e = .returned (.iface 3 (.int .i64 ((l.getD n 0 : Nat) : Int))) ∧ HpIn w' B nb (.slice (some ⟨g, 0, none⟩) n cp) (l.take n) ∧ w.grownBy w' (some nb) := by
  have c0 := h.cell
  have f0 := h.box.frozenAt 0
  have hrow := h.rown hn
  have c1 := nat_cell hrow hn n (by omega)
  have hcap := own_cap hrow
  have hcp : (n : Int) ≤ (cp : Int) := by omega
  obtain ⟨hst, hgs⟩ := h.box.stored 0 (.slice (some ⟨g, 0, none⟩) n cp)
  have hrow2 := own_take hrow n (by omega)
  rw [natV_take] at hrow2
  have HE : Hid (HpIn (w.setCell ⟨nb, 0, none⟩ (.slice (some ⟨g, 0, none⟩) n cp)) B nb (.slice (some ⟨g, 0, none⟩) n cp) (l.take n)) := ⟨hst, by
    have := hrow2.kept hgs (Or.inr (fun e => h.ne e))
    rw [List.length_take, hn, show min n (n + 1) = n by omega]
    exact this⟩
  have HG : Hid (w.grownBy (w.setCell ⟨nb, 0, none⟩ (.slice (some ⟨g, 0, none⟩) n cp)) (some nb)) := hgs
  obtain ⟨x, hx⟩ : ∃ x, l.getD n 0 = x := ⟨_, rfl⟩
  rw [hx] at c1 ⊢
  clear h hrow hst hgs hrow2 hx hn hcap
  go_enter Try.func150, Try.ntmps150
  go_wp2
  go_ret
  exact ⟨rfl, HE.out, HG.out⟩

set_option maxHeartbeats 2000000 in
set_option maxRecDepth 100000 in
theorem heapPush (B nb : Nat) (v : Value) (l : List Nat) (x : Nat) (w : World) (h : HpIn w B nb v l) (hp : HpN l l.length) (hl : l.length ≤ 100) :
    Calls Try.prog 50 #[.iface 64 (.pointer (some ⟨nb, 0, none⟩)), .iface 3 (.int .i64 (x : Int))] w fun e w' => e = .returned (.tuple #[]) ∧ ∃ v' l', HpIn w' B nb v' l' ∧ HpN l' l'.length ∧ l'.Perm (x :: l) ∧ Wrote w w' (fun k => k = nb ∨ v.ownBlock = some k) ∧ NewAt w v v' := by
  have HH : Hid (HpIn w B nb v l) := h
  have HP : Hid (HpN l l.length) := hp
  have mP := findPush (w := w) (nb := nb)
  clear h hp
  go_enter Try.func50, Try.ntmps50
  go_wp2_with fail
  refine (upPush B nb v l x w HH.out (by omega)).mono ?_
  rintro e w1 ⟨rfl, v1, h1, hw1, hn1⟩
  have hlen : (l ++ [x]).length = l.length + 1 := by simp
  obtain ⟨g, c, rfl⟩ := own_some (h1.rown hlen) (by omega)
  have HH1 : Hid (HpIn w1 B nb (.slice (some ⟨g, 0, none⟩) (l.length + 1) c) (l ++ [x])) := h1
  have HW1 : Hid (Wrote w w1 (fun k => k = nb ∨ v.ownBlock = some k)) := hw1
  have HN1 : Hid (NewAt w v (.slice (some ⟨g, 0, none⟩) (l.length + 1) c)) := hn1
  have HL1 : Hid ((l ++ [x]).length = l.length + 1) := hlen
  have mN := findLen h1.cell
  clear h1 hw1 hn1 hlen mP
  go_wp2_with (go_at_call 51; refine (upLen _ _ _ _).mono ?_; rintro e w2 ⟨rfl, hw2⟩; obtain rfl := hw2.symm)
  refine (heapUp B nb g (l.length + 1) c (l ++ [x]) l.length w1 HH1.out HL1.out (by omega) (up_start HP.out x) (by omega)).mono ?_
  rintro e w3 ⟨rfl, l3, h3, hl3, hp3, hn3, hg3⟩
  have HE : Hid (HpIn w3 B nb (.slice (some ⟨g, 0, none⟩) (l.length + 1) c) l3 ∧ HpN l3 l3.length ∧ l3.Perm (x :: l) ∧ Wrote w w3 (fun k => k = nb ∨ v.ownBlock = some k)) := ⟨h3, by rw [hl3]; exact hn3, hp3.trans (by simp), HW1.out.next hg3 (by
    rcases HN1.out g rfl with e | e
    · exact Or.inl (Or.inr e)
    · exact Or.inr e)⟩
  clear h3 hl3 hp3 hn3 hg3 mN
  go_wp2
  go_end0
  exact ⟨rfl, _, l3, HE.out.1, HE.out.2.1, HE.out.2.2.1, HE.out.2.2.2, HN1.out⟩

set_option maxHeartbeats 2000000 in
set_option maxRecDepth 100000 in
theorem heapPop (B nb g n cp : Nat) (l : List Nat) (w : World) (h : HpIn w B nb (.slice (some ⟨g, 0, none⟩) (n + 1) cp) l) (hn : l.length = n + 1) (hp : HpN l l.length) (hbig : n ≤ 900) :
    Calls Try.prog 80 #[.iface 64 (.pointer (some ⟨nb, 0, none⟩))] w fun e w' => e = .returned (.iface 3 (.int .i64 ((l.getD 0 0 : Nat) : Int))) ∧ ∃ l', HpIn w' B nb (.slice (some ⟨g, 0, none⟩) n cp) l' ∧ HpN l' l'.length ∧ l'.length = n ∧ (l.getD 0 0 :: l').Perm l ∧ (∀ y ∈ l, l.getD 0 0 ≤ y) ∧ Wrote w w' (fun k => k = nb ∨ k = g) := by
  have HH : Hid (HpIn w B nb (.slice (some ⟨g, 0, none⟩) (n + 1) cp) l) := h
  have HP : Hid (HpN l l.length) := hp
  have HL : Hid (l.length = n + 1) := hn
  have mN := findLen h.cell
  have mS := findSwap h.cell
  clear h hp hn
  go_enter Try.func80, Try.ntmps80
  go_wp2_with (go_at_call 51; refine (upLen _ _ _ _).mono ?_; rintro e w2 ⟨rfl, hw2⟩; obtain rfl := hw2.symm)
  have hS := upSwap B g cp (n + 1) l 0 n w (HH.out.rown HL.out) HL.out (by omega) (by omega)
  refine hS.mono ?_
  rintro e w1 ⟨rfl, ho1, hg1⟩
  have HH1 : Hid (HpIn w1 B nb (.slice (some ⟨g, 0, none⟩) (n + 1) cp) (sw l 0 n)) := HH.out.swapped ho1 (by rw [sw_len]; exact HL.out) hg1
  have HG1 : Hid (w.grownBy w1 (some g)) := hg1
  have HL1 : Hid ((sw l 0 n).length = n + 1) := by exact (by rw [sw_len]; exact HL.out : (sw l 0 n).length = n + 1)
  clear ho1 hg1 hS mS mN
  go_wp2_with fail
  refine (heapDown B nb g (n + 1) n cp (sw l 0 n) w1 HH1.out HL1.out rfl (dn_start HP.out HL.out) (by omega)).mono ?_
  rintro e w2 ⟨bb, rfl, l2, h2, hl2, hp2, hn2, hk2, hg2⟩
  have HH2 : Hid (HpIn w2 B nb (.slice (some ⟨g, 0, none⟩) (n + 1) cp) l2) := h2
  have HL2 : Hid (l2.length = n + 1) := hl2
  have HG2 : Hid (w.grownBy w2 (some g)) := HG1.out.trans hg2
  have hla : l2.getD n 0 = l.getD 0 0 := by rw [hk2 n (Nat.le_refl _), sw_at l (by rw [HL.out]; omega) (by rw [HL.out]; omega), if_pos rfl]
  have hpp := hp_pop HL.out HP.out (hp2.trans (sw_perm l (by rw [HL.out]; omega) (by rw [HL.out]; omega))) hla
  have HE : Hid (HpN (l2.take n) (l2.take n).length ∧ (l2.take n).length = n ∧ (l.getD 0 0 :: l2.take n).Perm l ∧ (∀ y ∈ l, l.getD 0 0 ≤ y)) := ⟨hp_take hn2 (by omega), by rw [List.length_take]; omega, hpp.1, hpp.2⟩
  have HLa : Hid (l2.getD n 0 = l.getD 0 0) := hla
  have mP := findPop (w := w2) (nb := nb)
  clear h2 hl2 hp2 hn2 hk2 hg2 hla hpp
  go_wp2_with fail
  refine (upPop B nb g n cp l2 w2 HH2.out HL2.out (by omega)).mono ?_
  rintro e w3 ⟨rfl, h3, hg3⟩
  rw [HLa.out]
  have HF : Hid (HpIn w3 B nb (.slice (some ⟨g, 0, none⟩) n cp) (l2.take n) ∧ Wrote w w3 (fun k => k = nb ∨ k = g)) := ⟨h3, (Wrote.of_grown HG2.out (fun k e => by injection e with e; exact Or.inr e.symm)).next hg3 (Or.inl (Or.inl rfl))⟩
  clear h3 hg3 mP
  go_wp2
  go_ret
  exact ⟨rfl, l2.take n, HF.out.1, HE.out.1, HE.out.2.1, HE.out.2.2.1, HE.out.2.2.2, HF.out.2⟩

set_option maxHeartbeats 2000000 in
set_option maxRecDepth 100000 in
theorem implTakeFirst (B nb g n cp : Nat) (l : List Nat) (w : World) (h : HpIn w B nb (.slice (some ⟨g, 0, none⟩) (n + 1) cp) l) (hn : l.length = n + 1) (hp : HpN l l.length) (hbig : n ≤ 900) :
    Calls Try.prog 52 #[.pointer (some ⟨nb, 0, none⟩)] w fun e w' => e = .returned (.int .i64 ((l.getD 0 0 : Nat) : Int)) ∧ ∃ l', HpIn w' B nb (.slice (some ⟨g, 0, none⟩) n cp) l' ∧ HpN l' l'.length ∧ l'.length = n ∧ (l.getD 0 0 :: l').Perm l ∧ (∀ y ∈ l, l.getD 0 0 ≤ y) ∧ Wrote w w' (fun k => k = nb ∨ k = g) := by
  have hP := heapPop B nb g n cp l w h hn hp hbig
  obtain ⟨x, hx⟩ : ∃ x, l.getD 0 0 = x := ⟨_, rfl⟩
  rw [hx] at hP ⊢
  have hta : ∀ W : World, (Instr.typeAssert (.iface 3 (.int .i64 (x : Int))) 20 3 false).run Try.prog W = .ok (.int .i64 (x : Int)) W := asInt x
  clear h hn hp hx
  go_enter Try.func52, Try.ntmps52
  go_wp2_with fail
  refine hP.mono ?_
  rintro e w1 ⟨rfl, hE⟩
  have HE : Hid (_) := hE
  clear hE hP
  go_wp2
  go_ret
  exact ⟨rfl, HE.out⟩

end Go.Proofs.Ytfeklbnggicefaa

/-! The contracts of chapter 8's specification: l1Has, l8At. -/
namespace Go.Proofs.Ytfeklbnggicefaa
open Go.RowKit

/-- The packages ps lie at a, three cells each, their lists where those say. -/
def PkgsIn (w : World) (a : Option Addr) (len : Nat) (ps : List Pk) : Prop :=
  ps.length = len ∧ ∀ j, j < len → ∃ b off, a = some ⟨b, off, none⟩ ∧ b < w.heap.size ∧ w.cell? ⟨b, off + j * 3, none⟩ = some (.string ⟨(ps.getD j pk0).1.toArray⟩) ∧
    ∃ ia il ic fa fl fc, w.cell? ⟨b, off + j * 3 + 1, none⟩ = some (.slice ia il ic) ∧ w.cell? ⟨b, off + j * 3 + 2, none⟩ = some (.slice fa fl fc) ∧ TextsIn w ia il (ps.getD j pk0).2.1 ∧ FuncsIn w fa fl (ps.getD j pk0).2.2
theorem PkgsIn.below {w w' : World} {a : Option Addr} {len : Nat} {ps : List Pk} (h : PkgsIn w a len ps) (hb : Below w.heap.size w w') : PkgsIn w' a len ps := by
  refine ⟨h.1, fun j hj => ?_⟩
  obtain ⟨b, off, e, hlt, c0, ia, il, ic, fa, fl, fc, c1, c2, hi, hf⟩ := h.2 j hj
  exact ⟨b, off, e, Nat.lt_of_lt_of_le hlt hb.size, (hb.cell (p := ⟨b, off + j * 3, none⟩) hlt).trans c0, ia, il, ic, fa, fl, fc, (hb.cell (p := ⟨b, off + j * 3 + 1, none⟩) hlt).trans c1, (hb.cell (p := ⟨b, off + j * 3 + 2, none⟩) hlt).trans c2, hi.below hb, hf.below hb⟩

/-- How long the parts of a project may be. -/
def ShortPs (ps : List Pk) : Prop := ∀ j, (ps.getD j pk0).1.length ≤ 1048576 ∧ (ps.getD j pk0).2.1.length ≤ 1048576 ∧ (∀ i, ((ps.getD j pk0).2.1.getD i []).length ≤ 1048576) ∧ (ps.getD j pk0).2.2.length ≤ 1048576 ∧ ShortF (ps.getD j pk0).2.2

theorem mem_take_step {ts : List (List UInt8)} {s : List UInt8} {k : Nat} (h : ∀ i, i < k → ts.getD i [] ≠ s) (hk : ts.length ≤ k) : ¬ s ∈ ts := fun hm => by
  obtain ⟨i, hi, rfl⟩ := List.mem_iff_getElem.1 hm
  exact h i (by omega) (by simp [List.getD, hi])
theorem getD_mem8 {ts : List (List UInt8)} {k : Nat} (hk : k < ts.length) : ts.getD k [] ∈ ts := by
  rw [List.getD_eq_getElem?_getD, List.getElem?_eq_getElem hk]; exact List.getElem_mem hk

set_option maxHeartbeats 1000000 in
set_option maxRecDepth 100000 in
theorem specHas (a : Option Addr) (len cap : Nat) (ts : List (List UInt8)) (s : List UInt8) (w : World) (hin : TextsIn w a len ts) (hlen : len ≤ 4194304) :
    Calls Try.prog 54 #[.slice a len cap, .string ⟨s.toArray⟩] w fun e w' => e = .returned (.bool (decide (s ∈ ts))) ∧ w' = w := by
  obtain rfl : ts.length = len := hin.1
  have HI : Hid (TextsIn w a ts.length ts) := hin
  clear hin
  go_enter Try.func54, Try.ntmps54
  go_wp2
  go_loopw [5] (fun iv wr => ∃ k : Nat, iv = .int .i64 (k : Int) ∧ k ≤ ts.length ∧ Hid (∀ i, i < k → ts.getD i [] ≠ s) ∧ wr = w) (fun iv _ => ts.length - (intOf iv).toNat)
  case atStart => exact ⟨0, rfl, by omega, (fun i hi => by omega), rfl⟩
  case round =>
    obtain ⟨k, rfl, hk, HA, rfl⟩ := hrel
    by_cases hlt : (k : Int) < (ts.length : Int)
    · have hk2 : k < ts.length := by omega
      obtain ⟨b, off, rfl, hbl, c0⟩ := HI.out.2 k hk2
      have hmem := getD_mem8 hk2
      obtain ⟨x, hx⟩ : ∃ x, ts.getD k [] = x := ⟨_, rfl⟩
      rw [hx] at c0 hmem
      by_cases hxs : x = s
      · subst hxs
        have HR : Hid (decide (x ∈ ts) = true) := decide_eq_true hmem
        have hself : (x == x) = true := by simp
        clear HA hx hmem
        go_wp2
        go_ret
        exact ⟨by rw [HR.out]; rfl, rfl⟩
      · have HA2 : Hid (∀ i, i < k + 1 → ts.getD i [] ≠ s) := fun i hi => by
          rcases Nat.lt_or_ge i k with h | h
          · exact HA.out i h
          · obtain rfl : i = k := by omega
            rw [hx]; exact hxs
        have hne : (x == s) = false := by rw [beq_eq_false_iff_ne]; exact hxs
        clear HA hx hmem
        go_wp2
        go_roundw
        case rel => exact ⟨k + 1, by go_num, by omega, HA2, trivial⟩
        case measure => simp [intOf]; omega
    · have HR : Hid (decide (s ∈ ts) = false) := decide_eq_false (mem_take_step HA.out (by omega))
      go_wp2
      go_ret
      exact ⟨by rw [HR.out]; rfl, rfl⟩

set_option maxHeartbeats 1000000 in
set_option maxRecDepth 100000 in
theorem specAt8 (a : Option Addr) (len cap : Nat) (ps : List Pk) (s : List UInt8) (w : World) (hin : PkgsIn w a len ps) (hlen : len ≤ 1048576) :
    Calls Try.prog 39 #[.slice a len cap, .string ⟨s.toArray⟩] w fun e w' => e = .returned (.int .i64 (at8 ps s)) ∧ w' = w := by
  obtain rfl : ps.length = len := hin.1
  have HI : Hid (PkgsIn w a ps.length ps) := hin
  clear hin
  go_enter Try.func39, Try.ntmps39
  go_wp2
  go_loopw [5] (fun iv wr => ∃ j : Nat, iv = .int .i64 (j : Int) ∧ j ≤ ps.length ∧ Hid (at8 ps s = at8Go s (ps.drop j) j) ∧ wr = w) (fun iv _ => ps.length - (intOf iv).toNat)
  case atStart => exact ⟨0, rfl, by omega, (rfl : at8 ps s = at8Go s (ps.drop 0) 0), rfl⟩
  case round =>
    obtain ⟨j, rfl, hj, HA, rfl⟩ := hrel
    by_cases hlt : (j : Int) < (ps.length : Int)
    · obtain ⟨b, off, rfl, hbl, c0, _⟩ := HI.out.2 j (by omega)
      have hg := at8Go_drop (ps := ps) (k := j) (by omega) s
      obtain ⟨x, hx⟩ : ∃ x, (ps.getD j pk0).1 = x := ⟨_, rfl⟩
      rw [hx] at c0 hg
      by_cases hxs : x = s
      · subst hxs
        have HR : Hid (at8 ps x = (j : Int)) := by exact (by rw [HA.out, hg, if_pos rfl] : at8 ps x = (j : Int))
        have hself : (x == x) = true := by simp
        clear HA hg hx
        go_wp2
        go_ret
        exact ⟨by rw [HR.out]; rfl, rfl⟩
      · have HR : Hid (at8 ps s = at8Go s (ps.drop (j + 1)) (j + 1)) := by exact (by rw [HA.out, hg, if_neg hxs] : at8 ps s = at8Go s (ps.drop (j + 1)) (j + 1))
        have hne : (x == s) = false := by rw [beq_eq_false_iff_ne]; exact hxs
        clear HA hg hx
        go_wp2
        go_roundw
        case rel => exact ⟨j + 1, by go_num, by omega, HR, trivial⟩
        case measure => simp [intOf]; omega
    · have HR : Hid (at8 ps s = -1) := by exact (by rw [HA.out, List.drop_of_length_le (by omega)]; rfl : at8 ps s = -1)
      go_wp2
      go_ret
      exact ⟨by rw [HR.out]; rfl, rfl⟩

end Go.Proofs.Ytfeklbnggicefaa
