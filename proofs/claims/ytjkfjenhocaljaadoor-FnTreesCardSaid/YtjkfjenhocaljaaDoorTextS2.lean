/-
  The contracts of chapter 5's specification: Lines, Words, NameOk.
-/
import Derived.Test.YtjkfjenhocaljaaDoorTextS
namespace Go.Proofs.YtjkfjenhocaljaaDoor
open Go.RowKit

theorem last_at (ls : List (List UInt8)) (h : 0 < ls.length) : ls.getD (ls.length - 1) [] = ls.getLastD [] := by
  have hne : ls ≠ [] := List.length_pos_iff.1 h
  rw [List.getLastD_eq_getLast?, List.getLast?_eq_getElem?, List.getD_eq_getElem?_getD]



set_option maxHeartbeats 1000000 in
set_option maxRecDepth 100000 in
theorem specNameOk (l : List UInt8) (w : World) (hl : l.length ≤ 1048576) :
    Calls Tryd.prog 46 #[.string ⟨l.toArray⟩] w fun e w' => e = .returned (.bool (nameB l)) ∧ w' = w := by
  go_enter Tryd.func46, Tryd.ntmps46
  go_wp2
  go_loop [3] (fun ix => ∃ k : Nat, k ≤ l.length ∧ ix = .int .i64 k ∧ Hid (∀ j (hj : j < l.length), j < k → 97 ≤ l[j].toNat ∧ l[j].toNat ≤ 122)) (fun ix => l.length - (intOf ix).toNat)
  case atStart => exact ⟨0, Nat.zero_le _, rfl, (fun j _ h => by omega : ∀ j (hj : j < l.length), j < 0 → _)⟩
  case round =>
    obtain ⟨k, hk, rfl, HK⟩ := hrel
    by_cases hkl : (k : Int) < (l.length : Int)
    · have hk2 : k < l.length := by omega
      obtain ⟨x, hx⟩ : ∃ x : UInt8, l[k] = x := ⟨_, rfl⟩
      have hxb : (⟨l.toArray⟩ : ByteArray)[k]'(by show k < l.toArray.size; simpa using hk2) = x := hx
      by_cases h1 : (x.toNat : Int) < 97
      · have HF : Hid (nameB l = false) := name_bad l k hk2 (by rw [hx]; omega)
        clear hx
        go_wp2
        go_ret
        exact ⟨by rw [HF.out]; rfl, rfl⟩
      · by_cases h2 : 122 < (x.toNat : Int)
        · have HF : Hid (nameB l = false) := name_bad l k hk2 (by rw [hx]; omega)
          clear hx
          go_wp2
          go_ret
          exact ⟨by rw [HF.out]; rfl, rfl⟩
        · have HS : Hid (∀ j (hj : j < l.length), j < k + 1 → 97 ≤ l[j].toNat ∧ l[j].toNat ≤ 122) := fun j hj hjk => by
            by_cases e : j = k
            · subst e; rw [hx]; omega
            · exact HK.out j hj (by omega)
          clear hx
          go_wp2
          go_round
          case rel => exact ⟨k + 1, by omega, by go_num, HS⟩
          case measure => simp [intOf]; omega
    · have HF : Hid (nameB l = inB (l.length : Int) 1 8) := name_good l (fun j hj => HK.out j hj (by omega))
      go_wp2_with (go_at_call 42; refine (specIn _ _ _ _).mono ?_; rintro e w' ⟨rfl, rfl⟩)
      go_ret
      exact ⟨by rw [HF.out]; rfl, rfl⟩

end Go.Proofs.YtjkfjenhocaljaaDoor
