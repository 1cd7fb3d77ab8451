/-
  The contracts of chapter 5's specification: Lines, Words, NameOk.
-/
import Derived.Test.YtfeaplddbpikgaaTextS
namespace Go.Proofs.Ytfeaplddbpikgaa
open Go.RowKit

theorem last_at (ls : List (List UInt8)) (h : 0 < ls.length) : ls.getD (ls.length - 1) [] = ls.getLastD [] := by
  have hne : ls ≠ [] := List.length_pos_iff.1 h
  rw [List.getLastD_eq_getLast?, List.getLast?_eq_getElem?, List.getD_eq_getElem?_getD]

set_option maxHeartbeats 1000000 in
set_option maxRecDepth 100000 in
theorem specLines (l : List UInt8) (w : World) (hl : l.length ≤ 1048576) :
    Calls Try.prog 18 #[.string ⟨l.toArray⟩] w fun e w' => ∃ g cp, e = .returned (.slice (some ⟨g, 0, none⟩) (linesL l).length cp) ∧ w'.ownsRow w.heap.size 9 1 (.slice (some ⟨g, 0, none⟩) (linesL l).length cp) (linesL l).length (strV (linesL l)) ∧ Below w.heap.size w w' := by
  have hlen := splitGo_len 10 l []
  have hne := splitGo_ne 10 l []
  have hpos : 0 < (splitL 10 l).length := List.length_pos_iff.2 hne
  have hlen2 : (splitL 10 l).length ≤ l.length + 1 := hlen
  obtain ⟨ls, hls⟩ : ∃ ls, splitL 10 l = ls := ⟨_, rfl⟩
  have HL : Hid (splitL 10 l = ls) := hls
  have HLL : Hid (linesL l = if ls.getLastD [] = [] then ls.dropLast else ls) := by exact (by unfold linesL; rw [hls] : linesL l = if ls.getLastD [] = [] then ls.dropLast else ls)
  rw [hls] at hpos hlen2
  clear hls hlen hne
  go_enter Try.func18, Try.ntmps18
  go_wp2_with fail
  refine (specSplit l 10 10 _ (by rfl) hl).mono ?_
  rintro e w1 ⟨g, cp, rfl, hown, hb⟩
  rw [HL.out] at hown ⊢
  have hcell := str_cellsD hown rfl (ls.length - 1) (by omega)
  rw [last_at ls hpos] at hcell
  have hcap := own_cap hown
  obtain ⟨n, hn⟩ : ∃ n : Nat, ls.length = n + 1 := ⟨ls.length - 1, by omega⟩
  have hn2 : ls.length - 1 = n := by omega
  rw [hn2] at hcell
  have hn3 : ls.length - 1 = n := hn2
  have htake := own_take hown (ls.length - 1) (by omega)
  rw [hn3, strV_take] at htake
  have HN : Hid (ls.length = n + 1) := hn
  rw [hn] at hown hcap ⊢
  have hnb : (n : Int) ≤ 1048576 := by omega
  have hncp : (n : Int) ≤ (cp : Int) := by omega
  have hnn : (0 : Int) ≤ (n : Int) := by omega
  have HO : Hid (w1.ownsRow w.heap.size 9 1 (.slice (some ⟨g, 0, none⟩) (n + 1) cp) (n + 1) (strV ls)) := hown
  have HT : Hid (w1.ownsRow w.heap.size 9 1 (.slice (some ⟨g, 0, none⟩) n cp) n (strV (ls.take n))) := htake
  clear hn hn2 hn3 hown htake hpos hlen2
  obtain ⟨p, hp⟩ : ∃ p, ls.getLastD [] = p := ⟨_, rfl⟩
  have HP : Hid (ls.getLastD [] = p) := hp
  rw [hp] at hcell
  clear hp
  by_cases hpe : p = []
  · have HR : Hid (linesL l = ls.take n) := by
      exact (by rw [HLL.out, HP.out, if_pos hpe, List.dropLast_eq_take, HN.out, Nat.add_sub_cancel] : linesL l = ls.take n)
    have HRL : Hid ((linesL l).length = n) := by exact (by rw [HR.out, List.length_take, HN.out]; omega : (linesL l).length = n)
    subst hpe
    go_wp2
    go_ret
    exact ⟨g, cp, by rw [HRL.out]; rfl, by rw [HRL.out, HR.out]; exact HT.out, hb⟩
  · have HR : Hid (linesL l = ls) := by exact (by rw [HLL.out, HP.out, if_neg hpe] : linesL l = ls)
    have hpe2 : p.isEmpty = false := by simp [hpe]
    clear hpe
    go_wp2
    go_ret
    exact ⟨g, cp, by rw [HR.out, HN.out]; rfl, by rw [HR.out, HN.out]; exact HO.out, hb⟩

set_option maxHeartbeats 1000000 in
set_option maxRecDepth 100000 in
theorem specWords (l : List UInt8) (w : World) (hl : l.length ≤ 1048576) :
    Calls Try.prog 19 #[.string ⟨l.toArray⟩] w fun e w' => ∃ g cp, e = .returned (.slice (some ⟨g, 0, none⟩) (wordsL l).length cp) ∧ w'.ownsRow w.heap.size 9 1 (.slice (some ⟨g, 0, none⟩) (wordsL l).length cp) (wordsL l).length (strV (wordsL l)) ∧ Below w.heap.size w w' := by
  by_cases hle : l = []
  · subst hle
    have hown0 := (World.ownsRow_lit (base := w.heap.size) (e := 9) (size := 1) w #[] 0 (Nat.le_refl _) (by decide) rfl)
    go_enter Try.func19, Try.ntmps19
    go_wp2
    go_ret
    exact ⟨_, _, rfl, hown0, (Below.refl _ _).alloc (Nat.le_refl _) _⟩
  · have hlb : l.isEmpty = false := by simp [hle]
    have HW : Hid (wordsL l = splitL 32 l) := by exact (if_neg hle : wordsL l = splitL 32 l)
    clear hle
    go_enter Try.func19, Try.ntmps19
    go_wp2_with fail
    refine (specSplit l 32 32 _ (by rfl) hl).mono ?_
    rintro e w1 ⟨g, cp, rfl, hown, hb⟩
    go_wp2
    go_ret
    exact ⟨g, cp, by rw [HW.out]; rfl, by rw [HW.out]; exact hown, hb⟩

set_option maxHeartbeats 1000000 in
set_option maxRecDepth 100000 in
theorem specNameOk (l : List UInt8) (w : World) (hl : l.length ≤ 1048576) :
    Calls Try.prog 21 #[.string ⟨l.toArray⟩] w fun e w' => e = .returned (.bool (nameB l)) ∧ w' = w := by
  go_enter Try.func21, Try.ntmps21
  go_wp2
  go_loop [3] (fun ix => ∃ k : Nat, k ≤ l.length ∧ ix = .int .i64 k ∧ Hid (∀ j (hj : j < l.length), j < k → 97 ≤ l[j].toNat ∧ l[j].toNat ≤ 122)) (fun ix => l.length - (intOf ix).toNat)
  case atStart => exact ⟨0, Nat.zero_le _, rfl, (fun j _ h => by omega : ∀ j (hj : j < l.length), j < 0 → _)⟩
  case round =>
    obtain ⟨k, hk, rfl, HK⟩ := hrel
    by_cases hkl : (k : Int) < (l.length : Int)
    · have hk2 : k < l.length := by omega
      obtain ⟨x, hx⟩ : ∃ x : UInt8, l[k] = x := ⟨_, rfl⟩
      have hxb : (⟨l.toArray⟩ : ByteArray)[k]'(by show k < l.toArray.size; simpa using hk2) = x := hx
      by_cases h1 : (x.toNat : Int) < 97
      · have HF : Hid (nameB l = false) := name_bad l k hk2 (by rw [hx]; omega)
        clear hx
        go_wp2
        go_ret
        exact ⟨by rw [HF.out]; rfl, rfl⟩
      · by_cases h2 : 122 < (x.toNat : Int)
        · have HF : Hid (nameB l = false) := name_bad l k hk2 (by rw [hx]; omega)
          clear hx
          go_wp2
          go_ret
          exact ⟨by rw [HF.out]; rfl, rfl⟩
        · have HS : Hid (∀ j (hj : j < l.length), j < k + 1 → 97 ≤ l[j].toNat ∧ l[j].toNat ≤ 122) := fun j hj hjk => by
            by_cases e : j = k
            · subst e; rw [hx]; omega
            · exact HK.out j hj (by omega)
          clear hx
          go_wp2
          go_round
          case rel => exact ⟨k + 1, by omega, by go_num, HS⟩
          case measure => simp [intOf]; omega
    · have HF : Hid (nameB l = inB (l.length : Int) 1 8) := name_good l (fun j hj => HK.out j hj (by omega))
      go_wp2_with (go_at_call 39; refine (specIn _ _ _ _).mono ?_; rintro e w' ⟨rfl, rfl⟩)
      go_ret
      exact ⟨by rw [HF.out]; rfl, rfl⟩

end Go.Proofs.Ytfeaplddbpikgaa
