/-
  The contracts of spec.Turned and impl.Turned.
-/
import Derived.Test.YtmkafobjfehakaaRows
import Derived.Test.YtmkafobjfehakaaMath1
import Derived.Test.YtmkafobjfehakaaMathT
import Derived.Test.YtmkafobjfehakaaHexOf
import Derived.WalkKit
import Derived.WalkLawsBesides
import Derived.Laws.IdiomStrings
import Derived.Laws.Concat
import Derived.OpenShut
import Derived.Handy
namespace Go.Proofs.Ytmkafobjfehakaa
open Go.RowKit

theorem back1 (t : Int) (h2 : 0 ≤ t) (h3 : t ≤ 255) (W : World) :
    (convert 22 9 (.slice (some ⟨W.heap.size, 0, none⟩) 1 1)).run Try.prog (W.alloc (.cells #[.int .u8 t] 5)).drew = .ok (.string ⟨#[UInt8.ofNat t.toNat]⟩) (W.alloc (.cells #[.int .u8 t] 5)).drew := by
  have ht : ((UInt8.ofNat t.toNat).toNat : Int) = t := by
    rw [UInt8.toNat_ofNat']; omega
  have h := run_convert_bytes_back (P := Try.prog) (W.alloc (.cells #[.int .u8 t] 5)).drew 22 9 5 ⟨W.heap.size, 0, none⟩ 1 [UInt8.ofNat t.toNat] Try.underlying22 Try.underlying5 Try.underlying9 (by
    intro j hj
    have hj' : j < 1 := by simpa using hj
    match j, hj' with
    | 0, _ => simp only [List.getElem_cons_zero, ht]; simp [Addr.add, go_sem])
  exact h

set_option maxHeartbeats 1000000 in
theorem specTurnedYes (s : ByteArray) (a t : Int) (w : World) (hs : s.size ≤ 1048576) (h0 : 0 ≤ a) (h1 : a < s.size) (h2 : 0 ≤ t) (h3 : t ≤ 255) :
    Calls Try.prog 10 #[.string s, .int .i64 a, .int .i64 t] w fun e w' => e = .returned (.string ⟨(turnedL s.data.toList a t).toArray⟩) ∧ Below w.heap.size w w' := by
  have hB : inB t 0 255 = true := inB_yes _ _ _ h2 h3
  have hbk := back1 t h2 h3
  go_enter Try.func10, Try.ntmps10
  go_wp2_with (go_at_call 24; refine (specIn _ _ _ _).mono ?_; rintro e w' ⟨rfl, rfl⟩)
  go_region
  all_goals (try go_wp2)
  go_ret
  exact ⟨ret_str2 (turned_cat s a t h0 h1 h2 h3), ((Below.refl _ _).alloc (Nat.le_refl _) _).drew⟩

set_option maxHeartbeats 1000000 in
theorem specTurnedNo (s : ByteArray) (a t : Int) (w : World) (h : a < 0 ∨ (s.size : Int) ≤ a ∨ t < 0 ∨ 255 < t) :
    Calls Try.prog 10 #[.string s, .int .i64 a, .int .i64 t] w fun e w' => e = .returned (.string s) ∧ Below w.heap.size w w' := by
  rcases (show a < 0 ∨ (0 ≤ a ∧ (s.size : Int) ≤ a) ∨ ((0 ≤ a ∧ a < s.size) ∧ (t < 0 ∨ 255 < t)) by omega) with h | ⟨h0, h⟩ | ⟨⟨h0, h1⟩, h⟩
  · go_enter Try.func10, Try.ntmps10
    go_wp2
    go_ret
    exact ⟨rfl, Below.refl _ _⟩
  · go_enter Try.func10, Try.ntmps10
    go_wp2
    go_ret
    exact ⟨rfl, Below.refl _ _⟩
  · have hB : inB t 0 255 = false := inB_no _ _ _ h
    clear h
    go_enter Try.func10, Try.ntmps10
    go_wp2_with (go_at_call 24; refine (specIn _ _ _ _).mono ?_; rintro e w' ⟨rfl, rfl⟩)
    go_ret
    exact ⟨rfl, Below.refl _ _⟩

theorem specTurned (s : ByteArray) (a t : Int) (w : World) (hs : s.size ≤ 1048576) :
    Calls Try.prog 10 #[.string s, .int .i64 a, .int .i64 t] w fun e w' => e = .returned (.string ⟨(turnedL s.data.toList a t).toArray⟩) ∧ Below w.heap.size w w' := by
  by_cases h : (0 ≤ a ∧ a < s.size) ∧ (0 ≤ t ∧ t ≤ 255)
  · exact specTurnedYes s a t w hs h.1.1 h.1.2 h.2.1 h.2.2
  · rw [turnedL_no _ _ _ (by simp; omega)]
    exact specTurnedNo s a t w (by omega)

theorem implTurnedYesCore (s r : ByteArray) (a t : Int) (cap : Nat) (C : Array Value) (w : World) (h0 : 0 ≤ a) (h1 : a < s.size) (h2 : 0 ≤ t) (h3 : t ≤ 255)
    (hconv : (convert 9 22 (.string s)).run Try.prog w = .ok (.slice (some ⟨w.heap.size, 0, none⟩) s.size cap) (w.drew.alloc (.cells C 5 (C.size, C.size + 1))))
    (c0 : Value) (hc0 : (w.alloc (.cells C 5 (C.size, C.size + 1))).cell? ⟨w.heap.size, a.toNat, none⟩ = some c0) (hz0 : (w.alloc (.cells C 5 (C.size, C.size + 1))).frozen? ⟨w.heap.size, a.toNat, none⟩ = false)
    (hback : (convert 22 9 (.slice (some ⟨w.heap.size, 0, none⟩) s.size cap)).run Try.prog ((w.alloc (.cells C 5 (C.size, C.size + 1))).setCell ⟨w.heap.size, a.toNat, none⟩ (.int .u8 t)).drew = .ok (.string r) ((w.alloc (.cells C 5 (C.size, C.size + 1))).setCell ⟨w.heap.size, a.toNat, none⟩ (.int .u8 t)).drew) :
    Calls Try.prog 7 #[.string s, .int .i64 a, .int .i64 t] w fun e w' => e = .returned (.string r) ∧ Below w.heap.size w w' := by
  go_enter Try.func7, Try.ntmps7
  go_wp2
  go_ret
  exact ⟨rfl, (((Below.refl _ _).alloc (Nat.le_refl _) _).setCell (Nat.le_refl _) _).drew⟩

theorem implTurnedNoCore (s r : ByteArray) (a t : Int) (cap : Nat) (C : Array Value) (w : World) (h : a < 0 ∨ (s.size : Int) ≤ a ∨ t < 0 ∨ 255 < t)
    (hconv : (convert 9 22 (.string s)).run Try.prog w = .ok (.slice (some ⟨w.heap.size, 0, none⟩) s.size cap) (w.drew.alloc (.cells C 5 (C.size, C.size + 1))))
    (hback : (convert 22 9 (.slice (some ⟨w.heap.size, 0, none⟩) s.size cap)).run Try.prog (w.alloc (.cells C 5 (C.size, C.size + 1))).drew = .ok (.string r) (w.alloc (.cells C 5 (C.size, C.size + 1))).drew) :
    Calls Try.prog 7 #[.string s, .int .i64 a, .int .i64 t] w fun e w' => e = .returned (.string r) ∧ Below w.heap.size w w' := by
  rcases (show a < 0 ∨ (0 ≤ a ∧ (s.size : Int) ≤ a) ∨ ((0 ≤ a ∧ a < s.size) ∧ t < 0) ∨ ((0 ≤ a ∧ a < s.size) ∧ 0 ≤ t ∧ 255 < t) by omega) with h | ⟨h0, h⟩ | ⟨⟨h0, h1⟩, h⟩ | ⟨⟨h0, h1⟩, h2, h⟩
  all_goals
    go_enter Try.func7, Try.ntmps7
    go_wp2
    go_ret
    exact ⟨rfl, ((Below.refl _ _).alloc (Nat.le_refl _) _).drew⟩

theorem implTurned (s : ByteArray) (a t : Int) (w : World) :
    Calls Try.prog 7 #[.string s, .int .i64 a, .int .i64 t] w fun e w' => e = .returned (.string ⟨(turnedL s.data.toList a t).toArray⟩) ∧ Below w.heap.size w w' := by
  have hconv := run_bytes_of_string (P := Try.prog) w 9 22 5 s Try.underlying9 Try.underlying22 Try.underlying5
  have hsz : s.data.size = s.size := rfl
  have hrow : s.size ≤ (bytesRow s (grownCap w s.size 0 5)).size := by simp [bytesRow, hsz]
  have hcell : ∀ j (hj : j < s.data.size), (w.alloc (.cells (bytesRow s (grownCap w s.size 0 5)) 5 ((bytesRow s (grownCap w s.size 0 5)).size, (bytesRow s (grownCap w s.size 0 5)).size + 1))).cell? ⟨w.heap.size, j, none⟩ = some (.int .u8 (s.data[j].toNat : Int)) := by
    intro j hj
    rw [World.cell?_alloc_mark, bytesRow_at s _ j hj]
  by_cases h : (0 ≤ a ∧ a < s.size) ∧ (0 ≤ t ∧ t ≤ 255)
  · obtain ⟨⟨h0, h1⟩, h2, h3⟩ := h
    have hk : a.toNat < s.data.size := by rw [hsz]; omega
    have ht : ((UInt8.ofNat t.toNat).toNat : Int) = t := by rw [UInt8.toNat_ofNat']; omega
    have hyes : turnedL s.data.toList a t = s.data.toList.set a.toNat (UInt8.ofNat t.toNat) := turnedL_yes _ _ _ h0 (by simpa using h1) h2 h3
    refine implTurnedYesCore s _ a t _ _ w h0 h1 h2 h3 hconv _ (hcell a.toNat hk) (by rw [World.frozen?_alloc_mark]; simp; omega) ?_
    have hlen : (turnedL s.data.toList a t).length = s.size := by rw [hyes]; simp
    rw [← hlen]
    refine run_convert_bytes_back (P := Try.prog) _ 22 9 5 ⟨w.heap.size, 0, none⟩ _ (turnedL s.data.toList a t) Try.underlying22 Try.underlying5 Try.underlying9 ?_
    intro j hj
    have hj' : j < s.data.size := by rw [hlen] at hj; exact hj
    rw [hlen]
    have e0 : (⟨w.heap.size, 0, none⟩ : Addr).add j = ⟨w.heap.size, j, none⟩ := by simp [Addr.add]; omega
    rw [e0, World.cell?_drew]
    by_cases e : j = a.toNat
    · subst e
      rw [World.cell?_setCell_same _ _ _ (hcell _ hk)]
      simp only [hyes, List.getElem_set_self, ht]
    · rw [World.cell?_setCell_other _ _ _ _ (by intro e2; apply e; injection e2 with _ e3; exact e3.symm), hcell j hj']
      simp only [hyes]
      rw [List.getElem_set_ne (by omega)]
      simp
  · have hno : turnedL s.data.toList a t = s.data.toList := turnedL_no _ _ _ (by simp; omega)
    rw [hno]
    refine implTurnedNoCore s _ a t _ _ w (by omega) hconv ?_
    have hlen : s.data.toList.length = s.size := by simp
    rw [← hlen]
    refine run_convert_bytes_back (P := Try.prog) _ 22 9 5 ⟨w.heap.size, 0, none⟩ _ s.data.toList Try.underlying22 Try.underlying5 Try.underlying9 ?_
    intro j hj
    have hj' : j < s.data.size := by rw [hlen] at hj; exact hj
    rw [hlen]
    have e0 : (⟨w.heap.size, 0, none⟩ : Addr).add j = ⟨w.heap.size, j, none⟩ := by simp [Addr.add]; omega
    rw [e0, World.cell?_drew, hcell j hj']
    simp

end Go.Proofs.Ytmkafobjfehakaa
