/-
  The contracts of the exact laws' own helpers over lists of texts: eqStringS, markStringS, heldStringS, markText.
-/
import Derived.Test.YtjkfjenhocaljaaDoorOwn
import Derived.Test.YtjkfjenhocaljaaDoorDraw2
import Derived.Test.YtjkfjenhocaljaaDoorTurned
namespace Go.Proofs.YtjkfjenhocaljaaDoor
open Go.RowKit

/-- The digits of k ahead of acc. -/
def markGo : Nat → Nat → List UInt8 → List UInt8
  | 0, _, acc => acc
  | f + 1, k, acc => if k = 0 then acc else markGo f (k / 10) ((48 + UInt8.ofNat (k % 10)) :: acc)
def markL (k : Nat) : List UInt8 := 109 :: markGo k k []

theorem markGo_zero (f : Nat) (acc : List UInt8) : markGo f 0 acc = acc := by
  cases f with
  | zero => rfl
  | succ f => simp [markGo]

theorem markGo_step (f k : Nat) (acc : List UInt8) (h : k ≤ f) (hk : 0 < k) : ∃ f', k / 10 ≤ f' ∧ markGo f k acc = markGo f' (k / 10) ((48 + UInt8.ofNat (k % 10)) :: acc) := by
  obtain ⟨f', rfl⟩ : ∃ f', f = f' + 1 := ⟨f - 1, by omega⟩
  refine ⟨f', by omega, ?_⟩
  conv => lhs; unfold markGo
  rw [if_neg (by omega)]

theorem back1d (t : Int) (h2 : 0 ≤ t) (h3 : t ≤ 255) (W : World) :
    (convert 22 9 (.slice (some ⟨W.heap.size, 0, none⟩) 1 1)).run Tryd.prog (W.alloc (.cells #[.int .u8 t] 5)) = .ok (.string ⟨[UInt8.ofNat t.toNat].toArray⟩) (W.alloc (.cells #[.int .u8 t] 5)) := by
  have ht : ((UInt8.ofNat t.toNat).toNat : Int) = t := by
    rw [UInt8.toNat_ofNat']; omega
  have h := run_convert_bytes_back (P := Tryd.prog) (W.alloc (.cells #[.int .u8 t] 5)) 22 9 5 ⟨W.heap.size, 0, none⟩ 1 [UInt8.ofNat t.toNat] Tryd.underlying22 Tryd.underlying5 Tryd.underlying9 (by
    intro j hj
    have hj' : j < 1 := by simpa using hj
    match j, hj' with
    | 0, _ => simp only [List.getElem_cons_zero, ht]; simp [Addr.add, go_sem])
  exact h

set_option maxHeartbeats 1000000 in
set_option maxRecDepth 100000 in
theorem markTextC (k : Nat) (w : World) (h0 : 0 < k) (h1 : k ≤ 40000000) :
    Calls Tryd.prog 52 #[.int .i64 k] w fun e w' => e = .returned (.string ⟨(markL k).toArray⟩) ∧ w.grownBy w' none := by
  have hcat := cat_list
  go_enter Tryd.func52, Tryd.ntmps52
  go_wp2_with fail
  go_loopw [0, 3] (fun i v wr => ∃ f m : Nat, ∃ o : List UInt8, m ≤ f ∧ m ≤ k ∧ o.length + m ≤ k ∧ i = .int .i64 m ∧ v = .string ⟨o.toArray⟩ ∧ markGo f m o = markGo k k [] ∧ w.grownBy wr none) (fun i _ _ => (intOf i).toNat)
  case atStart => exact ⟨k, k, [], Nat.le_refl _, Nat.le_refl _, by simp, rfl, rfl, rfl, World.grownBy.refl _ _⟩
  case round =>
    obtain ⟨f, m, o, hf, hm, hol, rfl, rfl, hgo, hg⟩ := hrel
    by_cases hlt : 0 < m
    · obtain ⟨f', hf', hst⟩ := markGo_step f m o hf hlt
      have HS : Hid (markGo f' (m / 10) ((48 + UInt8.ofNat (m % 10)) :: o) = markGo k k []) := by
        have := hst.symm.trans hgo
        exact this
      clear hst hgo
      have hbk := back1d (48 + (m : Int) % 10) (by omega) (by omega)
      go_wp2
      go_roundw
      case rel =>
        exact ⟨f', m / 10, (48 + UInt8.ofNat (m % 10)) :: o, hf', by omega, by rw [List.length_cons]; omega, by go_num, rfl, HS.out, hg.trans (World.grownBy_alloc _ _ _)⟩
      case measure => simp [intOf]; omega
    · obtain rfl : m = 0 := by omega
      have HE : Hid (o = markGo k k []) := (markGo_zero f o).symm.trans hgo
      go_wp2
      go_ret
      exact ⟨ret_strl (by unfold markL; rw [← HE.out]), hg⟩

end Go.Proofs.YtjkfjenhocaljaaDoor
