/-
  The contracts of chapter 5's specification: NumberOf; a number is written (l1Int, digits).
-/
import Derived.Test.YtjkfjenhocaljaaDoorTextS3
import Derived.Test.YtjkfjenhocaljaaDoorTurned
namespace Go.Proofs.YtjkfjenhocaljaaDoor
open Go.RowKit


theorem back1p (t : Int) (h2 : 0 ≤ t) (h3 : t ≤ 255) (W : World) :
    (convert 22 9 (.slice (some ⟨W.heap.size, 0, none⟩) 1 1)).run Tryd.prog (W.alloc (.cells #[.int .u8 t] 5)) = .ok (.string ⟨#[UInt8.ofNat t.toNat]⟩) (W.alloc (.cells #[.int .u8 t] 5)) := by
  have ht : ((UInt8.ofNat t.toNat).toNat : Int) = t := by
    rw [UInt8.toNat_ofNat']; omega
  have h := run_convert_bytes_back (P := Tryd.prog) (W.alloc (.cells #[.int .u8 t] 5)) 22 9 5 ⟨W.heap.size, 0, none⟩ 1 [UInt8.ofNat t.toNat] Tryd.underlying22 Tryd.underlying5 Tryd.underlying9 (by
    intro j hj
    have hj' : j < 1 := by simpa using hj
    match j, hj' with
    | 0, _ => simp only [List.getElem_cons_zero, ht]; simp [Addr.add, go_sem])
  exact h

theorem back_dig (k : Nat) (W : World) :
    (convert 22 9 (.slice (some ⟨W.heap.size, 0, none⟩) 1 1)).run Tryd.prog (W.alloc (.cells #[.int .u8 (48 + (k : Int) % 10)] 5)) = .ok (.string ⟨[digit k].toArray⟩) (W.alloc (.cells #[.int .u8 (48 + (k : Int) % 10)] 5)) := by
  have h := back1p (48 + (k : Int) % 10) (by omega) (by omega) W
  have e : UInt8.ofNat (48 + (k : Int) % 10).toNat = digit k := by unfold digit; congr 1
  rw [e] at h
  exact h


end Go.Proofs.YtjkfjenhocaljaaDoor
