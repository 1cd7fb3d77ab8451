/-
  A store in a block of its own, as the laws hold it; plain facts for FnStore.
-/
import Derived.Test.YtfjpbbacibfnmaaDrawS2
import Derived.Test.YtfjpbbacibfnmaaMath3D
namespace Go.Proofs.Ytfjpbbacibfnmaa
open Go.RowKit

structure BoxIn (w : World) (B : Nat) (room : Int) (a : Option Addr) (n cap : Nat) (bs : List Bl) : Prop where
  c0 : w.cell? ⟨B, 0, none⟩ = some (.int .i64 room)
  c1 : w.cell? ⟨B, 1, none⟩ = some (.slice a n cap)
  inn : BlobsIn w a n cap bs

theorem BoxIn.below {w w' : World} {B : Nat} {room : Int} {a : Option Addr} {n cap : Nat} {bs : List Bl} (h : BoxIn w B room a n cap bs) (hb : Below w.heap.size w w') : BoxIn w' B room a n cap bs :=
  ⟨(hb.cell (p := ⟨B, 0, none⟩) (World.block_lt_of_cell? w ⟨B, 0, none⟩ h.c0)).trans h.c0, (hb.cell (p := ⟨B, 1, none⟩) (World.block_lt_of_cell? w ⟨B, 1, none⟩ h.c1)).trans h.c1, h.inn.below hb⟩

theorem BoxIn.drew {w : World} {B : Nat} {room : Int} {a : Option Addr} {n cap : Nat} {bs : List Bl} (h : BoxIn w B room a n cap bs) : BoxIn w.drew B room a n cap bs := ⟨h.c0, h.c1, h.inn⟩

theorem kept_small (room : Int) (bs : List Bl) (t : List UInt8) : (keptB room bs t).length ≤ bs.length + 1 ∧ takenL (keptB room bs t) ≤ takenL bs + t.length := by
  unfold keptB
  split
  · exact keepB_len room bs t
  · simp [takenL]

theorem keep_same {room : Int} {bs : List Bl} {t : List UInt8} (h : keepC room bs t ≠ 0) : keepB room bs t = bs := by
  unfold keepC at h
  unfold keepB
  simp only [] at h ⊢
  split
  · rfl
  · rename_i h1
    rw [if_neg h1] at h
    split
    · rfl
    · rename_i h2
      rw [if_neg h2] at h
      exact absurd rfl h

theorem fetched_hash (room : Int) (bs : List Bl) (key : Int) : fetchedB room bs key = true → hashL (fetchedT room bs key) = key := by
  unfold fetchedB fetchedT
  by_cases h : okB room bs = true
  · rw [if_pos h, if_pos h]
    exact fetch_hash (okB_iff.1 h).2 key
  · rw [if_neg h]; intro h'; cases h'

theorem fetchT_len (bs : List Bl) (key : Int) : (fetchT bs key).length ≤ takenL bs := by
  induction bs with
  | nil => simp [fetchT]
  | cons b r ih =>
    unfold fetchT
    split
    · simp [takenL]
    · simp [takenL]; omega

theorem fetchedT_len (room : Int) (bs : List Bl) (key : Int) : (fetchedT room bs key).length ≤ takenL bs := by
  unfold fetchedT
  split
  · exact fetchT_len bs key
  · simp

end Go.Proofs.Ytfjpbbacibfnmaa
