/-
  The contract of l1DrawBytes: a text of at most eight bytes is drawn.
-/
import Derived.Test.YtjkfjenhocaljaaDoorDraw
import Derived.Test.YtjkfjenhocaljaaDoorOwn
namespace Go.Proofs.YtjkfjenhocaljaaDoor
open Go.RowKit

theorem byte_of (x : Int) (h0 : 0 ≤ x) (h1 : x ≤ 255) : ((UInt8.ofNat x.toNat).toNat : Int) = x := by rw [UInt8.toNat_ofNat']; omega

theorem bytesV_snoc (l : List UInt8) (x : Int) (h0 : 0 ≤ x) (h1 : x ≤ 255) : bytesV l ++ [.int .u8 x] = bytesV (l ++ [UInt8.ofNat x.toNat]) := by
  unfold bytesV
  rw [List.map_append, List.map_singleton, byte_of x h0 h1]

/-- One byte more behind the own bytes. -/
theorem own_snoc {w1 : World} {B : Nat} {v' : Value} {l : List UInt8} {x : Int} (h0 : 0 ≤ x) (h1 : x ≤ 255) (hown' : w1.ownsRow B 5 1 v' (l.length + 1) (bytesV l ++ [.int .u8 x])) :
    w1.ownsRow B 5 1 v' (l ++ [UInt8.ofNat x.toNat]).length (bytesV (l ++ [UInt8.ofNat x.toNat])) := by
  rw [← bytesV_snoc l x h0 h1, List.length_append, List.length_singleton]
  exact hown'

theorem below_g2 {w W W' : World} (h : Below w.heap.size w W) (hg : W.grownBy W' (some w.heap.size)) : Below w.heap.size w W' := h.grown hg h.size (by simp)

/-- A world that has at most new blocks keeps the cursor. -/
theorem Cur.below {w w' : World} {B : Nat} {a : Option Addr} {len cap : Nat} (h : Cur w B a len cap) (hb : Below w.heap.size w w') : Cur w' B a len cap :=
  h.kept (row := none) ⟨hb.os, hb.tape, hb.output, hb.size, fun k hk _ => hb.block k hk⟩ (by simp)


end Go.Proofs.YtjkfjenhocaljaaDoor
