/-
  The contracts of DrawLines, DrawWords, DrawNameOk, DrawNumberOf.
-/
import Derived.Test.YtjkfjenhocaljaaDoorDrawW
import Derived.Test.YtjkfjenhocaljaaDoorDrawT
import Derived.Test.YtjkfjenhocaljaaDoorBend2
import Derived.Test.YtjkfjenhocaljaaDoorTextS5
namespace Go.Proofs.YtjkfjenhocaljaaDoor
open Go.RowKit



def pickT (l : List (List UInt8)) (x : Int) : List UInt8 := l.getD x.toNat []

theorem pickT_cell (l : List (List UInt8)) (x : Int) (h0 : 0 ≤ x) (h1 : x < l.length) (W : World) (e : TypeId) :
    (W.alloc (.cells (strV l).toArray e)).cell? ⟨W.heap.size, x.toNat, none⟩ = some (.string ⟨(pickT l x).toArray⟩) := by
  have hx : x.toNat < l.length := by omega
  rw [World.cell?_alloc_mark]
  simp [pickT, strV, hx]

theorem pickT_len (l : List (List UInt8)) (x : Int) (n : Nat) (h : ∀ y ∈ l, y.length ≤ n) : (pickT l x).length ≤ n := by
  unfold pickT
  by_cases hx : x.toNat < l.length
  · have : l.getD x.toNat [] = l[x.toNat] := by simp [List.getD, hx]
    rw [this]; exact h _ (List.getElem_mem hx)
  · have : l.getD x.toNat [] = [] := by simp [List.getD, hx]
    rw [this]; simp



end Go.Proofs.YtjkfjenhocaljaaDoor
