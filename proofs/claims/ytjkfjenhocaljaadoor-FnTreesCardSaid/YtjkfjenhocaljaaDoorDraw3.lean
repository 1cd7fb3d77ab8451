/-
  The contracts of DrawHash and DrawTurned.
-/
import Derived.Test.YtjkfjenhocaljaaDoorDraw2
import Derived.Deep.RegionWith
namespace Go.Proofs.YtjkfjenhocaljaaDoor
open Go.RowKit


def pick (l : List Int) (x : Int) : Int := l.getD x.toNat 0

theorem pick_cell (l : List Int) (x : Int) (h0 : 0 ≤ x) (h1 : x < l.length) (W : World) (e : TypeId) :
    (W.alloc (.cells (l.map (Value.int .i64)).toArray e)).cell? ⟨W.heap.size, x.toNat, none⟩ = some (.int .i64 (pick l x)) := by
  have hx : x.toNat < l.length := by omega
  rw [World.cell?_alloc_mark]
  simp [pick, hx]


end Go.Proofs.YtjkfjenhocaljaaDoor
