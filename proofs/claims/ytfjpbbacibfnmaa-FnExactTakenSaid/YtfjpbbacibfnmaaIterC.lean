/-
  The contracts of maps.Keys and slices.Sorted at a map of blobs: the keys come in order.
-/
import Derived.Test.YtfjpbbacibfnmaaIter
import Derived.Test.YtfjpbbacibfnmaaMapB
namespace Go.Proofs.Ytfjpbbacibfnmaa
open Go.RowKit Go.Maps Go.Sort Go.Shelf

theorem sortsWide (m : Nat) : AnyZI.SortsIn Try.prog Try.laidSorted_ren Fence.wide m :=
  ⟨fun blk off cap ss W hH hblk hsz => callsIn_wide.2 (AnyM.slices_Sort_int Try.laidSort blk off cap ss W hH hblk hsz),
   fun p cap W => callsIn_wide.2 (AnyM.slices_Sort_int_none Try.laidSort p cap W)⟩

theorem mapsKeys (mb : Option Nat) (W : World) : Calls Try.prog 68 #[.map mb] W fun e w' => e = .returned (.func (.func 76) #[] #[.pointer (some ⟨W.heap.size, 0, none⟩)]) ∧ w' = W.alloc (.cells #[.map mb] 64) :=
  (callsIn_wide (n := 5)).1 (AnyZI.keys_in Try.laidKeys Fence.wide 5 trivial rfl mb W)

set_option maxHeartbeats 1000000 in
theorem sortedKeys (b nn : Nat) (D : DataW Unit) (l : List Bl) (w : World) (hown : w.ownsMap Try.prog 2 blobR b nn D) (hM : MapIs D l) (hr : Rises l) (hmax : nn ≤ 4194304) :
    Calls Try.prog 67 #[.func (.func 76) #[] #[.pointer (some ⟨w.heap.size, 0, none⟩)]] (w.alloc (.cells #[.map (some b)] 64)) fun e w' => ∃ v, e = .returned v ∧ w'.ownsRow (w.heap.size + 1) 2 1 v l.length (l.map fun x => .int .i64 x.1) ∧ Below (w.heap.size + 1) (w.alloc (.cells #[.map (some b)] 64)) w' := by
  have hbl := hown.lt
  have hsz := hown.size_le
  have hseq : SeqGives Fence.wide 2 Try.prog 76 #[.pointer (some ⟨w.heap.size, 0, none⟩)] encZ (fun ss => ss.Perm (intKeys D)) (Maps.size D) (w.alloc (.cells #[.map (some b)] 64)) :=
    AnyZI.keys_gives (ρ := Try.laidKeys_ren) { Try.laidKeys with } Fence.wide _ trivial rfl (by omega) w.heap.size b nn D _ (by simp) (by simp) (hown.alloc _)
  have cS := AnyZI.sorted_in Try.laidSorted Fence.wide 5 trivial trivial trivial trivial rfl (by omega) (sortsWide _) (enters_of Try.func75 (by kernel_rfl) rfl) 76 #[.pointer (some ⟨w.heap.size, 0, none⟩)] trivial (enters_of Try.func76 (by kernel_rfl) rfl) _ _ (by unfold maxLen; omega) (by omega) _ hseq
  have c2 := (callsIn_wide (n := 5)).1 cS
  refine c2.mono ?_
  rintro e w' ⟨v, ss, rfl, hp, hrow, _, hb⟩
  have hs := keys_sorted hown hM hr hp
  have hlen : ss.length = l.length := by have := congrArg List.length hs; simpa using this
  rw [World.size_alloc] at hrow hb
  rw [hs, hlen, List.map_map] at hrow
  exact ⟨v, rfl, hrow, hb⟩

end Go.Proofs.Ytfjpbbacibfnmaa
