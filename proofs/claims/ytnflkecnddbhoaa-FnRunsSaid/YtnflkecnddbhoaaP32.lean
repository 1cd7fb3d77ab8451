/-
  Parts of one proof, one behind the other: ImgD, ImgE, ImgE2.
-/
import Derived.Test.YtnflkecnddbhoaaP31
import Derived.Test.YtnflkecnddbhoaaP26
import Derived.Test.YtnflkecnddbhoaaP28
import Derived.Deep.MidRow
import Derived.Great.Walk
import Derived.Below
import Derived.Deep.RegionWith
import Derived.BigQuiet

/-! How the landed code of chapter 14 runs: its registers, held and written; a copy of some of them. -/
namespace Go.Proofs.Ytnflkecnddbhoaa
open Go.RowKit

/-- The registers of one call: the row, its arguments, what is next. -/
def rgL (row : List Int) (av : Value) (p : Int) : List Value := intsV row ++ [av, .int .i64 p]
section
variable {row : List Int} {av : Value} {p : Int}
theorem rgL_len (h : row.length = 64) : (rgL row av p).length = 66 := by simp [rgL, intsV, h]
theorem rgL_at (h : row.length = 64) (j : Nat) (hj : j < 64) : (rgL row av p)[j]? = some (.int .i64 (row.getD j 0)) := by
  unfold rgL intsV
  rw [List.getElem?_append_left (by simp; omega)]
  simp [List.getD, show j < row.length by omega]
theorem rgL_a (h : row.length = 64) : (rgL row av p)[64]? = some av := by
  unfold rgL intsV
  rw [List.getElem?_append_right (by simp; omega)]
  simp [h]
theorem rgL_p (h : row.length = 64) : (rgL row av p)[65]? = some (.int .i64 p) := by
  unfold rgL intsV
  rw [List.getElem?_append_right (by simp; omega)]
  simp [h]
theorem rgL_set (h : row.length = 64) (j : Nat) (hj : j < 64) (v : Int) : (rgL row av p).set j (.int .i64 v) = rgL (row.set j v) av p := by
  unfold rgL intsV
  rw [List.set_append_left _ _ (by simp; omega), List.map_set]
theorem rgL_next (h : row.length = 64) (q : Int) : (rgL row av p).set 65 (.int .i64 q) = rgL row av q := by
  unfold rgL intsV
  rw [List.set_append_right _ _ (by simp; omega)]
  simp [h]
end
/-- A run as it goes: what all calls share (at Rb), the registers of this one (at G). -/
structure Rq14 (X : World) (Rb G : Nat) (tv : Value) (f : Int) (row : List Int) (av : Value) (p : Int) : Prop where
  rb : X.heap[Rb]? = some (.cells #[tv, .int .i64 f] 59 (0, 0))
  gb : X.heap[G]? = some (.cells (rgL row av p).toArray 97 (0, 0))
  ln : row.length = 64
  ne : G ≠ Rb
def fuI (X : World) (Rb : Nat) : Nat := match X.cell? ⟨Rb, 1, none⟩ with
  | some (.int _ n) => n.toNat
  | _ => 0
section
variable {X Y : World} {Rb G : Nat} {tv : Value} {f f' : Int} {row : List Int} {av : Value} {p : Int}
theorem Rq14.c0 (h : Rq14 X Rb G tv f row av p) : X.cell? ⟨Rb, 0, none⟩ = some tv := by rw [cell_of_row _ _ _ _ _ _ h.rb]; rfl
theorem Rq14.c1 (h : Rq14 X Rb G tv f row av p) : X.cell? ⟨Rb, 1, none⟩ = some (.int .i64 f) := by rw [cell_of_row _ _ _ _ _ _ h.rb]; rfl
theorem Rq14.fz (h : Rq14 X Rb G tv f row av p) (j : Nat) : X.frozen? ⟨Rb, j, none⟩ = false := frozen_of_row _ _ _ _ _ h.rb
theorem Rq14.gz (h : Rq14 X Rb G tv f row av p) (j : Nat) : X.frozen? ⟨G, j, none⟩ = false := frozen_of_row _ _ _ _ _ h.gb
theorem Rq14.gc (h : Rq14 X Rb G tv f row av p) (j : Nat) (hj : j < 64) : X.cell? ⟨G, j, none⟩ = some (.int .i64 (row.getD j 0)) := by rw [cell_of_row _ _ _ _ _ _ h.gb, List.getElem?_toArray, rgL_at h.ln j hj]
theorem Rq14.ga (h : Rq14 X Rb G tv f row av p) : X.cell? ⟨G, 64, none⟩ = some av := by rw [cell_of_row _ _ _ _ _ _ h.gb, List.getElem?_toArray, rgL_a h.ln]
theorem Rq14.gp (h : Rq14 X Rb G tv f row av p) : X.cell? ⟨G, 65, none⟩ = some (.int .i64 p) := by rw [cell_of_row _ _ _ _ _ _ h.gb, List.getElem?_toArray, rgL_p h.ln]
theorem Rq14.fu (h : Rq14 X Rb G tv f row av p) : fuI X Rb = f.toNat := by unfold fuI; rw [h.c1]
theorem Rq14.lr (h : Rq14 X Rb G tv f row av p) : Rb < X.heap.size := lt_of_block h.rb
theorem Rq14.lg (h : Rq14 X Rb G tv f row av p) : G < X.heap.size := lt_of_block h.gb
theorem Rq14.below (h : Rq14 X Rb G tv f row av p) (hb : Below X.heap.size X Y) : Rq14 Y Rb G tv f row av p := ⟨(hb.block Rb h.lr).trans h.rb, (hb.block G h.lg).trans h.gb, h.ln, h.ne⟩
theorem Rq14.drew (h : Rq14 X Rb G tv f row av p) : Rq14 X.drew Rb G tv f row av p := h.below ⟨rfl, rfl, rfl, Nat.le_refl _, fun _ _ => rfl⟩
theorem Rq14.fuel (h : Rq14 X Rb G tv f row av p) (g : Int) : Rq14 (X.setCell ⟨Rb, 1, none⟩ (.int .i64 g)) Rb G tv g row av p :=
  ⟨heap_setCell_same _ _ _ _ _ _ h.rb, (heap_setCell_other _ _ _ _ h.ne).trans h.gb, h.ln, h.ne⟩
theorem Rq14.hold (h : Rq14 X Rb G tv f row av p) (j : Nat) (hj : j < 64) (v : Int) : Rq14 (X.setCell ⟨G, j, none⟩ (.int .i64 v)) Rb G tv f (row.set j v) av p :=
  ⟨(heap_setCell_other _ _ _ _ (fun e => h.ne e.symm)).trans h.rb, by rw [heap_setCell_same _ _ _ _ _ _ h.gb, ← rgL_set h.ln j hj]; simp, by rw [List.length_set]; exact h.ln, h.ne⟩
theorem Rq14.next (h : Rq14 X Rb G tv f row av p) (q : Int) : Rq14 (X.setCell ⟨G, 65, none⟩ (.int .i64 q)) Rb G tv f row av q :=
  ⟨(heap_setCell_other _ _ _ _ (fun e => h.ne e.symm)).trans h.rb, by rw [heap_setCell_same _ _ _ _ _ _ h.gb]; simp [rgL_next (p := p) h.ln], h.ln, h.ne⟩
/-- What all share was written, by whomever. -/
theorem Rq14.call (h : Rq14 X Rb G tv f row av p) (hw : WroteR X Y (fun q => q = Rb)) (hb : Y.heap[Rb]? = some (.cells #[tv, .int .i64 f'] 59 (0, 0))) : Rq14 Y Rb G tv f' row av p :=
  ⟨hb, (hw.block G h.lg h.ne).trans h.gb, h.ln, h.ne⟩
end
theorem wrote_set (X : World) (b j : Nat) (v : Value) (S : Nat → Prop) (h : S b) : WroteR X (X.setCell ⟨b, j, none⟩ v) S := WroteR.of_grown (grown_set X b j v) (fun q e => by injection e with e; subst e; exact h)

theorem index86 (W : World) (b : Nat) (i : Int) (h0 : 0 ≤ i) (hi : i < 64) : (Instr.indexAt 95 (.pointer (some ⟨b, 0, none⟩)) (.int .i64 i)).run Try.prog W = .ok (.pointer (some ⟨b, i.toNat, none⟩)) W := by
  have hu : Try.prog.underlying 95 = some (.array (Try.prog.arrayLen 95) (Try.prog.elem 95)) := by kernel_rfl
  have hl : Try.prog.arrayLen 95 = 64 := by kernel_rfl
  have he : Try.prog.elem 95 = 2 := by kernel_rfl
  rw [run_indexAt_array _ _ _ _ _ hu, hl, he, if_pos ⟨by omega, by omega⟩, Try.sizeOf2]
  simp [Result.andThen, Addr.add_mid]
set_option maxHeartbeats 1000000 in
set_option maxRecDepth 100000 in
theorem implHeld (X : World) (G : Nat) (j v : Int) (hj : 0 ≤ j ∧ j < 64) (hc : X.cell? ⟨G, j.toNat, none⟩ = some (.int .i64 v)) :
    Calls Try.prog 55 #[.pointer (some ⟨G, 0, none⟩), .int .i64 j] X fun e w' => e = .returned (.int .i64 v) ∧ w' = X := by
  obtain ⟨h0, h1⟩ := hj
  have hix := index86 X G j h0 h1
  go_enter Try.func55, Try.ntmps55
  go_wp2
  go_ret
  exact ⟨rfl, rfl⟩
set_option maxHeartbeats 1000000 in
set_option maxRecDepth 100000 in
theorem implHold (X : World) (G : Nat) (j v u : Int) (hj : 0 ≤ j ∧ j < 64) (hc : X.cell? ⟨G, j.toNat, none⟩ = some (.int .i64 u)) (hf : X.frozen? ⟨G, j.toNat, none⟩ = false) :
    Calls Try.prog 75 #[.pointer (some ⟨G, 0, none⟩), .int .i64 j, .int .i64 v] X fun e w' => e = .returned (.tuple #[]) ∧ w' = X.setCell ⟨G, j.toNat, none⟩ (.int .i64 v) := by
  obtain ⟨h0, h1⟩ := hj
  have hix := index86 X G j h0 h1
  go_enter Try.func75, Try.ntmps75
  go_wp2
  go_end0
  exact ⟨rfl, rfl⟩
set_option maxHeartbeats 1000000 in
set_option maxRecDepth 100000 in
theorem cloneInts (b off n c : Nat) (xs : List Int) (w : World) (hl : xs.length = n) (hc : ∀ j, j < n → w.cell? ⟨b, off + j, none⟩ = some (.int .i64 (xs.getD j 0))) (hn : n ≤ 1000) :
    Calls Try.prog 105 #[.slice (some ⟨b, off, none⟩) n c] w fun e w' => ∃ a' c', e = .returned (.slice a' n c') ∧ (∀ j, j < n → ∃ b' off', a' = some ⟨b', off', none⟩ ∧ w.heap.size ≤ b' ∧ b' < w'.heap.size ∧ w'.cell? ⟨b', off' + j, none⟩ = some (.int .i64 (xs.getD j 0))) ∧ Below w.heap.size w w' := by
  obtain ⟨i0, hi, hz0, hz1, hz2⟩ := info_parts info2
  have hb0 : Below w.heap.size w (w.alloc (.cells #[] 2)) := (Below.refl _ _).alloc (Nat.le_refl _) _
  have hP0 : (w.alloc (.cells #[] 2)).ownsRow w.heap.size 2 1 (.slice (some ⟨w.heap.size, 0, none⟩) 0 0) 0 [] := World.ownsRow_lit w #[] 0 (Nat.le_refl _) (by decide) rfl
  have hsrc : Src (w.alloc (.cells #[] 2)) (.slice (some ⟨b, off, none⟩) n c) n 1 (intsV xs) := by
    refine ⟨by rw [intsV_len, hl, Nat.mul_one], intsV_one _, Or.inr ⟨_, c, rfl, fun j u hu => ?_⟩⟩
    have hj : j < n := by have := (List.getElem?_eq_some_iff.1 hu).1; rw [intsV_len, hl] at this; exact this
    rw [add_plainR]
    have h1 := hc j hj
    have h2 : (intsV xs)[j]? = some (.int .i64 (xs.getD j 0)) := by simp [intsV, List.getD, show j < xs.length by omega]
    rw [h2] at hu
    injection hu with hu
    rw [← hu]
    exact cell_alwR _ h1
  obtain ⟨v', Y, hrun, hown, hg, _⟩ := run_append_src (P := Try.prog) (w.alloc (.cells #[] 2)) w.heap.size 27 27 2 i0 _ 1 8 Try.underlying27 hi hz0 hz1 hz2 rfl (by decide) _ _ _ hP0 _ n (intsV xs) hsrc (by unfold maxLen; omega) (by omega) hb0.size
  rw [Nat.zero_add, List.nil_append] at hown
  obtain ⟨a', c', rfl⟩ := own_any12 hown
  have HF : Hid ((∀ j, j < n → ∃ b' off', a' = some ⟨b', off', none⟩ ∧ w.heap.size ≤ b' ∧ b' < Y.heap.size ∧ Y.cell? ⟨b', off' + j, none⟩ = some (.int .i64 (xs.getD j 0))) ∧ Below w.heap.size w Y) := by
    refine ⟨fun j hj => ?_, hb0.grown hg hb0.size (fun q e => by have : w.heap.size = q := by simpa [Value.ownBlock] using e
                                                                 omega)⟩
    obtain ⟨g, cp, e⟩ := own_some hown (by omega)
    injection e with e1 _ e3
    subst e1 e3
    have hgl := hown.lt g rfl
    exact ⟨g, 0, rfl, hgl.1, hgl.2, by rw [Nat.zero_add]; exact ints_cell hown j (by omega)⟩
  have heq : ∀ V : World, (binOp .eql 27 (.slice (some ⟨b, off, none⟩) n c) (.slice none 0 0)).run Try.prog V = .ok (.bool false) V := fun V => Lib.run_eql_slice_nil V _ _ (some ⟨b, off, none⟩) n c 0 0 Try.underlying27
  clear hown hg hsrc hP0 hb0 hc hl
  go_enter Try.func105, Try.ntmps105
  go_wp2_with (at_builtin; refine wpList_append_run rfl (.tmp 5) (.tmp 6) 27 rfl _ _ _ rfl rfl hrun ?_; clear hrun)
  go_ret
  exact ⟨_, _, rfl, HF.out⟩
set_option maxHeartbeats 2000000 in
set_option maxRecDepth 100000 in
theorem implFrom (X : World) (Rb G : Nat) (tv : Value) (f : Int) (row : List Int) (av : Value) (p : Int) (h : Rq14 X Rb G tv f row av p) (r n : Int) (hr : 0 ≤ r ∧ 0 ≤ n ∧ r + n ≤ 64) (hn : n ≤ 3) :
    Calls Try.prog 93 #[.pointer (some ⟨G, 0, none⟩), .int .i64 r, .int .i64 n] X fun e w' => ∃ a' c', e = .returned (.slice a' n.toNat c') ∧ (∀ j, j < n.toNat → ∃ b' off', a' = some ⟨b', off', none⟩ ∧ X.heap.size ≤ b' ∧ b' < w'.heap.size ∧ w'.cell? ⟨b', off' + j, none⟩ = some (.int .i64 (((row.drop r.toNat).take n.toNat).getD j 0))) ∧ Below X.heap.size X w' := by
  obtain ⟨h0, h1, h2⟩ := hr
  obtain ⟨ys, hys⟩ : ∃ ys, (row.drop r.toNat).take n.toNat = ys := ⟨_, rfl⟩
  have hyl : ys.length = n.toNat := by rw [← hys, List.length_take, List.length_drop, h.ln]; omega
  have hya : ∀ j, j < n.toNat → ys.getD j 0 = row.getD (r.toNat + j) 0 := fun j hj => by
    rw [← hys]
    simp [List.getD, hj]
  have HC : Hid (∀ off, (off = r.toNat ∨ n.toNat = 0) → ∀ c, Calls Try.prog 105 #[.slice (some ⟨G, off, none⟩) n.toNat c] X fun e w' => ∃ a' c', e = .returned (.slice a' n.toNat c') ∧ (∀ j, j < n.toNat → ∃ b' off', a' = some ⟨b', off', none⟩ ∧ X.heap.size ≤ b' ∧ b' < w'.heap.size ∧ w'.cell? ⟨b', off' + j, none⟩ = some (.int .i64 (ys.getD j 0))) ∧ Below X.heap.size X w') := fun off ho c => cloneInts G off n.toNat c ys X hyl (fun j hj => by
    rcases ho with rfl | e
    · rw [hya j hj]; exact h.gc _ (by omega)
    · omega) (by omega)
  rw [hys]
  have hu : Try.prog.underlying 95 = some (.array (Try.prog.arrayLen 95) (Try.prog.elem 95)) := by kernel_rfl
  have hl64 : Try.prog.arrayLen 95 = 64 := by kernel_rfl
  have he2 : Try.prog.elem 95 = 2 := by kernel_rfl
  obtain ⟨q, hq⟩ : ∃ q : Nat, r = (q : Int) := ⟨r.toNat, by omega⟩
  obtain ⟨m, hm⟩ : ∃ m : Nat, n = (m : Int) := ⟨n.toNat, by omega⟩
  subst hq hm
  simp only [Int.toNat_natCast] at HC ⊢
  have hsl : (Instr.sliceAt 95 (.pointer (some ⟨G, 0, none⟩)) (some (.int .i64 (q : Int))) (some (.int .i64 ((q : Int) + (m : Int)))) none).run Try.prog X = .ok (.slice (some ⟨G, if 64 = q then 0 else q, none⟩) m (64 - q)) X := by
    rw [run_sliceAt_array_lh (P := Try.prog) X _ _ hu .i64 .i64 _ _ (by omega) (by omega) (by rw [hl64]; omega), he2, Try.sizeOf2, hl64]
    simp only [Result.andThen, slicedAt]
    have e1 : ((q : Int) + (m : Int)).toNat = q + m := by omega
    rw [e1, Int.toNat_natCast, Nat.add_sub_cancel_left]
    by_cases e : (64 : Nat) = q
    · rw [if_pos e, if_pos e]
    · rw [if_neg e, if_neg e]
      simp [Addr.add_mid]
  obtain ⟨of_, hof⟩ : ∃ of_, (if 64 = q then 0 else q) = of_ := ⟨_, rfl⟩
  rw [hof] at hsl
  have HC2 : Hid (_) := HC.out of_ (by
    by_cases e : 64 = q
    · exact Or.inr (by omega)
    · rw [if_neg e] at hof; exact Or.inl hof.symm) (64 - q)
  clear HC hys hyl hya h hof
  go_enter Try.func93, Try.ntmps93
  go_wp2_with fail
  refine Calls.mono HC2.out ?_
  rintro e w' ⟨a', c', rfl, hA, hB⟩
  go_wp2
  go_ret
  exact ⟨_, _, rfl, hA, hB⟩

end Go.Proofs.Ytnflkecnddbhoaa

/-! Contracts of chapter 14's landed code: one instruction is done (do, pairDone): all kinds but calls. -/
namespace Go.Proofs.Ytnflkecnddbhoaa
open Go.RowKit

/-- What an instruction made of a run that had m left (and one for itself). -/
def DoOut (rs : List Rt) (X : World) (Rb G : Nat) (tv : Value) (m k p : Nat) (xs row : List Int) (av : Value) (e : Ending) (w' : World) : Prop :=
  ∃ (c : Int) (row2 : List Int) (p2 m2 : Nat), e = .returned (.int .i64 c) ∧ Rq14 w' Rb G tv (m2 : Int) row2 av (p2 : Int) ∧ WroteR X w' (fun q => q = Rb ∨ q = G) ∧ WordL row2 ∧ m2 ≤ m ∧
    ((c = 0 ∧ p2 < (rs.getD k rt0).2.2.length ∧ run14 rs (m + 1) (m + 1) k xs row (p : Int) = run14 rs m2 m2 k xs row2 (p2 : Int)) ∨ (c ≠ 0 ∧ run14 rs (m + 1) (m + 1) k xs row (p : Int) = (0, c, m2)))
/-- Its arguments lie elsewhere. -/
def AsR (X : World) (Rb G : Nat) (aa : Option Addr) (xs : List Int) : Prop := ∀ j, j < xs.length → ∃ b off, aa = some ⟨b, off, none⟩ ∧ b ≠ Rb ∧ b ≠ G ∧ b < X.heap.size ∧ X.cell? ⟨b, off + j, none⟩ = some (.int .i64 (xs.getD j 0))
theorem AsR.wrote {X Y : World} {Rb G : Nat} {aa : Option Addr} {xs : List Int} (h : AsR X Rb G aa xs) (hw : WroteR X Y (fun q => q = Rb ∨ q = G)) : AsR Y Rb G aa xs := fun j hj => by
  obtain ⟨b, off, e, h1, h2, h3, h4⟩ := h j hj
  exact ⟨b, off, e, h1, h2, Nat.lt_of_lt_of_le h3 hw.size, (World.cell?_of_block (a := ⟨b, off + j, none⟩) (hw.block b h3 (fun e => by rcases e with e | e; exact h1 e; exact h2 e))).trans h4⟩
/-- What a step stands in: the instruction has its own block, next is one further. -/
structure Du14 (X Z : World) (Rb G N : Nat) (tv : Value) (m : Nat) (row : List Int) (av : Value) (q : Int) (i : In13) : Prop where
  r : Rq14 Z Rb G tv (m : Int) row av q
  n : Z.heap[N]? = some (.cells #[.int .i64 i.1, .int .i64 i.2.1, .int .i64 i.2.2.1, .int .i64 i.2.2.2.1, .string ⟨i.2.2.2.2.toArray⟩] 74 (0, 0))
  nr : N ≠ Rb
  ng : N ≠ G
  w : WroteR X Z (fun q => q = Rb ∨ q = G)
section
variable {X Z Y : World} {Rb G N : Nat} {tv : Value} {m : Nat} {row : List Int} {av : Value} {q : Int} {i : In13}
theorem Du14.i0 (h : Du14 X Z Rb G N tv m row av q i) : Z.cell? ⟨N, 0, none⟩ = some (.int .i64 i.1) := by rw [cell_of_row _ _ _ _ _ _ h.n]; rfl
theorem Du14.i1 (h : Du14 X Z Rb G N tv m row av q i) : Z.cell? ⟨N, 1, none⟩ = some (.int .i64 i.2.1) := by rw [cell_of_row _ _ _ _ _ _ h.n]; rfl
theorem Du14.i2 (h : Du14 X Z Rb G N tv m row av q i) : Z.cell? ⟨N, 2, none⟩ = some (.int .i64 i.2.2.1) := by rw [cell_of_row _ _ _ _ _ _ h.n]; rfl
theorem Du14.i3 (h : Du14 X Z Rb G N tv m row av q i) : Z.cell? ⟨N, 3, none⟩ = some (.int .i64 i.2.2.2.1) := by rw [cell_of_row _ _ _ _ _ _ h.n]; rfl
theorem Du14.i4 (h : Du14 X Z Rb G N tv m row av q i) : Z.cell? ⟨N, 4, none⟩ = some (.string ⟨i.2.2.2.2.toArray⟩) := by rw [cell_of_row _ _ _ _ _ _ h.n]; rfl
theorem Du14.ln (h : Du14 X Z Rb G N tv m row av q i) : N < Z.heap.size := lt_of_block h.n
theorem Du14.drew (h : Du14 X Z Rb G N tv m row av q i) : Du14 X Z.drew Rb G N tv m row av q i := ⟨h.r.drew, h.n, h.nr, h.ng, h.w.trans (WroteR.of_below ⟨rfl, rfl, rfl, Nat.le_refl _, fun _ _ => rfl⟩)⟩
theorem Du14.below (h : Du14 X Z Rb G N tv m row av q i) (hb : Below Z.heap.size Z Y) : Du14 X Y Rb G N tv m row av q i := ⟨h.r.below hb, (hb.block N h.ln).trans h.n, h.nr, h.ng, h.w.trans (WroteR.of_below hb)⟩
theorem Du14.hold (h : Du14 X Z Rb G N tv m row av q i) (j : Nat) (hj : j < 64) (v : Int) : Du14 X (Z.setCell ⟨G, j, none⟩ (.int .i64 v)) Rb G N tv m (row.set j v) av q i :=
  ⟨h.r.hold j hj v, (heap_setCell_other _ _ _ _ h.ng).trans h.n, h.nr, h.ng, h.w.trans (wrote_set _ _ _ _ _ (Or.inr rfl))⟩
theorem Du14.next (h : Du14 X Z Rb G N tv m row av q i) (z : Int) : Du14 X (Z.setCell ⟨G, 65, none⟩ (.int .i64 z)) Rb G N tv m row av z i :=
  ⟨h.r.next z, (heap_setCell_other _ _ _ _ h.ng).trans h.n, h.nr, h.ng, h.w.trans (wrote_set _ _ _ _ _ (Or.inr rfl))⟩
/-- A step's opening. -/
theorem du_start (h : Rq14 X Rb G tv (m : Int) row av q) (i : In13) (z : Int) : Du14 X ((X.alloc (.cells #[.int .i64 i.1, .int .i64 i.2.1, .int .i64 i.2.2.1, .int .i64 i.2.2.2.1, .string ⟨i.2.2.2.2.toArray⟩] 74)).setCell ⟨G, 65, none⟩ (.int .i64 z)) Rb G X.heap.size tv m row av z i := by
  have hb : Below X.heap.size X (X.alloc (.cells #[.int .i64 i.1, .int .i64 i.2.1, .int .i64 i.2.2.1, .int .i64 i.2.2.2.1, .string ⟨i.2.2.2.2.toArray⟩] 74)) := (Below.refl _ _).alloc (Nat.le_refl _) _
  have h1 := h.lr
  have h2 := h.lg
  have hA := heap_alloc_new X (.cells #[.int .i64 i.1, .int .i64 i.2.1, .int .i64 i.2.2.1, .int .i64 i.2.2.2.1, .string ⟨i.2.2.2.2.toArray⟩] 74)
  exact Du14.next (q := q) ⟨h.below hb, hA, by omega, by omega, WroteR.of_below hb⟩ z
end

section
variable (rs : List Rt) (X : World) (Rb G : Nat) (tv : Value) (m k p : Nat) (xs row : List Int) (R A Bq : Int) (nm : List UInt8)
set_option maxHeartbeats 4000000 in
set_option maxRecDepth 100000 in
theorem implDo1 (av : Value) (h : Rq14 X Rb G tv (m : Int) row av (p : Int)) (hir : Ir14 rs k p (1, R, A, Bq, nm)) (hw : WordL row) (hpl : p ≤ 200) :
    Calls Try.prog 56 #[.pointer (some ⟨Rb, 0, none⟩), .pointer (some ⟨G, 0, none⟩), .agg #[.int .i64 1, .int .i64 R, .int .i64 A, .int .i64 Bq, .string ⟨nm.toArray⟩]] X fun e w' => DoOut rs X Rb G tv m k p xs row av e w' := by
  have hok := hir.ok.2.2
  simp only at hok
  have hR : 0 ≤ R ∧ R < 64 := by omega
  have hA : -2147483648 ≤ A ∧ A ≤ 2147483647 := by omega
  have st := du_start h (1, R, A, Bq, nm) ((p : Int) + 1)
  have gp := (h.below ((Below.refl _ X).alloc (Nat.le_refl _) (.cells #[.int .i64 1, .int .i64 R, .int .i64 A, .int .i64 Bq, .string ⟨nm.toArray⟩] 74))).gp
  have gz := (h.below ((Below.refl _ X).alloc (Nat.le_refl _) (.cells #[.int .i64 1, .int .i64 R, .int .i64 A, .int .i64 Bq, .string ⟨nm.toArray⟩] 74))).gz 65
  obtain ⟨Y, hY⟩ : ∃ Y, X.alloc (.cells #[.int .i64 1, .int .i64 R, .int .i64 A, .int .i64 Bq, .string ⟨nm.toArray⟩] 74) = Y := ⟨_, rfl⟩
  simp only at st
  rw [hY] at st gp gz
  obtain ⟨Z, hZ⟩ : ∃ Z, Y.setCell ⟨G, 65, none⟩ (.int .i64 ((p : Int) + 1)) = Z := ⟨_, rfl⟩
  rw [hZ] at st
  have HF : Hid (∀ V, Du14 X V Rb G X.heap.size tv m (row.set R.toNat A) av ((p : Int) + 1) (1, R, A, Bq, nm) → DoOut rs X Rb G tv m k p xs row av (.returned (.int .i64 0)) V) := fun V hV =>
    ⟨0, _, p + 1, m, rfl, hV.r, hV.w, hw.set _ (by omega), Nat.le_refl _, Or.inl ⟨rfl, hir.nx (by simp) (by simp), run14_go (hir.s1 rfl)⟩⟩
  have HS : Hid (∀ V, Du14 X V Rb G X.heap.size tv m row av ((p : Int) + 1) (1, R, A, Bq, nm) → Du14 X (V.setCell ⟨G, R.toNat, none⟩ (.int .i64 A)) Rb G X.heap.size tv m (row.set R.toNat A) av ((p : Int) + 1) (1, R, A, Bq, nm)) := fun V hV => hV.hold _ (by omega) _
  have HC : Hid (∀ V, Du14 X V Rb G X.heap.size tv m row av ((p : Int) + 1) (1, R, A, Bq, nm) → Calls Try.prog 75 #[.pointer (some ⟨G, 0, none⟩), .int .i64 R, .int .i64 A] V fun e w' => e = .returned (.tuple #[]) ∧ w' = V.setCell ⟨G, R.toNat, none⟩ (.int .i64 A)) := fun V hV => implHold V G R A _ hR (hV.r.gc _ (by omega)) (hV.r.gz _)
  have i0 := st.i0
  obtain ⟨N, hN⟩ : ∃ N, X.heap.size = N := ⟨_, rfl⟩
  rw [hN] at st HS HC i0 HF
  have sd := st.drew
  have i1 := sd.i1
  have i2 := sd.i2
  simp only at i0 i1 i2
  have HSt : Hid (Du14 X Z Rb G N tv m row av ((p : Int) + 1) (1, R, A, Bq, nm)) := st
  clear h hir hok hR hA st sd
  go_enter Try.func56, Try.ntmps56
  go_wp2_with fail
  go_region_with (go_at_call 75; refine (HC.out _ HSt.out.drew).mono ?_; rintro e w1 ⟨rfl, rfl⟩)
  all_goals
    go_wp2
    go_ret
    exact HF.out _ (HS.out _ HSt.out.drew)
end

end Go.Proofs.Ytnflkecnddbhoaa

/-! Contracts of chapter 14's landed code: one instruction is done, at kinds 2, 7, 8 (written by gen_imge.py). -/
namespace Go.Proofs.Ytnflkecnddbhoaa
open Go.RowKit

section
variable (rs : List Rt) (X : World) (Rb G : Nat) (tv : Value) (m k p : Nat) (xs row : List Int) (R A Bq : Int) (nm : List UInt8)
set_option maxHeartbeats 4000000 in
set_option maxRecDepth 100000 in
theorem implDo2 (aa : Option Addr) (ac : Nat) (h : Rq14 X Rb G tv (m : Int) row (.slice aa xs.length ac) (p : Int)) (hir : Ir14 rs k p (2, R, A, Bq, nm)) (hw : WordL row) (hpl : p ≤ 200) (hxs : AsR X Rb G aa xs) (hxl : (xs.length : Int) = (rs.getD k rt0).2.1) (hxw : WordL xs) :
    Calls Try.prog 56 #[.pointer (some ⟨Rb, 0, none⟩), .pointer (some ⟨G, 0, none⟩), .agg #[.int .i64 2, .int .i64 R, .int .i64 A, .int .i64 Bq, .string ⟨nm.toArray⟩]] X fun e w' => DoOut rs X Rb G tv m k p xs row (.slice aa xs.length ac) e w' := by
  have hok := hir.ok.2.2
  simp only at hok
  have hR : 0 ≤ R ∧ R < 64 := by omega
  have hA : 0 ≤ A ∧ A < (xs.length : Int) := by have := hir.ar rfl; simp only at this; omega
  have st := du_start h (2, R, A, Bq, nm) ((p : Int) + 1)
  have gp := (h.below ((Below.refl _ X).alloc (Nat.le_refl _) (.cells #[.int .i64 2, .int .i64 R, .int .i64 A, .int .i64 Bq, .string ⟨nm.toArray⟩] 74))).gp
  have gz := (h.below ((Below.refl _ X).alloc (Nat.le_refl _) (.cells #[.int .i64 2, .int .i64 R, .int .i64 A, .int .i64 Bq, .string ⟨nm.toArray⟩] 74))).gz 65
  obtain ⟨Y, hY⟩ : ∃ Y, X.alloc (.cells #[.int .i64 2, .int .i64 R, .int .i64 A, .int .i64 Bq, .string ⟨nm.toArray⟩] 74) = Y := ⟨_, rfl⟩
  simp only at st
  rw [hY] at st gp gz
  obtain ⟨Z, hZ⟩ : ∃ Z, Y.setCell ⟨G, 65, none⟩ (.int .i64 ((p : Int) + 1)) = Z := ⟨_, rfl⟩
  rw [hZ] at st
  obtain ⟨q, hq⟩ : ∃ q : Nat, A = (q : Int) := ⟨A.toNat, by omega⟩
  subst hq
  have hq2 : q < xs.length := by omega
  have hxq := hxw.at q
  have hs2 := hir.s2 (xs := xs) (row := row) rfl
  simp only [Int.toNat_natCast] at hs2
  have hxZ : ∀ V, WroteR X V (fun q => q = Rb ∨ q = G) → ∃ b off, aa = some ⟨b, off, none⟩ ∧ V.cell? ⟨b, off + q, none⟩ = some (.int .i64 (xs.getD q 0)) := fun V hV => by
    obtain ⟨b, off, e, _, _, _, hc⟩ := hxs.wrote hV q hq2
    exact ⟨b, off, e, hc⟩
  obtain ⟨b, off, rfl, -⟩ := hxZ X (WroteR.refl _ _)
  have hxV : ∀ V, WroteR X V (fun q => q = Rb ∨ q = G) → V.cell? ⟨b, off + q, none⟩ = some (.int .i64 (xs.getD q 0)) := fun V hV => by
    obtain ⟨b', off', e, hc⟩ := hxZ V hV
    injection e with e
    injection e with e1 e2 _
    subst e1 e2
    exact hc
  obtain ⟨xv, hxv⟩ : ∃ xv, xs.getD q 0 = xv := ⟨_, rfl⟩
  rw [hxv] at hxV hs2 hxq
  have HF : Hid (∀ V, Du14 X V Rb G X.heap.size tv m (row.set R.toNat xv) (.slice (some ⟨b, off, none⟩) xs.length ac) ((p : Int) + 1) (2, R, (q : Int), Bq, nm) → DoOut rs X Rb G tv m k p xs row (.slice (some ⟨b, off, none⟩) xs.length ac) (.returned (.int .i64 0)) V) := fun V hV =>
    ⟨0, _, p + 1, m, rfl, hV.r, hV.w, hw.set _ (by omega), Nat.le_refl _, Or.inl ⟨rfl, hir.nx (by simp) (by simp), run14_go hs2⟩⟩
  have HS : Hid (∀ V, Du14 X V Rb G X.heap.size tv m row (.slice (some ⟨b, off, none⟩) xs.length ac) ((p : Int) + 1) (2, R, (q : Int), Bq, nm) → Du14 X (V.setCell ⟨G, R.toNat, none⟩ (.int .i64 xv)) Rb G X.heap.size tv m (row.set R.toNat xv) (.slice (some ⟨b, off, none⟩) xs.length ac) ((p : Int) + 1) (2, R, (q : Int), Bq, nm)) := fun V hV => hV.hold _ (by omega) _
  have HC : Hid (∀ V, Du14 X V Rb G X.heap.size tv m row (.slice (some ⟨b, off, none⟩) xs.length ac) ((p : Int) + 1) (2, R, (q : Int), Bq, nm) → Calls Try.prog 75 #[.pointer (some ⟨G, 0, none⟩), .int .i64 R, .int .i64 xv] V fun e w' => e = .returned (.tuple #[]) ∧ w' = V.setCell ⟨G, R.toNat, none⟩ (.int .i64 xv)) := fun V hV => implHold V G R xv _ hR (hV.r.gc _ (by omega)) (hV.r.gz _)
  have i0 := st.i0
  have hqi : (q : Int) < (xs.length : Int) := by omega
  obtain ⟨nx, hnx⟩ : ∃ nx, xs.length = nx := ⟨_, rfl⟩
  obtain ⟨N, hN⟩ : ∃ N, X.heap.size = N := ⟨_, rfl⟩
  rw [hN, hnx] at st HS HC HF
  rw [hN] at i0
  rw [hnx] at hqi ⊢
  have sd := st.drew
  have i1 := sd.i1
  have i2 := sd.i2
  have ga := sd.r.ga
  have cx := hxV _ sd.w
  simp only at i0 i1 i2
  have HSt : Hid (Du14 X Z Rb G N tv m row (.slice (some ⟨b, off, none⟩) nx ac) ((p : Int) + 1) (2, R, (q : Int), Bq, nm)) := st
  clear h hir hok hR hA st sd hxs hxl hxw hxZ hxV hs2 hq2 hnx hxv
  go_enter Try.func56, Try.ntmps56
  go_wp2_with fail
  go_region_with (go_at_call 75; refine (HC.out _ HSt.out.drew).mono ?_; rintro e w1 ⟨rfl, rfl⟩)
  all_goals
    go_wp2
    go_ret
    exact HF.out _ (HS.out _ HSt.out.drew)
set_option maxHeartbeats 4000000 in
set_option maxRecDepth 100000 in
theorem implDo8 (av : Value) (h : Rq14 X Rb G tv (m : Int) row av (p : Int)) (hir : Ir14 rs k p (8, R, A, Bq, nm)) (hw : WordL row) (hpl : p ≤ 200) :
    Calls Try.prog 56 #[.pointer (some ⟨Rb, 0, none⟩), .pointer (some ⟨G, 0, none⟩), .agg #[.int .i64 8, .int .i64 R, .int .i64 A, .int .i64 Bq, .string ⟨nm.toArray⟩]] X fun e w' => DoOut rs X Rb G tv m k p xs row av e w' := by
  have hok := hir.ok.2.2
  simp only at hok
  have hA : 0 ≤ A ∧ A < ((rs.getD k rt0).2.2.length : Int) := by have := hir.pl (Or.inr rfl); simp only at this; omega
  have st := du_start h (8, R, A, Bq, nm) ((p : Int) + 1)
  have gp := (h.below ((Below.refl _ X).alloc (Nat.le_refl _) (.cells #[.int .i64 8, .int .i64 R, .int .i64 A, .int .i64 Bq, .string ⟨nm.toArray⟩] 74))).gp
  have gz := (h.below ((Below.refl _ X).alloc (Nat.le_refl _) (.cells #[.int .i64 8, .int .i64 R, .int .i64 A, .int .i64 Bq, .string ⟨nm.toArray⟩] 74))).gz 65
  obtain ⟨Y, hY⟩ : ∃ Y, X.alloc (.cells #[.int .i64 8, .int .i64 R, .int .i64 A, .int .i64 Bq, .string ⟨nm.toArray⟩] 74) = Y := ⟨_, rfl⟩
  simp only at st
  rw [hY] at st gp gz
  obtain ⟨Z, hZ⟩ : ∃ Z, Y.setCell ⟨G, 65, none⟩ (.int .i64 ((p : Int) + 1)) = Z := ⟨_, rfl⟩
  rw [hZ] at st
  obtain ⟨q, hq⟩ : ∃ q : Nat, A = (q : Int) := ⟨A.toNat, by omega⟩
  subst hq
  have hs8 := hir.s8 (xs := xs) (row := row) rfl
  simp only at hs8
  have HF : Hid (∀ V, Du14 X V Rb G X.heap.size tv m row av (q : Int) (8, R, (q : Int), Bq, nm) → DoOut rs X Rb G tv m k p xs row av (.returned (.int .i64 0)) V) := fun V hV =>
    ⟨0, _, q, m, rfl, hV.r, hV.w, hw, Nat.le_refl _, Or.inl ⟨rfl, by omega, run14_go hs8⟩⟩
  have s2 := st.next (q : Int)
  have i0 := st.i0
  have i2 := st.i2
  have gp2 := st.r.gp
  have gz2 := st.r.gz 65
  obtain ⟨N, hN⟩ : ∃ N, X.heap.size = N := ⟨_, rfl⟩
  rw [hN] at s2 HF i0 i2
  simp only at i0 i2
  obtain ⟨V, hV⟩ : ∃ V, Z.setCell ⟨G, 65, none⟩ (.int .i64 (q : Int)) = V := ⟨_, rfl⟩
  rw [hV] at s2
  have HO : Hid (_) := HF.out _ s2
  clear h hir hok hA st hs8 s2 HF
  go_enter Try.func56, Try.ntmps56
  go_wp2
  go_ret
  exact HO.out
set_option maxHeartbeats 4000000 in
set_option maxRecDepth 100000 in
theorem implDo7 (av : Value) (h : Rq14 X Rb G tv (m : Int) row av (p : Int)) (hir : Ir14 rs k p (7, R, A, Bq, nm)) (hw : WordL row) (hpl : p ≤ 200) :
    Calls Try.prog 56 #[.pointer (some ⟨Rb, 0, none⟩), .pointer (some ⟨G, 0, none⟩), .agg #[.int .i64 7, .int .i64 R, .int .i64 A, .int .i64 Bq, .string ⟨nm.toArray⟩]] X fun e w' => DoOut rs X Rb G tv m k p xs row av e w' := by
  have hok := hir.ok.2.2
  simp only at hok
  have hA : 0 ≤ A ∧ A < ((rs.getD k rt0).2.2.length : Int) := by have := hir.pl (Or.inl rfl); simp only at this; omega
  have hR : 0 ≤ R ∧ R < 64 := by omega
  have st := du_start h (7, R, A, Bq, nm) ((p : Int) + 1)
  have gp := (h.below ((Below.refl _ X).alloc (Nat.le_refl _) (.cells #[.int .i64 7, .int .i64 R, .int .i64 A, .int .i64 Bq, .string ⟨nm.toArray⟩] 74))).gp
  have gz := (h.below ((Below.refl _ X).alloc (Nat.le_refl _) (.cells #[.int .i64 7, .int .i64 R, .int .i64 A, .int .i64 Bq, .string ⟨nm.toArray⟩] 74))).gz 65
  obtain ⟨Y, hY⟩ : ∃ Y, X.alloc (.cells #[.int .i64 7, .int .i64 R, .int .i64 A, .int .i64 Bq, .string ⟨nm.toArray⟩] 74) = Y := ⟨_, rfl⟩
  simp only at st
  rw [hY] at st gp gz
  obtain ⟨Z, hZ⟩ : ∃ Z, Y.setCell ⟨G, 65, none⟩ (.int .i64 ((p : Int) + 1)) = Z := ⟨_, rfl⟩
  rw [hZ] at st
  obtain ⟨q, hq⟩ : ∃ q : Nat, A = (q : Int) := ⟨A.toNat, by omega⟩
  subst hq
  have hs7 := hir.s7 (xs := xs) (row := row) rfl
  simp only at hs7
  obtain ⟨rv, hrv⟩ : ∃ rv, row.getD R.toNat 0 = rv := ⟨_, rfl⟩
  rw [hrv] at hs7
  have HC : Hid (∀ V, Du14 X V Rb G X.heap.size tv m row av ((p : Int) + 1) (7, R, (q : Int), Bq, nm) → Calls Try.prog 55 #[.pointer (some ⟨G, 0, none⟩), .int .i64 R] V fun e w' => e = .returned (.int .i64 rv) ∧ w' = V) := fun V hV => implHeld V G R rv hR (by rw [← hrv]; exact hV.r.gc _ (by omega))
  have i0 := st.i0
  have sd := st.drew
  have i1 := sd.i1
  have i2 := sd.i2
  have gp2 := sd.r.gp
  have gz2 := sd.r.gz 65
  have s2 := sd.next (q : Int)
  by_cases hz : rv = 0
  · rw [if_pos hz] at hs7
    have HF : Hid (∀ V, Du14 X V Rb G X.heap.size tv m row av (q : Int) (7, R, (q : Int), Bq, nm) → DoOut rs X Rb G tv m k p xs row av (.returned (.int .i64 0)) V) := fun V hV =>
      ⟨0, _, q, m, rfl, hV.r, hV.w, hw, Nat.le_refl _, Or.inl ⟨rfl, by omega, run14_go hs7⟩⟩
    obtain ⟨N, hN⟩ : ∃ N, X.heap.size = N := ⟨_, rfl⟩
    rw [hN] at s2 HF i0 i1 i2 HC st
    simp only at i0 i1 i2
    have HSt : Hid (Du14 X Z Rb G N tv m row av ((p : Int) + 1) (7, R, (q : Int), Bq, nm)) := st
    obtain ⟨V, hV⟩ : ∃ V, Z.drew.setCell ⟨G, 65, none⟩ (.int .i64 (q : Int)) = V := ⟨_, rfl⟩
    rw [hV] at s2
    have HO : Hid (_) := HF.out _ s2
    subst hz
    clear h hir hok hA st hs7 s2 HF hrv sd hR
    go_enter Try.func56, Try.ntmps56
    go_wp2_with fail
    go_region_with (go_at_call 55; refine (HC.out _ HSt.out.drew).mono ?_; rintro e w1 ⟨rfl, rfl⟩)
    all_goals
      go_wp2
      go_ret
      exact HO.out
  · rw [if_neg hz] at hs7
    have HO : Hid (DoOut rs X Rb G tv m k p xs row av (.returned (.int .i64 0)) Z.drew) :=
      ⟨0, _, p + 1, m, rfl, sd.r, sd.w, hw, Nat.le_refl _, Or.inl ⟨rfl, hir.nx (by simp) (by simp), run14_go hs7⟩⟩
    obtain ⟨N, hN⟩ : ∃ N, X.heap.size = N := ⟨_, rfl⟩
    rw [hN] at i0 i1 i2 HC st
    simp only at i0 i1 i2
    have HSt : Hid (Du14 X Z Rb G N tv m row av ((p : Int) + 1) (7, R, (q : Int), Bq, nm)) := st
    have hzb : (rv == 0) = false := beq_eq_false_iff_ne.2 hz
    clear h hir hok hA st hs7 s2 hrv sd hR hz
    go_enter Try.func56, Try.ntmps56
    go_wp2_with fail
    go_region_with (go_at_call 55; refine (HC.out _ HSt.out.drew).mono ?_; rintro e w1 ⟨rfl, rfl⟩)
    all_goals
      go_wp2
      go_ret
      exact HO.out
end

end Go.Proofs.Ytnflkecnddbhoaa
