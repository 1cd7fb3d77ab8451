/-
  Parts of one proof, one behind the other: IntoS.
-/
import Derived.Test.YtogobeegibngiaaGreatDoorP8
import Derived.Test.YtogobeegibngiaaGreatDoorP7
import Derived.Maps.AppendAt

/-! Code that grows: what l13Into holds of it. -/
namespace Go.Proofs.YtogobeegibngiaaGreatDoor
open Go.RowKit

/-- The code v of X, grown out of the code v0 of w: it lies where v0 lay, or in memory that is new since w. -/
structure Co13 (w X : World) (base : Nat) (v0 v : Value) (xs : List In13) : Prop where
  row : X.ownsRow base 56 5 v xs.length (insV xs)
  g : w.grownBy X v0.ownBlock
  loc : v.ownBlock = v0.ownBlock ∨ ∃ k, v.ownBlock = some k ∧ w.heap.size ≤ k
  lh : base ≤ w.heap.size
section
variable {w X Y : World} {base : Nat} {v0 v u : Value} {xs ys : List In13}
theorem Co13.new (h : w.ownsRow base 56 5 v xs.length (insV xs)) (hb : base ≤ w.heap.size) : Co13 w w base v v xs := ⟨h, World.grownBy.refl _ _, Or.inl rfl, hb⟩
/-- Behind new memory. -/
theorem Co13.below (h : Co13 w X base v0 v xs) (hb : Below X.heap.size X Y) : Co13 w Y base v0 v xs :=
  ⟨own_below h.row hb, ⟨hb.os.trans h.g.os, hb.tape.trans h.g.tape, hb.output.trans h.g.output, Nat.le_trans h.g.size hb.size, fun k hk hne => (hb.block k (Nat.lt_of_lt_of_le hk h.g.size)).trans (h.g.block k hk hne)⟩, h.loc, h.lh⟩
/-- One growth behind the other. -/
theorem Co13.trans (h : Co13 w X base v0 v xs) (h2 : Co13 X Y base v u ys) : Co13 w Y base v0 u ys := by
  refine ⟨h2.row, ⟨h2.g.os.trans h.g.os, h2.g.tape.trans h.g.tape, h2.g.output.trans h.g.output, Nat.le_trans h.g.size h2.g.size, fun k hk hne => ?_⟩, ?_, h.lh⟩
  · refine (h2.g.block k (Nat.lt_of_lt_of_le hk h.g.size) (fun e => ?_)).trans (h.g.block k hk hne)
    rcases h.loc with hl | ⟨q, hq, hqw⟩
    · exact hne (e.trans hl)
    · rw [hq] at e
      injection e with e
      omega
  · rcases h2.loc with e2 | ⟨q, hq, hqw⟩
    · rcases h.loc with e1 | ⟨q, hq, hqw⟩
      · exact Or.inl (e2.trans e1)
      · exact Or.inr ⟨q, e2.trans hq, hqw⟩
    · exact Or.inr ⟨q, hq, Nat.le_trans h.g.size hqw⟩
theorem Co13.push (h : Co13 w X base v0 v xs) (x : In13) (hn : xs.length ≤ 1048576) :
    ∃ a' c' Y, (Builtin.append_ #[48, 48] 48 #[v, .slice (some ⟨X.heap.size, 0, none⟩) 1 1]).run Tryz.prog (X.alloc (.cells #[.int .i64 x.1, .int .i64 x.2.1, .int .i64 x.2.2.1, .int .i64 x.2.2.2.1, .string ⟨x.2.2.2.2.toArray⟩] 56)) = .ok (.slice a' (xs.length + 1) c') Y ∧ Co13 w Y base v0 (.slice a' (xs.length + 1) c') (xs ++ [x]) := by
  obtain ⟨i0, hi, hz0, hz1, hz2⟩ := info_parts infoIns
  have hbX : base ≤ X.heap.size := Nat.le_trans h.lh h.g.size
  have hb0 : Below X.heap.size X (X.alloc (.cells #[.int .i64 x.1, .int .i64 x.2.1, .int .i64 x.2.2.1, .int .i64 x.2.2.2.1, .string ⟨x.2.2.2.2.toArray⟩] 56)) := (Below.refl _ _).alloc (Nat.le_refl _) _
  have h1 := h.below hb0
  obtain ⟨v', Y, hrun, hown, hg, _, hloc⟩ := run_append_own_at (P := Tryz.prog) (X.alloc (.cells #[.int .i64 x.1, .int .i64 x.2.1, .int .i64 x.2.2.1, .int .i64 x.2.2.2.1, .string ⟨x.2.2.2.2.toArray⟩] 56)) base 48 48 56 i0 _ 5 48 Tryz.underlying48 hi hz0 hz1 hz2 rfl (by decide) v xs.length (insV xs) h1.row ⟨X.heap.size, 0, none⟩ 1 1 (insV [x]) rfl (new_ins X x) (insV_one _) (by unfold maxLen; omega) (by omega) (by simp; omega)
  obtain ⟨a', c', rfl⟩ := own_any12 hown
  have e1 : (xs ++ [x]).length = xs.length + 1 := by simp
  refine ⟨a', c', Y, hrun, h1.trans ⟨?_, hg, ?_, Nat.le_trans hbX hb0.size⟩⟩
  · rw [e1, insV_append]; exact hown
  · rcases hloc with e | e
    · exact Or.inl e
    · exact Or.inr ⟨_, e, Nat.le_refl _⟩
end

/-- What is asked of l13Into at a depth. -/
def Int13 (B : World) (ta : Option Addr) (tc : Nat) (t : List Nd) (d : Nat) : Prop := ∀ (w : World) (a : Nat) (r : Int) (base : Nat) (v : Value) (xs : List In13), Below B.heap.size B w → w.ownsRow base 56 5 v xs.length (insV xs) → base ≤ w.heap.size → B.heap.size ≤ base → 0 ≤ endV t (a : Int) → t.length ≤ a + d → 0 ≤ r → r + 3 * d ≤ 1000 → xs.length + 400 * d ≤ 100000 →
  Calls Tryz.prog 73 #[v, .slice ta t.length tc, .int .i64 (a : Int), .int .i64 r] w fun e w' => ∃ v', e = .returned v' ∧ Co13 w w' base v v' (xs ++ into13 d t (a : Int) r (xs.length : Int))

end Go.Proofs.YtogobeegibngiaaGreatDoor
