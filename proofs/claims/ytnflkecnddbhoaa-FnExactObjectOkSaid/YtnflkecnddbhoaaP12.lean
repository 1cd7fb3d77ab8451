/-
  Parts of one proof, one behind the other: Bend1, Bend2, DrawX, DrawN, NeedS, InsS, InsS2.
-/
import Derived.Test.YtnflkecnddbhoaaP11
import Derived.Test.YtnflkecnddbhoaaP4
import Derived.Deep.RegionHeld3
import Derived.Deep.RegionLaw
import Derived.Deep.DrawnRows
import Derived.Test.YtnflkecnddbhoaaP3
import Derived.Test.YtnflkecnddbhoaaP9
import Derived.Test.YtnflkecnddbhoaaP2
import Derived.Deep.Cut

/-! What the bending of a text needs: a slice of bytes at the head of a block that is new since the call began, and an append's law at a step of a region that draws its order. -/
namespace Go.Proofs.Ytnflkecnddbhoaa
open Go.RowKit

/-- Block g, new since 'base', holds the bytes l from its head on, and they may be written. -/
structure RowB (w : World) (base g cap : Nat) (l : List UInt8) : Prop where
  new : base ≤ g
  there : g < w.heap.size
  room : l.length ≤ cap
  most : cap ≤ maxLen
  cells : ∀ j (hj : j < l.length), w.cell? ⟨g, j, none⟩ = some (.int .u8 (l[j].toNat : Int))
  free : ∀ j, j < l.length → w.frozen? ⟨g, j, none⟩ = false

theorem RowB.kept {w w' : World} {base g cap : Nat} {l : List UInt8} {row : Option Nat} (h : RowB w base g cap l) (hg : w.grownBy w' row) (hne : some g ≠ row) : RowB w' base g cap l := by
  have hb := hg.block g h.there hne
  exact ⟨h.new, Nat.lt_of_lt_of_le h.there hg.size, h.room, h.most, fun j hj => (World.cell?_of_block hb).trans (h.cells j hj), fun j hj => (World.frozen?_of_block hb).trans (h.free j hj)⟩

theorem RowB.base {w : World} {base base' g cap : Nat} {l : List UInt8} (h : RowB w base g cap l) (hb : base' ≤ base) : RowB w base' g cap l := ⟨Nat.le_trans hb h.new, h.there, h.room, h.most, h.cells, h.free⟩

theorem RowB.of_own {w : World} {base : Nat} {v : Value} {l : List UInt8} (h : w.ownsRow base 5 1 v l.length (bytesV l)) (hv : v ≠ .slice none 0 0) : ∃ g cap, v = .slice (some ⟨g, 0, none⟩) l.length cap ∧ RowB w base g cap l := by
  have hh := h
  obtain ⟨_, ⟨e, _⟩ | ⟨g, cap, cur, rfl, hb, hc, hn, hm, hs, ht⟩⟩ := hh
  · exact absurd e hv
  · refine ⟨g, cap, rfl, hb, (h.lt g rfl).2, hn, hm, ?_, ?_⟩
    · intro j hj
      have hx := World.ownsRow.cellAt h j (by omega)
      rw [hx]; simp [bytesV, List.getElem?_eq_getElem hj]
    · intro j hj
      exact World.ownsRow.frozenAt h j

theorem RowB.back {w : World} {base g cap : Nat} {l : List UInt8} (h : RowB w base g cap l) :
    (convert 22 9 (.slice (some ⟨g, 0, none⟩) l.length cap)).run Try.prog w = .ok (.string ⟨l.toArray⟩) w := by
  refine run_convert_bytes_back (P := Try.prog) w 22 9 5 ⟨g, 0, none⟩ cap l Try.underlying22 Try.underlying5 Try.underlying9 ?_
  intro j hj
  have e : (⟨g, 0, none⟩ : Addr).add j = ⟨g, j, none⟩ := by unfold Addr.add; split <;> simp_all
  rw [e]; exact h.cells j hj

theorem RowB.cut {w : World} {base g cap : Nat} {l : List UInt8} (h : RowB w base g cap l) (k : Nat) : RowB w base g cap (l.take k) := by
  have hl : (l.take k).length ≤ l.length := List.length_take_le' _ _
  refine ⟨h.new, h.there, Nat.le_trans hl h.room, h.most, ?_, ?_⟩
  · intro j hj
    rw [h.cells j (by omega)]
    simp
  · intro j hj; exact h.free j (by omega)

theorem RowB.store {w : World} {base g cap : Nat} {l : List UInt8} (h : RowB w base g cap l) (k : Nat) (hk : k < l.length) (x : UInt8) : RowB (w.setCell ⟨g, k, none⟩ (.int .u8 (x.toNat : Int))) base g cap (l.set k x) := by
  refine ⟨h.new, by simpa using h.there, by simpa using h.room, h.most, ?_, ?_⟩
  · intro j hj
    have hj' : j < l.length := by simpa using hj
    by_cases e : j = k
    · subst e
      rw [World.cell?_setCell_same _ _ _ (h.cells j hj')]
      simp
    · rw [World.cell?_setCell_other _ _ _ _ (by intro e2; injection e2 with _ e3; exact e e3.symm), h.cells j hj', List.getElem_set_ne (fun e2 => e e2.symm)]
  · intro j hj
    rw [World.frozen?_setCell]; exact h.free j (by simpa using hj)

theorem RowB.drew {w : World} {base g cap : Nat} {l : List UInt8} (h : RowB w base g cap l) : RowB w.drew base g cap l := ⟨h.new, h.there, h.room, h.most, h.cells, h.free⟩

/-- '[]byte(s)': the new block. -/
theorem RowB.made (w : World) (l : List UInt8) (hl : l.length ≤ maxLen) :
    RowB (w.drew.alloc (.cells (bytesRow ⟨l.toArray⟩ (grownCap w l.length 0 5)) 5 ((bytesRow ⟨l.toArray⟩ (grownCap w l.length 0 5)).size, (bytesRow ⟨l.toArray⟩ (grownCap w l.length 0 5)).size + 1))) w.heap.size w.heap.size (grownCap w l.length 0 5) l := by
  have hsz : l.length ≤ (bytesRow ⟨l.toArray⟩ (grownCap w l.length 0 5)).size := by simp [bytesRow]
  refine ⟨Nat.le_refl _, by simp, grownCap_ge _ _ _ _, grownCap_le_maxLen _ _ _ _ hl, ?_, ?_⟩
  · intro j hj
    show (w.alloc _).cell? ⟨w.heap.size, j, none⟩ = _
    rw [World.cell?_alloc_mark, bytesRow_at ⟨l.toArray⟩ _ j (by simpa using hj)]
    simp
  · intro j hj
    show (w.alloc _).frozen? ⟨w.heap.size, j, none⟩ = _
    rw [World.frozen?_alloc_mark]
    simp; omega

/-- 'append' onto a row of the call's own, at a step of a region that draws. -/
theorem step_append_own {P : Program} {w : World} {ops : Array Oper} {o : Oper} {a : Act} {K : Act → World → Prop} {Q : Exit → Act → World → Prop} {E : Prop} (hgd : o.guard = none) (s x : Operand) (t : TypeId)
    (ho : o.op = .call { callee := .builtin .append, args := #[s, x], argTypes := #[t, t] })
    (base : Nat) (e : TypeId) (i : TypeInfo) (z : Value) (size bytes : Nat) (ht : P.underlying t = some (.slice e)) (hi : P.info? e = some i) (hz : i.zero = some z)
    (hsize : i.size = size) (hby : i.bytes = bytes) (hzs : z.cells.size = size) (hsz : 0 < size)
    (v : Value) (n : Nat) (xs : List Value) (hs : a.eval s = v) (hown : w.ownsRow base e size v n xs)
    (ad : Addr) (m c : Nat) (news : List Value) (hx : a.eval x = .slice (some ad) m c) (hl : news.length = m * size) (hnews : ∀ j u, news[j]? = some u → w.cell? (ad.add j) = some u) (h1 : ∀ u ∈ news, u.oneCell' = true)
    (h63 : n + m ≤ maxLen) (hbytes : (n + m) * bytes ≤ 140737488355328) (hbase : base ≤ w.heap.size)
    (h : ∀ v' w', w'.ownsRow base e size v' (n + m) (xs ++ news) → w.grownBy w' v.ownBlock → (v' = .slice none 0 0 ↔ v = .slice none 0 0 ∧ m = 0) → K (a.put o.dst v') w') :
    if Region.wanted o (yielded ops a.tmps) = true then Oper.wp P o a w K Q else E := by
  have hw : Region.wanted o (yielded ops a.tmps) = true := by simp [Region.wanted, hgd]
  rw [if_pos hw]
  exact wp_append_own w s x t ho base e i z size bytes ht hi hz hsize hby hzs hsz v n xs hs hown ad m c news hx hl hnews h1 h63 hbytes hbase h

theorem bytesV_at (l : List UInt8) (j : Nat) (u : Value) (h : (bytesV l)[j]? = some u) : ∃ hj : j < l.length, u = .int .u8 (l[j].toNat : Int) := by
  unfold bytesV at h
  rw [List.getElem?_map] at h
  rcases hx : l[j]? with _ | x
  · rw [hx] at h; cases h
  · rw [hx] at h
    obtain ⟨hj, e⟩ := List.getElem?_eq_some_iff.1 hx
    injection h with h
    exact ⟨hj, by rw [e]; exact h.symm⟩

theorem bytesV_len (l : List UInt8) : (bytesV l).length = l.length := by simp [bytesV]

theorem bytesV_one (l : List UInt8) : ∀ u ∈ bytesV l, u.oneCell' = true := by
  intro u hu
  obtain ⟨x, _, rfl⟩ := List.mem_map.1 hu
  rfl

theorem add_plain (b off j : Nat) : (⟨b, off, none⟩ : Addr).add j = ⟨b, off + j, none⟩ := by unfold Addr.add; split <;> simp_all

/-- The cells of b[:k], as an append takes them. -/
theorem RowB.head {w : World} {base g cap : Nat} {l : List UInt8} (h : RowB w base g cap l) (k : Nat) : ∀ j u, (bytesV (l.take k))[j]? = some u → w.cell? ((⟨g, 0, none⟩ : Addr).add j) = some u := by
  intro j u hu
  obtain ⟨hj, rfl⟩ := bytesV_at _ _ _ hu
  have hl : (l.take k).length ≤ l.length := List.length_take_le' _ _
  rw [add_plain, Nat.zero_add, h.cells j (by omega)]
  simp

/-- The cells of b[k:], as an append takes them. -/
theorem RowB.tail {w : World} {base g cap : Nat} {l : List UInt8} (h : RowB w base g cap l) (k : Nat) : ∀ j u, (bytesV (l.drop k))[j]? = some u → w.cell? ((⟨g, k, none⟩ : Addr).add j) = some u := by
  intro j u hu
  obtain ⟨hj, rfl⟩ := bytesV_at _ _ _ hu
  have hj' : k + j < l.length := by rw [List.length_drop] at hj; omega
  rw [add_plain, h.cells (k + j) hj']
  simp

theorem own_empty (w : World) (base : Nat) (h : base ≤ w.heap.size) : (w.alloc (.cells #[] 5)).drew.ownsRow base 5 1 (.slice (some ⟨w.heap.size, 0, none⟩) 0 0) 0 [] :=
  (World.ownsRow_lit (base := base) (e := 5) (size := 1) w #[] 0 h (by decide) rfl).drew

theorem step_keep {w W W' : World} {B : Nat} {a : Option Addr} {len cap : Nat} {row : Option Nat} (hBlt : B < w.heap.size) (h : Cur W B a len cap ∧ w.grownBy W (some B)) (hg : W.grownBy W' row) (hrow : ∀ k, row = some k → w.heap.size ≤ k) :
    Cur W' B a len cap ∧ w.grownBy W' (some B) :=
  ⟨h.1.kept hg (fun k e => by have := hrow k e; omega), h.2.andThen hg (fun j e => Or.inl (hrow j e))⟩

theorem bytesV_append (a b : List UInt8) : bytesV a ++ bytesV b = bytesV (a ++ b) := by simp [bytesV]

/-- What a chain of appends leaves: a row of bytes. -/
theorem own_done {w : World} {base n : Nat} {v : Value} {xs : List Value} (l : List UInt8) (h : w.ownsRow base 5 1 v n xs) (hx : xs = bytesV l) (hn : n = l.length) (hv : v ≠ .slice none 0 0) : ∃ g cap, v = .slice (some ⟨g, 0, none⟩) l.length cap ∧ RowB w base g cap l := by
  subst hx hn
  exact RowB.of_own h hv

theorem own_ne {w : World} {base e size n g : Nat} {v : Value} {xs : List Value} (h : w.ownsRow base e size v n xs) (hg : g < base) : some g ≠ v.ownBlock := by
  intro e2
  have := (h.lt g e2.symm).1
  omega

theorem size_empty (w : World) : w.heap.size ≤ (w.alloc (.cells #[] 5)).drew.heap.size := by simp
theorem size_one (w : World) (x : Value) (n : Nat) (h : n ≤ w.heap.size) : n ≤ (w.alloc (.cells #[x] 5)).heap.size := by simp; omega
theorem row_empty (w : World) : ∀ k, Value.ownBlock (.slice (some ⟨w.heap.size, 0, none⟩) 0 0) = some k → w.heap.size ≤ k := by
  intro k e; injection e with e; exact Nat.le_of_eq e
theorem ne_empty (w : World) (b : Nat) (h : b < w.heap.size) : some b ≠ Value.ownBlock (.slice (some ⟨w.heap.size, 0, none⟩) 0 0) := by
  intro e; injection e with e; simp at e; omega
theorem ne_some {b B : Nat} (h : B < b) : some b ≠ some B := by
  intro e; injection e with e; omega

end Go.Proofs.Ytnflkecnddbhoaa

/-! The contract of l1Bend: a text that is bent at most twice. -/
namespace Go.Proofs.Ytnflkecnddbhoaa
open Go.RowKit


end Go.Proofs.Ytnflkecnddbhoaa

/-! The contracts of DrawLines, DrawWords, DrawNameOk, DrawNumberOf. -/
namespace Go.Proofs.Ytnflkecnddbhoaa
open Go.RowKit



def pickT (l : List (List UInt8)) (x : Int) : List UInt8 := l.getD x.toNat []

theorem pickT_cell (l : List (List UInt8)) (x : Int) (h0 : 0 ≤ x) (h1 : x < l.length) (W : World) (e : TypeId) :
    (W.alloc (.cells (strV l).toArray e)).cell? ⟨W.heap.size, x.toNat, none⟩ = some (.string ⟨(pickT l x).toArray⟩) := by
  have hx : x.toNat < l.length := by omega
  rw [World.cell?_alloc_mark]
  simp [pickT, strV, hx]

theorem pickT_len (l : List (List UInt8)) (x : Int) (n : Nat) (h : ∀ y ∈ l, y.length ≤ n) : (pickT l x).length ≤ n := by
  unfold pickT
  by_cases hx : x.toNat < l.length
  · have : l.getD x.toNat [] = l[x.toNat] := by simp [List.getD, hx]
    rw [this]; exact h _ (List.getElem_mem hx)
  · have : l.getD x.toNat [] = [] := by simp [List.getD, hx]
    rw [this]; simp



end Go.Proofs.Ytnflkecnddbhoaa

/-! A node is drawn. -/
namespace Go.Proofs.Ytnflkecnddbhoaa
open Go.RowKit

theorem Code.alloc {w : World} {B : Nat} {a : Option Addr} {len : Nat} (h : Code w B a len) (hB : B ≤ w.heap.size) (o : Obj) : Code (w.alloc o) (B + 1) a len := by
  intro j hj
  obtain ⟨b, off, x, e1, e2, e3, e0⟩ := h j hj
  exact ⟨b, off, x, e1, by omega, (World.cell?_of_block (a := ⟨b, off + j, none⟩) (Below.heap_alloc _ _ _ (by show b < _; omega))).trans e3, e0⟩

theorem put4 {w W : World} {u0 u1 u2 u3 : Value} (a b c d : Value) (r0 : W.cell? ⟨w.heap.size, 0, none⟩ = some u0) (r1 : W.cell? ⟨w.heap.size, 1, none⟩ = some u1) (r2 : W.cell? ⟨w.heap.size, 2, none⟩ = some u2) (r3 : W.cell? ⟨w.heap.size, 3, none⟩ = some u3) (hb : Below w.heap.size w W) :
    ((((W.setCell ⟨w.heap.size, 0, none⟩ a).setCell ⟨w.heap.size, 1, none⟩ b).setCell ⟨w.heap.size, 2, none⟩ c).setCell ⟨w.heap.size, 3, none⟩ d).cell? ⟨w.heap.size, 0, none⟩ = some a ∧
    ((((W.setCell ⟨w.heap.size, 0, none⟩ a).setCell ⟨w.heap.size, 1, none⟩ b).setCell ⟨w.heap.size, 2, none⟩ c).setCell ⟨w.heap.size, 3, none⟩ d).cell? ⟨w.heap.size, 1, none⟩ = some b ∧
    ((((W.setCell ⟨w.heap.size, 0, none⟩ a).setCell ⟨w.heap.size, 1, none⟩ b).setCell ⟨w.heap.size, 2, none⟩ c).setCell ⟨w.heap.size, 3, none⟩ d).cell? ⟨w.heap.size, 2, none⟩ = some c ∧
    ((((W.setCell ⟨w.heap.size, 0, none⟩ a).setCell ⟨w.heap.size, 1, none⟩ b).setCell ⟨w.heap.size, 2, none⟩ c).setCell ⟨w.heap.size, 3, none⟩ d).cell? ⟨w.heap.size, 3, none⟩ = some d ∧
    Below w.heap.size w ((((W.setCell ⟨w.heap.size, 0, none⟩ a).setCell ⟨w.heap.size, 1, none⟩ b).setCell ⟨w.heap.size, 2, none⟩ c).setCell ⟨w.heap.size, 3, none⟩ d) := by
  have s1 := (World.cell?_setCell_other W ⟨w.heap.size, 0, none⟩ ⟨w.heap.size, 1, none⟩ a (by simp)).trans r1
  refine ⟨?_, ?_, ?_, ?_, (((hb.setCell (p := ⟨w.heap.size, 0, none⟩) (Nat.le_refl _) a).setCell (p := ⟨w.heap.size, 1, none⟩) (Nat.le_refl _) b).setCell (p := ⟨w.heap.size, 2, none⟩) (Nat.le_refl _) c).setCell (p := ⟨w.heap.size, 3, none⟩) (Nat.le_refl _) d⟩
  · exact (World.cell?_setCell_other _ _ _ _ (by simp)).trans ((World.cell?_setCell_other _ _ _ _ (by simp)).trans ((World.cell?_setCell_other _ _ _ _ (by simp)).trans (World.cell?_setCell_same _ _ _ r0)))
  · exact (World.cell?_setCell_other _ _ _ _ (by simp)).trans ((World.cell?_setCell_other _ _ _ _ (by simp)).trans (World.cell?_setCell_same _ _ _ s1))
  · exact (World.cell?_setCell_other _ _ _ _ (by simp)).trans (World.cell?_setCell_same _ _ _ ((World.cell?_setCell_other _ _ _ _ (by simp)).trans ((World.cell?_setCell_other _ _ _ _ (by simp)).trans r2)))
  · exact World.cell?_setCell_same _ _ _ ((World.cell?_setCell_other _ _ _ _ (by simp)).trans ((World.cell?_setCell_other _ _ _ _ (by simp)).trans ((World.cell?_setCell_other _ _ _ _ (by simp)).trans r3)))


end Go.Proofs.Ytnflkecnddbhoaa

/-! What the contracts of chapter 12's specification lean on. -/
namespace Go.Proofs.Ytnflkecnddbhoaa
open Go.RowKit

set_option maxHeartbeats 400000 in
set_option maxRecDepth 100000 in
theorem specMax12 (x y : Int) (w : World) : Calls Try.prog 131 #[.int .i64 x, .int .i64 y] w fun e w' => e = .returned (.int .i64 (max x y)) ∧ w' = w := by
  by_cases h : x > y
  · have HF : Hid (max x y = x) := by exact (by omega : max x y = x)
    go_enter Try.func131, Try.ntmps131
    go_wp2
    go_ret
    exact ⟨by rw [HF.out]; rfl, rfl⟩
  · have HF : Hid (max x y = y) := by exact (by omega : max x y = y)
    go_enter Try.func131, Try.ntmps131
    go_wp2
    go_ret
    exact ⟨by rw [HF.out]; rfl, rfl⟩
theorem node_new12 (V : World) (a b c d : Value) (t : TypeId) : ((V.alloc (.cells #[a, b, c, d] t)).cell? ⟨V.heap.size, 0, none⟩ = some a ∧ (V.alloc (.cells #[a, b, c, d] t)).cell? ⟨V.heap.size, 1, none⟩ = some b ∧ (V.alloc (.cells #[a, b, c, d] t)).cell? ⟨V.heap.size, 2, none⟩ = some c ∧ (V.alloc (.cells #[a, b, c, d] t)).cell? ⟨V.heap.size, 3, none⟩ = some d) ∧ Below V.heap.size V (V.alloc (.cells #[a, b, c, d] t)) := by
  have hb : Below V.heap.size V (V.alloc (.cells #[a, b, c, d] t)) := (Below.refl _ _).alloc (Nat.le_refl _) _
  have hA := heap_alloc_new V (.cells #[a, b, c, d] t)
  generalize V.alloc (.cells #[a, b, c, d] t) = W at hb hA ⊢
  exact ⟨⟨by simp [World.cell?, hA], by simp [World.cell?, hA], by simp [World.cell?, hA], by simp [World.cell?, hA]⟩, hb⟩

theorem push_int12 {X : World} {B n : Nat} {v : Value} {xs : List Int} (x : Int) (hv : X.ownsRow B 2 1 v n (intsV xs)) (hb : B ≤ X.heap.size) (hn : n ≤ 1048576) :
    ∃ v' Y, (Builtin.append_ #[27, 27] 27 #[v, .slice (some ⟨X.heap.size, 0, none⟩) 1 1]).run Try.prog (X.alloc (.cells #[.int .i64 x] 2)) = .ok v' Y ∧ Y.ownsRow B 2 1 v' (n + 1) (intsV (xs ++ [x])) ∧ X.grownBy Y v.ownBlock := by
  obtain ⟨i0, hi, hz0, hz1, hz2⟩ := info_parts info2
  obtain ⟨v', Y, hrun, hown, hg, _⟩ := run_append_src (P := Try.prog) (X.alloc (.cells #[.int .i64 x] 2)) B 27 27 2 i0 _ 1 8 Try.underlying27 hi hz0 hz1 hz2 rfl (by decide) _ _ _ (hv.alloc _) (.slice (some ⟨X.heap.size, 0, none⟩) 1 1) 1 (intsV [x]) ⟨rfl, intsV_one _, Or.inr ⟨_, 1, rfl, new_int X x⟩⟩ (by unfold maxLen; omega) (by omega) (by simp; omega)
  refine ⟨v', Y, hrun, ?_, (World.grownBy_alloc X _ _).trans hg⟩
  rw [intsV_append]
  exact hown
theorem own_any12 {w : World} {base e size n : Nat} {v : Value} {xs : List Value} (h : w.ownsRow base e size v n xs) : ∃ a c, v = .slice a n c := by
  rcases own_forms h with ⟨rfl, rfl, _⟩ | ⟨g, cp, rfl⟩
  · exact ⟨none, 0, rfl⟩
  · exact ⟨some ⟨g, 0, none⟩, cp, rfl⟩
theorem ints_cell {w : World} {B g c n : Nat} {xs : List Int} (h : w.ownsRow B 2 1 (.slice (some ⟨g, 0, none⟩) n c) n (intsV xs)) (j : Nat) (hj : j < xs.length) : w.cell? ⟨g, j, none⟩ = some (.int .i64 (xs.getD j 0)) := by
  have hl := h.1
  rw [intsV_len] at hl
  rw [h.cellAt j (by omega), intsV_at xs j hj]
  simp [List.getD, hj]
theorem own_as {w : World} {B n : Nat} {v : Value} {xs : List Int} (h : w.ownsRow B 2 1 v n (intsV xs)) : ∃ a c, v = .slice a n c ∧ AsIn w a xs := by
  have hl := h.1
  rw [intsV_len] at hl
  rcases own_forms h with ⟨rfl, rfl, _⟩ | ⟨g, cp, rfl⟩
  · exact ⟨none, 0, rfl, fun j hj => by omega⟩
  · exact ⟨_, cp, rfl, nums_as h (by omega)⟩
theorem need_place {t : List Nd} {a : Nat} (hp : 0 ≤ endV t (a : Int)) {i : Nat} (hi : i < kidsN (t.getD a nd0)) : ∃ q : Nat, (pts10 t (a : Int)).getD i 0 = (q : Int) ∧ a < q ∧ 0 ≤ endV t (q : Int) := by
  obtain ⟨q, hq, _, hqe⟩ := part_place hp hi
  refine ⟨q, hq, ?_, hqe⟩
  obtain ⟨s, post, e, hs⟩ := sub_of hp
  cases hs with
  | mk n ks hn hk ho =>
    obtain ⟨e1, e2, e3⟩ := pts_sub e hk ho
    rw [e1] at hi
    obtain ⟨_, e4, _⟩ := e3 i (by omega)
    rw [hq] at e4
    omega
theorem need_at {t : List Nd} {os : List Int} {q d : Nat} (h : 0 ≤ endV t (q : Int)) (hd : t.length ≤ q + d) (hl : t.length ≤ 60) : 1 ≤ need12 d t os (q : Int) ∧ need12 d t os (q : Int) ≤ 60 := by
  obtain ⟨s, post, e, hs⟩ := sub_of h
  have h2 := congrArg List.length e
  rw [List.length_drop, List.length_append] at h2
  have := need_bd hs os d t post q (by omega) e
  omega
/-- What l12Need is told. -/
def Nee12 (B : World) (ta : Option Addr) (tc : Nat) (t : List Nd) (oa : Option Addr) (oc : Nat) (os : List Int) (d : Nat) : Prop := ∀ (w : World) (a : Nat), Below B.heap.size B w → 0 ≤ endV t (a : Int) → t.length ≤ a + d →
  Calls Try.prog 113 #[.slice ta t.length tc, .int .i64 (a : Int), .slice oa os.length oc] w fun e w' => e = .returned (.int .i64 (need12 d t os (a : Int))) ∧ Below w.heap.size w w'

end Go.Proofs.Ytnflkecnddbhoaa

/-! The contracts of chapter 13's specification: registers, names, one instruction. -/
namespace Go.Proofs.Ytnflkecnddbhoaa
open Go.RowKit

def insVal (i : In13) : Value := .agg #[.int .i64 i.1, .int .i64 i.2.1, .int .i64 i.2.2.1, .int .i64 i.2.2.2.1, .string ⟨i.2.2.2.2.toArray⟩]
def bad13 (k B : Int) (nm : List UInt8) : Bool := (decide (k ≠ 9) && !nm.isEmpty) || (!(inB k 3 6) && decide (B ≠ 0))
def kind13 (k R A B : Int) (nm : List UInt8) : Bool :=
  if k = 1 then inB R 0 63 && inB A (-2147483648) 2147483647
  else if k = 2 then inB R 0 63 && inB A 0 2
  else if 3 ≤ k ∧ k ≤ 6 then inB R 0 63 && inB A 0 63 && inB B 0 63
  else if k = 7 then inB R 0 63 && inB A 0 199
  else if k = 8 then decide (R = 0) && inB A 0 199
  else if k = 9 then inB R 0 63 && inB A 0 3 && decide (R + A - 1 ≤ 63) && name13 nm
  else if k = 10 then inB R 0 63 && decide (A = 0)
  else false
theorem insB_two (k R A B : Int) (nm : List UInt8) : insB (k, R, A, B, nm) = (!bad13 k B nm && kind13 k R A B nm) := by
  have hnm : nm.isEmpty = decide (nm = []) := by cases nm <;> simp
  rw [Bool.eq_iff_iff]
  unfold insB insP bad13 kind13 inB
  rw [hnm]
  dsimp only
  grind

set_option maxHeartbeats 400000 in
set_option maxRecDepth 100000 in
theorem specReg13 (r : Int) (w : World) : Calls Try.prog 96 #[.int .i64 r] w fun e w' => e = .returned (.bool (inB r 0 63)) ∧ w' = w := by
  go_enter Try.func96, Try.ntmps96
  go_wp2_with (go_at_call 28; refine (specIn _ _ _ _).mono ?_; rintro e w' ⟨rfl, rfl⟩)
  go_ret
  exact ⟨rfl, rfl⟩

set_option maxHeartbeats 1000000 in
set_option maxRecDepth 100000 in
theorem specName13 (s : List UInt8) (w : World) (hl : s.length ≤ 1048576) : Calls Try.prog 61 #[.string ⟨s.toArray⟩] w fun e w' => e = .returned (.bool (name13 s)) ∧ Below w.heap.size w w' := by
  obtain ⟨ws, hws⟩ : ∃ ws, splitL 46 s = ws := ⟨_, rfl⟩
  have HW : Hid (splitL 46 s = ws) := hws
  have hfl := splitGo_flat 46 s []
  have hwl : ∀ j, (ws.getD j []).length ≤ 1048576 := fun j => by
    rw [← hws]
    by_cases hj : j < (splitL 46 s).length
    · have hm : (splitL 46 s).getD j [] ∈ splitL 46 s := by simp [List.getD, hj]
      have h1 : ((splitL 46 s).getD j []).length ≤ (splitL 46 s).flatten.length := (List.sublist_flatten_of_mem hm).length_le
      have h2 : (splitL 46 s).flatten.length ≤ 0 + s.length := hfl
      omega
    · simp [List.getD, hj]
  have hN : name13 s = (decide (ws.length = 2) && nameB (ws.getD 0 []) && nameB (ws.getD 1 [])) := by unfold name13; rw [hws]; congr 1
  rw [hN]
  by_cases h2 : ws.length = 2
  · have hd : decide (ws.length = 2) = true := decide_eq_true h2
    rw [hd]
    obtain ⟨x, hx⟩ : ∃ x, ws.getD 0 [] = x := ⟨_, rfl⟩
    obtain ⟨y, hy⟩ : ∃ y, ws.getD 1 [] = y := ⟨_, rfl⟩
    have hw0 := hwl 0
    have hw1 := hwl 1
    have HX : Hid (ws.getD 0 [] = x ∧ ws.getD 1 [] = y) := ⟨hx, hy⟩
    rw [hx] at hw0 ⊢
    rw [hy] at hw1 ⊢
    have HP : Hid (_) := fun W : World => specNameOk x W hw0
    have HQ : Hid (_) := fun W : World => specNameOk y W hw1
    obtain ⟨nx, hnx⟩ : ∃ b, nameB x = b := ⟨_, rfl⟩
    obtain ⟨ny, hny⟩ : ∃ b, nameB y = b := ⟨_, rfl⟩
    rw [hnx] at HP ⊢
    rw [hny] at HQ ⊢
    clear hx hy hnx hny
    have H2 : Hid (ws.length = 2) := h2
    clear hN hws hfl hwl h2 hd
    go_enter Try.func61, Try.ntmps61
    go_wp2_with fail
    refine (specSplit s 46 46 _ (by rfl) hl).mono ?_
    rintro e w1 ⟨g, cp, rfl, hown, hb1⟩
    rw [HW.out] at hown ⊢
    rw [H2.out] at hown ⊢
    have c0 := str_cellsD hown H2.out 0 (by omega)
    have c1 := str_cellsD hown H2.out 1 (by omega)
    rw [HX.out.1] at c0
    rw [HX.out.2] at c1
    clear hown
    rcases nx with _ | _
    · go_wp2_with fail
      refine Calls.mono (HP.out _) ?_
      rintro e w2 ⟨rfl, rfl⟩
      go_wp2
      go_ret
      exact ⟨rfl, hb1⟩
    · go_wp2_with fail
      refine Calls.mono (HP.out _) ?_
      rintro e w2 ⟨rfl, rfl⟩
      go_wp2_with fail
      refine Calls.mono (HQ.out _) ?_
      rintro e w3 ⟨rfl, rfl⟩
      go_wp2
      go_ret
      exact ⟨rfl, hb1⟩
  · have hd : decide (ws.length = 2) = false := decide_eq_false h2
    rw [hd]
    have hne : ((ws.length : Int) == 2) = false := beq_eq_false_iff_ne.2 (by omega)
    clear hN hws hfl hwl h2 hd
    go_enter Try.func61, Try.ntmps61
    go_wp2_with fail
    refine (specSplit s 46 46 _ (by rfl) hl).mono ?_
    rintro e w1 ⟨g, cp, rfl, hown, hb1⟩
    rw [HW.out]
    clear hown
    go_wp2
    go_ret
    exact ⟨rfl, hb1⟩

end Go.Proofs.Ytnflkecnddbhoaa

/-! The contract of chapter 13's specification: InsOk. -/
namespace Go.Proofs.Ytnflkecnddbhoaa
open Go.RowKit

theorem ins_new13 (V : World) (a b c d f : Value) (t : TypeId) : ((V.alloc (.cells #[a, b, c, d, f] t)).cell? ⟨V.heap.size, 0, none⟩ = some a ∧ (V.alloc (.cells #[a, b, c, d, f] t)).cell? ⟨V.heap.size, 1, none⟩ = some b ∧ (V.alloc (.cells #[a, b, c, d, f] t)).cell? ⟨V.heap.size, 2, none⟩ = some c ∧ (V.alloc (.cells #[a, b, c, d, f] t)).cell? ⟨V.heap.size, 3, none⟩ = some d ∧ (V.alloc (.cells #[a, b, c, d, f] t)).cell? ⟨V.heap.size, 4, none⟩ = some f) ∧ Below V.heap.size V (V.alloc (.cells #[a, b, c, d, f] t)) := by
  have hb : Below V.heap.size V (V.alloc (.cells #[a, b, c, d, f] t)) := (Below.refl _ _).alloc (Nat.le_refl _) _
  have hA := heap_alloc_new V (.cells #[a, b, c, d, f] t)
  generalize V.alloc (.cells #[a, b, c, d, f] t) = W at hb hA ⊢
  exact ⟨⟨by simp [World.cell?, hA], by simp [World.cell?, hA], by simp [World.cell?, hA], by simp [World.cell?, hA], by simp [World.cell?, hA]⟩, hb⟩

theorem inB_iff13 {x lo hi : Int} : inB x lo hi = true ↔ lo ≤ x ∧ x ≤ hi := by unfold inB; simp

set_option maxHeartbeats 8000000 in
set_option maxRecDepth 100000 in
theorem specInsOk (i : In13) (w : World) (hl : i.2.2.2.2.length ≤ 1048576) :
    Calls Try.prog 80 #[insVal i] w fun e w' => e = .returned (.bool (insB i)) ∧ Below w.heap.size w w' := by
  obtain ⟨k, R, A, B, nm⟩ := i
  simp only at hl
  rw [insB_two]
  unfold insVal
  simp only
  obtain ⟨⟨n0, n1, n2, n3, n4⟩, hbg⟩ := ins_new13 w (.int .i64 k) (.int .i64 R) (.int .i64 A) (.int .i64 B) (.string ⟨nm.toArray⟩) 74
  obtain ⟨X, hX⟩ : ∃ X, w.alloc (.cells #[.int .i64 k, .int .i64 R, .int .i64 A, .int .i64 B, .string ⟨nm.toArray⟩] 74) = X := ⟨_, rfl⟩
  obtain ⟨N, hN⟩ : ∃ N, w.heap.size = N := ⟨_, rfl⟩
  rw [hX] at n0 n1 n2 n3 n4 hbg
  rw [hN] at n0 n1 n2 n3 n4 hbg ⊢
  have HBX : Hid (Below N w X) := hbg
  obtain ⟨bb, hbb⟩ : ∃ b, bad13 k B nm = b := ⟨_, rfl⟩
  have HBb : Hid (bad13 k B nm = bb) := hbb
  obtain ⟨res, hres⟩ : ∃ b, (!bad13 k B nm && kind13 k R A B nm) = b := ⟨_, rfl⟩
  rw [hres]
  rw [hbb] at hres
  have HR : Hid ((!bb && kind13 k R A B nm) = res) := hres
  have HRg : Hid (_) := fun (r : Int) (W : World) => specReg13 r W
  have HIn : Hid (_) := fun (x lo hi : Int) (W : World) => specIn x lo hi W
  have HWd : Hid (_) := fun (x : Int) (W : World) => specWordOk x W
  have HNm : Hid (_) := specName13 nm X hl
  clear hres hbg hbb hl
  go_enter Try.func80, Try.ntmps80
  go_wp2_with fail
  refine Calls.mono (HIn.out A 0 199 _) ?_
  rintro e wz ⟨rfl, hz⟩
  obtain rfl := hz.symm
  clear hz
  go_upto_region 2 with fail
  go_cut [25] from 7 (fun v wx => v = .bool bb ∧ wx = X)
  case first =>
    by_cases h9 : k = 9
    · subst h9
      have h3 : inB 9 3 6 = false := by decide
      have HF : Hid (bb = (B != 0)) := by exact (by rw [← HBb.out]; unfold bad13; rw [h3]; by_cases h : B = 0 <;> simp [h] : bb = (B != 0))
      clear HBb HR
      go_wp2_with fail
      refine Calls.mono (HIn.out _ _ _ _) ?_
      rintro e wz ⟨rfl, hz⟩
      obtain rfl := hz.symm
      rw [h3]
      clear hz h3
      go_wp2_with fail
      go_meet
      case rel => exact ⟨by rw [HF.out], rfl⟩
    · have d9 : (k != 9) = true := bne_iff_ne.2 h9
      rcases hnm : nm.isEmpty with _ | _
      · have HF : Hid (bb = true) := by exact (by rw [← HBb.out]; unfold bad13; simp [h9, hnm] : bb = true)
        clear HBb HR h9
        go_wp2_with fail
        go_meet
        case rel => exact ⟨by rw [HF.out], rfl⟩
      · obtain rfl : nm = [] := List.isEmpty_iff.1 hnm
        rcases h3 : inB k 3 6 with _ | _
        · have HF : Hid (bb = (B != 0)) := by exact (by rw [← HBb.out]; unfold bad13; rw [h3]; by_cases h : B = 0 <;> simp [h] : bb = (B != 0))
          clear HBb HR h9 hnm
          go_wp2_with fail
          refine Calls.mono (HIn.out _ _ _ _) ?_
          rintro e wz ⟨rfl, hz⟩
          obtain rfl := hz.symm
          rw [h3]
          clear hz h3
          go_wp2_with fail
          go_meet
          case rel => exact ⟨by rw [HF.out], rfl⟩
        · have HF : Hid (bb = false) := by exact (by rw [← HBb.out]; unfold bad13; rw [h3]; simp : bb = false)
          clear HBb HR h9 hnm
          go_wp2_with fail
          refine Calls.mono (HIn.out _ _ _ _) ?_
          rintro e wz ⟨rfl, hz⟩
          obtain rfl := hz.symm
          rw [h3]
          clear hz h3
          go_wp2_with fail
          go_meet
          case rel => exact ⟨by rw [HF.out], rfl⟩
  case rest =>
  obtain ⟨rfl, hz⟩ := hcut
  obtain rfl := hz.symm
  clear HBb hz
  rcases bb with _ | _
  rotate_left
  · have HK : Hid (res = false) := by exact (by rw [← HR.out]; rfl : res = false)
    go_wp2
    go_ret
    exact ⟨by rw [HK.out]; rfl, HBX.out⟩
  by_cases h1 : k = 1
  · subst h1
    have HK : Hid (res = (inB R 0 63 && inB A (-2147483648) 2147483647)) := by exact (by rw [← HR.out]; simp [kind13] : res = (inB R 0 63 && inB A (-2147483648) 2147483647))
    clear HR
    go_wp2_with fail
    refine Calls.mono (HRg.out R _) ?_
    rintro e wz ⟨rfl, hz⟩
    obtain rfl := hz.symm
    clear hz
    rcases hb0 : inB R 0 63 with _ | _
    · rw [hb0] at HK
      clear hb0
      go_wp2
      go_ret
      exact ⟨by rw [HK.out]; rfl, HBX.out⟩
    · rw [hb0] at HK
      clear hb0
      go_wp2_with fail
      refine Calls.mono (HWd.out A _) ?_
      rintro e wz ⟨rfl, hz⟩
      obtain rfl := hz.symm
      clear hz
      go_wp2
      go_ret
      exact ⟨by rw [HK.out]; rfl, HBX.out⟩
  have d1 : (k == 1) = false := beq_eq_false_iff_ne.2 h1
  by_cases h2 : k = 2
  · subst h2
    clear h1 d1
    have HK : Hid (res = (inB R 0 63 && inB A 0 2)) := by exact (by rw [← HR.out]; simp [kind13] : res = (inB R 0 63 && inB A 0 2))
    clear HR
    go_wp2_with fail
    refine Calls.mono (HRg.out R _) ?_
    rintro e wz ⟨rfl, hz⟩
    obtain rfl := hz.symm
    clear hz
    rcases hb0 : inB R 0 63 with _ | _
    · rw [hb0] at HK
      clear hb0
      go_wp2
      go_ret
      exact ⟨by rw [HK.out]; rfl, HBX.out⟩
    · rw [hb0] at HK
      clear hb0
      go_wp2_with fail
      refine Calls.mono (HIn.out A 0 2 _) ?_
      rintro e wz ⟨rfl, hz⟩
      obtain rfl := hz.symm
      clear hz
      go_wp2
      go_ret
      exact ⟨by rw [HK.out]; rfl, HBX.out⟩
  have d2 : (k == 2) = false := beq_eq_false_iff_ne.2 h2
  by_cases h3 : k = 3
  · subst h3
    clear h1 d1 h2 d2
    have HK : Hid (res = (inB R 0 63 && inB A 0 63 && inB B 0 63)) := by exact (by rw [← HR.out]; simp [kind13] : res = (inB R 0 63 && inB A 0 63 && inB B 0 63))
    clear HR
    go_wp2_with fail
    refine Calls.mono (HRg.out R _) ?_
    rintro e wz ⟨rfl, hz⟩
    obtain rfl := hz.symm
    clear hz
    rcases hb0 : inB R 0 63 with _ | _
    · rw [hb0] at HK
      clear hb0
      go_wp2
      go_ret
      exact ⟨by rw [HK.out]; rfl, HBX.out⟩
    · rw [hb0] at HK
      clear hb0
      go_wp2_with fail
      refine Calls.mono (HRg.out A _) ?_
      rintro e wz ⟨rfl, hz⟩
      obtain rfl := hz.symm
      clear hz
      rcases hb1 : inB A 0 63 with _ | _
      · rw [hb1] at HK
        clear hb1
        go_wp2
        go_ret
        exact ⟨by rw [HK.out]; rfl, HBX.out⟩
      · rw [hb1] at HK
        clear hb1
        go_wp2_with fail
        refine Calls.mono (HRg.out B _) ?_
        rintro e wz ⟨rfl, hz⟩
        obtain rfl := hz.symm
        clear hz
        go_wp2
        go_ret
        exact ⟨by rw [HK.out]; rfl, HBX.out⟩
  have d3 : (k == 3) = false := beq_eq_false_iff_ne.2 h3
  by_cases h4 : k = 4
  · subst h4
    clear h1 d1 h2 d2 h3 d3
    have HK : Hid (res = (inB R 0 63 && inB A 0 63 && inB B 0 63)) := by exact (by rw [← HR.out]; simp [kind13] : res = (inB R 0 63 && inB A 0 63 && inB B 0 63))
    clear HR
    go_wp2_with fail
    refine Calls.mono (HRg.out R _) ?_
    rintro e wz ⟨rfl, hz⟩
    obtain rfl := hz.symm
    clear hz
    rcases hb0 : inB R 0 63 with _ | _
    · rw [hb0] at HK
      clear hb0
      go_wp2
      go_ret
      exact ⟨by rw [HK.out]; rfl, HBX.out⟩
    · rw [hb0] at HK
      clear hb0
      go_wp2_with fail
      refine Calls.mono (HRg.out A _) ?_
      rintro e wz ⟨rfl, hz⟩
      obtain rfl := hz.symm
      clear hz
      rcases hb1 : inB A 0 63 with _ | _
      · rw [hb1] at HK
        clear hb1
        go_wp2
        go_ret
        exact ⟨by rw [HK.out]; rfl, HBX.out⟩
      · rw [hb1] at HK
        clear hb1
        go_wp2_with fail
        refine Calls.mono (HRg.out B _) ?_
        rintro e wz ⟨rfl, hz⟩
        obtain rfl := hz.symm
        clear hz
        go_wp2
        go_ret
        exact ⟨by rw [HK.out]; rfl, HBX.out⟩
  have d4 : (k == 4) = false := beq_eq_false_iff_ne.2 h4
  by_cases h5 : k = 5
  · subst h5
    clear h1 d1 h2 d2 h3 d3 h4 d4
    have HK : Hid (res = (inB R 0 63 && inB A 0 63 && inB B 0 63)) := by exact (by rw [← HR.out]; simp [kind13] : res = (inB R 0 63 && inB A 0 63 && inB B 0 63))
    clear HR
    go_wp2_with fail
    refine Calls.mono (HRg.out R _) ?_
    rintro e wz ⟨rfl, hz⟩
    obtain rfl := hz.symm
    clear hz
    rcases hb0 : inB R 0 63 with _ | _
    · rw [hb0] at HK
      clear hb0
      go_wp2
      go_ret
      exact ⟨by rw [HK.out]; rfl, HBX.out⟩
    · rw [hb0] at HK
      clear hb0
      go_wp2_with fail
      refine Calls.mono (HRg.out A _) ?_
      rintro e wz ⟨rfl, hz⟩
      obtain rfl := hz.symm
      clear hz
      rcases hb1 : inB A 0 63 with _ | _
      · rw [hb1] at HK
        clear hb1
        go_wp2
        go_ret
        exact ⟨by rw [HK.out]; rfl, HBX.out⟩
      · rw [hb1] at HK
        clear hb1
        go_wp2_with fail
        refine Calls.mono (HRg.out B _) ?_
        rintro e wz ⟨rfl, hz⟩
        obtain rfl := hz.symm
        clear hz
        go_wp2
        go_ret
        exact ⟨by rw [HK.out]; rfl, HBX.out⟩
  have d5 : (k == 5) = false := beq_eq_false_iff_ne.2 h5
  by_cases h6 : k = 6
  · subst h6
    clear h1 d1 h2 d2 h3 d3 h4 d4 h5 d5
    have HK : Hid (res = (inB R 0 63 && inB A 0 63 && inB B 0 63)) := by exact (by rw [← HR.out]; simp [kind13] : res = (inB R 0 63 && inB A 0 63 && inB B 0 63))
    clear HR
    go_wp2_with fail
    refine Calls.mono (HRg.out R _) ?_
    rintro e wz ⟨rfl, hz⟩
    obtain rfl := hz.symm
    clear hz
    rcases hb0 : inB R 0 63 with _ | _
    · rw [hb0] at HK
      clear hb0
      go_wp2
      go_ret
      exact ⟨by rw [HK.out]; rfl, HBX.out⟩
    · rw [hb0] at HK
      clear hb0
      go_wp2_with fail
      refine Calls.mono (HRg.out A _) ?_
      rintro e wz ⟨rfl, hz⟩
      obtain rfl := hz.symm
      clear hz
      rcases hb1 : inB A 0 63 with _ | _
      · rw [hb1] at HK
        clear hb1
        go_wp2
        go_ret
        exact ⟨by rw [HK.out]; rfl, HBX.out⟩
      · rw [hb1] at HK
        clear hb1
        go_wp2_with fail
        refine Calls.mono (HRg.out B _) ?_
        rintro e wz ⟨rfl, hz⟩
        obtain rfl := hz.symm
        clear hz
        go_wp2
        go_ret
        exact ⟨by rw [HK.out]; rfl, HBX.out⟩
  have d6 : (k == 6) = false := beq_eq_false_iff_ne.2 h6
  by_cases h7 : k = 7
  · subst h7
    clear h1 d1 h2 d2 h3 d3 h4 d4 h5 d5 h6 d6
    have HK : Hid (res = (inB R 0 63 && inB A 0 199)) := by exact (by rw [← HR.out]; simp [kind13] : res = (inB R 0 63 && inB A 0 199))
    clear HR
    go_wp2_with fail
    refine Calls.mono (HRg.out R _) ?_
    rintro e wz ⟨rfl, hz⟩
    obtain rfl := hz.symm
    clear hz
    rcases hb0 : inB R 0 63 with _ | _
    · rw [hb0] at HK
      clear hb0
      go_wp2
      go_ret
      exact ⟨by rw [HK.out]; rfl, HBX.out⟩
    · rw [hb0] at HK
      clear hb0
      go_wp2
      go_ret
      exact ⟨by rw [HK.out]; rfl, HBX.out⟩
  have d7 : (k == 7) = false := beq_eq_false_iff_ne.2 h7
  by_cases h8 : k = 8
  · subst h8
    clear h1 d1 h2 d2 h3 d3 h4 d4 h5 d5 h6 d6 h7 d7
    have HK : Hid (res = (decide (R = 0) && inB A 0 199)) := by exact (by rw [← HR.out]; simp [kind13] : res = (decide (R = 0) && inB A 0 199))
    clear HR
    by_cases h0 : R = 0
    · have hd : decide (R = 0) = true := decide_eq_true h0
      rw [hd] at HK
      clear hd
      have hq : (R == 0) = true := by simp [h0]
      clear h0
      go_wp2
      go_ret
      exact ⟨by rw [HK.out]; rfl, HBX.out⟩
    · have hd : decide (R = 0) = false := decide_eq_false h0
      rw [hd] at HK
      clear hd
      have hq : (R == 0) = false := beq_eq_false_iff_ne.2 h0
      clear h0
      go_wp2
      go_ret
      exact ⟨by rw [HK.out]; rfl, HBX.out⟩
  have d8 : (k == 8) = false := beq_eq_false_iff_ne.2 h8
  by_cases h9 : k = 9
  · subst h9
    clear h1 d1 h2 d2 h3 d3 h4 d4 h5 d5 h6 d6 h7 d7 h8 d8
    have HK : Hid (res = (inB R 0 63 && inB A 0 3 && decide (R + A - 1 ≤ 63) && name13 nm)) := by exact (by rw [← HR.out]; simp [kind13] : res = (inB R 0 63 && inB A 0 3 && decide (R + A - 1 ≤ 63) && name13 nm))
    clear HR
    go_wp2_with fail
    refine Calls.mono (HRg.out R _) ?_
    rintro e wz ⟨rfl, hz⟩
    obtain rfl := hz.symm
    clear hz
    rcases hb0 : inB R 0 63 with _ | _
    · rw [hb0] at HK
      clear hb0
      go_wp2
      go_ret
      exact ⟨by rw [HK.out]; rfl, HBX.out⟩
    · rw [hb0] at HK
      go_wp2_with fail
      refine Calls.mono (HIn.out A 0 3 _) ?_
      rintro e wz ⟨rfl, hz⟩
      obtain rfl := hz.symm
      clear hz
      rcases hb1 : inB A 0 3 with _ | _
      · rw [hb1] at HK
        clear hb1
        go_wp2
        go_ret
        exact ⟨by rw [HK.out]; rfl, HBX.out⟩
      · rw [hb1] at HK
        have hr := inB_iff13.1 hb0
        have ha := inB_iff13.1 hb1
        by_cases h2 : R + A - 1 ≤ 63
        · have hd : decide (R + A - 1 ≤ 63) = true := decide_eq_true h2
          rw [hd] at HK
          clear hd
          go_wp2_with fail
          refine Calls.mono HNm.out ?_
          rintro e wz ⟨rfl, hbz⟩
          have HBz := HBX.out.trans (hbz.mono (hN ▸ HBX.out.size))
          clear hbz
          go_wp2
          go_ret
          exact ⟨by rw [HK.out]; rfl, HBz⟩
        · have hd : decide (R + A - 1 ≤ 63) = false := decide_eq_false h2
          rw [hd] at HK
          clear hd
          go_wp2
          go_ret
          exact ⟨by rw [HK.out]; rfl, HBX.out⟩
  have d9 : (k == 9) = false := beq_eq_false_iff_ne.2 h9
  by_cases h10 : k = 10
  · subst h10
    clear h1 d1 h2 d2 h3 d3 h4 d4 h5 d5 h6 d6 h7 d7 h8 d8 h9 d9
    have HK : Hid (res = (inB R 0 63 && decide (A = 0))) := by exact (by rw [← HR.out]; simp [kind13] : res = (inB R 0 63 && decide (A = 0)))
    clear HR
    go_wp2_with fail
    refine Calls.mono (HRg.out R _) ?_
    rintro e wz ⟨rfl, hz⟩
    obtain rfl := hz.symm
    clear hz
    rcases hb0 : inB R 0 63 with _ | _
    · rw [hb0] at HK
      clear hb0
      go_wp2
      go_ret
      exact ⟨by rw [HK.out]; rfl, HBX.out⟩
    · rw [hb0] at HK
      clear hb0
      have he : (A == 0) = decide (A = 0) := by by_cases h : A = 0 <;> simp [h]
      rw [← he] at HK
      clear he
      go_wp2
      go_ret
      exact ⟨by rw [HK.out]; rfl, HBX.out⟩
  have d10 : (k == 10) = false := beq_eq_false_iff_ne.2 h10
  have HK : Hid (res = false) := by exact (by rw [← HR.out]; unfold kind13; rw [if_neg h1, if_neg h2, if_neg (by omega), if_neg h7, if_neg h8, if_neg h9, if_neg h10]; rfl : res = false)
  clear HR h1 h2 h3 h4 h5 h6 h7 h8 h9 h10
  go_wp2
  go_ret
  exact ⟨by rw [HK.out]; rfl, HBX.out⟩

end Go.Proofs.Ytnflkecnddbhoaa
