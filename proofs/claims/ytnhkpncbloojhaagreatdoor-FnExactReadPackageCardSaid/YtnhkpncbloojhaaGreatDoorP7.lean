/-
  Parts of one proof, one behind the other: Bend1, Bend2, RowW.
-/
import Derived.Test.YtnhkpncbloojhaaGreatDoorP6
import Derived.Test.YtnhkpncbloojhaaGreatDoorP4
import Derived.Deep.RegionHeld3
import Derived.Deep.RegionLaw
import Derived.Deep.DrawnRows
import Derived.Test.YtnhkpncbloojhaaGreatDoorP5
import Derived.Laws.IdiomCopy

/-! What the bending of a text needs: a slice of bytes at the head of a block that is new since the call began, and an append's law at a step of a region that draws its order. -/
namespace Go.Proofs.YtnhkpncbloojhaaGreatDoor
open Go.RowKit

/-- Block g, new since 'base', holds the bytes l from its head on, and they may be written. -/
structure RowB (w : World) (base g cap : Nat) (l : List UInt8) : Prop where
  new : base ≤ g
  there : g < w.heap.size
  room : l.length ≤ cap
  most : cap ≤ maxLen
  cells : ∀ j (hj : j < l.length), w.cell? ⟨g, j, none⟩ = some (.int .u8 (l[j].toNat : Int))
  free : ∀ j, j < l.length → w.frozen? ⟨g, j, none⟩ = false

theorem RowB.kept {w w' : World} {base g cap : Nat} {l : List UInt8} {row : Option Nat} (h : RowB w base g cap l) (hg : w.grownBy w' row) (hne : some g ≠ row) : RowB w' base g cap l := by
  have hb := hg.block g h.there hne
  exact ⟨h.new, Nat.lt_of_lt_of_le h.there hg.size, h.room, h.most, fun j hj => (World.cell?_of_block hb).trans (h.cells j hj), fun j hj => (World.frozen?_of_block hb).trans (h.free j hj)⟩

theorem RowB.base {w : World} {base base' g cap : Nat} {l : List UInt8} (h : RowB w base g cap l) (hb : base' ≤ base) : RowB w base' g cap l := ⟨Nat.le_trans hb h.new, h.there, h.room, h.most, h.cells, h.free⟩

theorem RowB.of_own {w : World} {base : Nat} {v : Value} {l : List UInt8} (h : w.ownsRow base 5 1 v l.length (bytesV l)) (hv : v ≠ .slice none 0 0) : ∃ g cap, v = .slice (some ⟨g, 0, none⟩) l.length cap ∧ RowB w base g cap l := by
  have hh := h
  obtain ⟨_, ⟨e, _⟩ | ⟨g, cap, cur, rfl, hb, hc, hn, hm, hs, ht⟩⟩ := hh
  · exact absurd e hv
  · refine ⟨g, cap, rfl, hb, (h.lt g rfl).2, hn, hm, ?_, ?_⟩
    · intro j hj
      have hx := World.ownsRow.cellAt h j (by omega)
      rw [hx]; simp [bytesV, List.getElem?_eq_getElem hj]
    · intro j hj
      exact World.ownsRow.frozenAt h j

theorem RowB.back {w : World} {base g cap : Nat} {l : List UInt8} (h : RowB w base g cap l) :
    (convert 22 9 (.slice (some ⟨g, 0, none⟩) l.length cap)).run Tryz.prog w = .ok (.string ⟨l.toArray⟩) w := by
  refine run_convert_bytes_back (P := Tryz.prog) w 22 9 5 ⟨g, 0, none⟩ cap l Tryz.underlying22 Tryz.underlying5 Tryz.underlying9 ?_
  intro j hj
  have e : (⟨g, 0, none⟩ : Addr).add j = ⟨g, j, none⟩ := by unfold Addr.add; split <;> simp_all
  rw [e]; exact h.cells j hj

theorem RowB.cut {w : World} {base g cap : Nat} {l : List UInt8} (h : RowB w base g cap l) (k : Nat) : RowB w base g cap (l.take k) := by
  have hl : (l.take k).length ≤ l.length := List.length_take_le' _ _
  refine ⟨h.new, h.there, Nat.le_trans hl h.room, h.most, ?_, ?_⟩
  · intro j hj
    rw [h.cells j (by omega)]
    simp
  · intro j hj; exact h.free j (by omega)

theorem RowB.store {w : World} {base g cap : Nat} {l : List UInt8} (h : RowB w base g cap l) (k : Nat) (hk : k < l.length) (x : UInt8) : RowB (w.setCell ⟨g, k, none⟩ (.int .u8 (x.toNat : Int))) base g cap (l.set k x) := by
  refine ⟨h.new, by simpa using h.there, by simpa using h.room, h.most, ?_, ?_⟩
  · intro j hj
    have hj' : j < l.length := by simpa using hj
    by_cases e : j = k
    · subst e
      rw [World.cell?_setCell_same _ _ _ (h.cells j hj')]
      simp
    · rw [World.cell?_setCell_other _ _ _ _ (by intro e2; injection e2 with _ e3; exact e e3.symm), h.cells j hj', List.getElem_set_ne (fun e2 => e e2.symm)]
  · intro j hj
    rw [World.frozen?_setCell]; exact h.free j (by simpa using hj)

theorem RowB.drew {w : World} {base g cap : Nat} {l : List UInt8} (h : RowB w base g cap l) : RowB w.drew base g cap l := ⟨h.new, h.there, h.room, h.most, h.cells, h.free⟩

/-- '[]byte(s)': the new block. -/
theorem RowB.made (w : World) (l : List UInt8) (hl : l.length ≤ maxLen) :
    RowB (w.drew.alloc (.cells (bytesRow ⟨l.toArray⟩ (grownCap w l.length 0 5)) 5 ((bytesRow ⟨l.toArray⟩ (grownCap w l.length 0 5)).size, (bytesRow ⟨l.toArray⟩ (grownCap w l.length 0 5)).size + 1))) w.heap.size w.heap.size (grownCap w l.length 0 5) l := by
  have hsz : l.length ≤ (bytesRow ⟨l.toArray⟩ (grownCap w l.length 0 5)).size := by simp [bytesRow]
  refine ⟨Nat.le_refl _, by simp, grownCap_ge _ _ _ _, grownCap_le_maxLen _ _ _ _ hl, ?_, ?_⟩
  · intro j hj
    show (w.alloc _).cell? ⟨w.heap.size, j, none⟩ = _
    rw [World.cell?_alloc_mark, bytesRow_at ⟨l.toArray⟩ _ j (by simpa using hj)]
    simp
  · intro j hj
    show (w.alloc _).frozen? ⟨w.heap.size, j, none⟩ = _
    rw [World.frozen?_alloc_mark]
    simp; omega

/-- 'append' onto a row of the call's own, at a step of a region that draws. -/
theorem step_append_own {P : Program} {w : World} {ops : Array Oper} {o : Oper} {a : Act} {K : Act → World → Prop} {Q : Exit → Act → World → Prop} {E : Prop} (hgd : o.guard = none) (s x : Operand) (t : TypeId)
    (ho : o.op = .call { callee := .builtin .append, args := #[s, x], argTypes := #[t, t] })
    (base : Nat) (e : TypeId) (i : TypeInfo) (z : Value) (size bytes : Nat) (ht : P.underlying t = some (.slice e)) (hi : P.info? e = some i) (hz : i.zero = some z)
    (hsize : i.size = size) (hby : i.bytes = bytes) (hzs : z.cells.size = size) (hsz : 0 < size)
    (v : Value) (n : Nat) (xs : List Value) (hs : a.eval s = v) (hown : w.ownsRow base e size v n xs)
    (ad : Addr) (m c : Nat) (news : List Value) (hx : a.eval x = .slice (some ad) m c) (hl : news.length = m * size) (hnews : ∀ j u, news[j]? = some u → w.cell? (ad.add j) = some u) (h1 : ∀ u ∈ news, u.oneCell' = true)
    (h63 : n + m ≤ maxLen) (hbytes : (n + m) * bytes ≤ 140737488355328) (hbase : base ≤ w.heap.size)
    (h : ∀ v' w', w'.ownsRow base e size v' (n + m) (xs ++ news) → w.grownBy w' v.ownBlock → (v' = .slice none 0 0 ↔ v = .slice none 0 0 ∧ m = 0) → K (a.put o.dst v') w') :
    if Region.wanted o (yielded ops a.tmps) = true then Oper.wp P o a w K Q else E := by
  have hw : Region.wanted o (yielded ops a.tmps) = true := by simp [Region.wanted, hgd]
  rw [if_pos hw]
  exact wp_append_own w s x t ho base e i z size bytes ht hi hz hsize hby hzs hsz v n xs hs hown ad m c news hx hl hnews h1 h63 hbytes hbase h

theorem bytesV_at (l : List UInt8) (j : Nat) (u : Value) (h : (bytesV l)[j]? = some u) : ∃ hj : j < l.length, u = .int .u8 (l[j].toNat : Int) := by
  unfold bytesV at h
  rw [List.getElem?_map] at h
  rcases hx : l[j]? with _ | x
  · rw [hx] at h; cases h
  · rw [hx] at h
    obtain ⟨hj, e⟩ := List.getElem?_eq_some_iff.1 hx
    injection h with h
    exact ⟨hj, by rw [e]; exact h.symm⟩

theorem bytesV_len (l : List UInt8) : (bytesV l).length = l.length := by simp [bytesV]

theorem bytesV_one (l : List UInt8) : ∀ u ∈ bytesV l, u.oneCell' = true := by
  intro u hu
  obtain ⟨x, _, rfl⟩ := List.mem_map.1 hu
  rfl

theorem add_plain (b off j : Nat) : (⟨b, off, none⟩ : Addr).add j = ⟨b, off + j, none⟩ := by unfold Addr.add; split <;> simp_all

/-- The cells of b[:k], as an append takes them. -/
theorem RowB.head {w : World} {base g cap : Nat} {l : List UInt8} (h : RowB w base g cap l) (k : Nat) : ∀ j u, (bytesV (l.take k))[j]? = some u → w.cell? ((⟨g, 0, none⟩ : Addr).add j) = some u := by
  intro j u hu
  obtain ⟨hj, rfl⟩ := bytesV_at _ _ _ hu
  have hl : (l.take k).length ≤ l.length := List.length_take_le' _ _
  rw [add_plain, Nat.zero_add, h.cells j (by omega)]
  simp

/-- The cells of b[k:], as an append takes them. -/
theorem RowB.tail {w : World} {base g cap : Nat} {l : List UInt8} (h : RowB w base g cap l) (k : Nat) : ∀ j u, (bytesV (l.drop k))[j]? = some u → w.cell? ((⟨g, k, none⟩ : Addr).add j) = some u := by
  intro j u hu
  obtain ⟨hj, rfl⟩ := bytesV_at _ _ _ hu
  have hj' : k + j < l.length := by rw [List.length_drop] at hj; omega
  rw [add_plain, h.cells (k + j) hj']
  simp

theorem own_empty (w : World) (base : Nat) (h : base ≤ w.heap.size) : (w.alloc (.cells #[] 5)).drew.ownsRow base 5 1 (.slice (some ⟨w.heap.size, 0, none⟩) 0 0) 0 [] :=
  (World.ownsRow_lit (base := base) (e := 5) (size := 1) w #[] 0 h (by decide) rfl).drew

theorem step_keep {w W W' : World} {B : Nat} {a : Option Addr} {len cap : Nat} {row : Option Nat} (hBlt : B < w.heap.size) (h : Cur W B a len cap ∧ w.grownBy W (some B)) (hg : W.grownBy W' row) (hrow : ∀ k, row = some k → w.heap.size ≤ k) :
    Cur W' B a len cap ∧ w.grownBy W' (some B) :=
  ⟨h.1.kept hg (fun k e => by have := hrow k e; omega), h.2.andThen hg (fun j e => Or.inl (hrow j e))⟩

theorem bytesV_append (a b : List UInt8) : bytesV a ++ bytesV b = bytesV (a ++ b) := by simp [bytesV]

/-- What a chain of appends leaves: a row of bytes. -/
theorem own_done {w : World} {base n : Nat} {v : Value} {xs : List Value} (l : List UInt8) (h : w.ownsRow base 5 1 v n xs) (hx : xs = bytesV l) (hn : n = l.length) (hv : v ≠ .slice none 0 0) : ∃ g cap, v = .slice (some ⟨g, 0, none⟩) l.length cap ∧ RowB w base g cap l := by
  subst hx hn
  exact RowB.of_own h hv

theorem own_ne {w : World} {base e size n g : Nat} {v : Value} {xs : List Value} (h : w.ownsRow base e size v n xs) (hg : g < base) : some g ≠ v.ownBlock := by
  intro e2
  have := (h.lt g e2.symm).1
  omega

theorem size_empty (w : World) : w.heap.size ≤ (w.alloc (.cells #[] 5)).drew.heap.size := by simp
theorem size_one (w : World) (x : Value) (n : Nat) (h : n ≤ w.heap.size) : n ≤ (w.alloc (.cells #[x] 5)).heap.size := by simp; omega
theorem row_empty (w : World) : ∀ k, Value.ownBlock (.slice (some ⟨w.heap.size, 0, none⟩) 0 0) = some k → w.heap.size ≤ k := by
  intro k e; injection e with e; exact Nat.le_of_eq e
theorem ne_empty (w : World) (b : Nat) (h : b < w.heap.size) : some b ≠ Value.ownBlock (.slice (some ⟨w.heap.size, 0, none⟩) 0 0) := by
  intro e; injection e with e; simp at e; omega
theorem ne_some {b B : Nat} (h : B < b) : some b ≠ some B := by
  intro e; injection e with e; omega

end Go.Proofs.YtnhkpncbloojhaaGreatDoor

/-! The contract of l1Bend: a text that is bent at most twice. -/
namespace Go.Proofs.YtnhkpncbloojhaaGreatDoor
open Go.RowKit

set_option maxHeartbeats 2000000 in
set_option maxRecDepth 100000 in
theorem drawBend (w : World) (B : Nat) (a : Option Addr) (len cap : Nat) (s g : List UInt8) (h : Cur w B a len cap) (hs : s.length ≤ 1000000) (hg0 : 0 < g.length) (hg1 : g.length ≤ 256) :
    Calls Tryz.prog 30 #[.pointer (some ⟨B, 0, none⟩), .string ⟨s.toArray⟩, .string ⟨g.toArray⟩] w fun e w' => ∃ l : List UInt8, e = .returned (.string ⟨l.toArray⟩) ∧ l.length ≤ s.length + 2 ∧ Cur w' B a len cap ∧ w.grownBy w' (some B) := by
  obtain ⟨i0, hi, hz0, hz1, hz2⟩ := info_parts info5
  have hBlt := h.lt
  have hconv := run_bytes_of_string (P := Tryz.prog) w 9 22 5 ⟨s.toArray⟩ Tryz.underlying9 Tryz.underlying22 Tryz.underlying5
  have hrow := RowB.made w s (by unfold maxLen; omega)
  have hszs : (⟨s.toArray⟩ : ByteArray).size = s.length := rfl
  rw [hszs] at hconv
  clear hszs
  generalize hC : bytesRow ⟨s.toArray⟩ (grownCap w s.length 0 5) = C at hconv hrow
  generalize hcp : grownCap w s.length 0 5 = cp at hconv hrow
  clear hC hcp
  go_enter Tryz.func30, Tryz.ntmps30
  go_wp2_with fail
  refine (drawBelow _ B a len cap 3 (by omega) (by omega) (by exact (h.kept (World.grownBy_alloc _ _ none) (by simp)).drew)).mono ?_
  rintro e w1 ⟨n, rfl, hn0, hn1, hc1, hg1'⟩
  have hrow1 : RowB w1 w.heap.size w.heap.size cp s := hrow.kept hg1' (by intro e; injection e with e; omega)
  have hgr1 : w.grownBy w1 (some B) := ((World.grownBy_alloc _ _ _).trans (grown_drew _ _)).trans hg1'
  clear hrow hconv hg1' h
  go_wp2_with fail
  go_loopw [7, 8] (fun v i wr => ∃ l : List UInt8, ∃ b cp k : Nat, l.length + k ≤ s.length + 2 ∧ i = .int .i64 k ∧ v = .slice (some ⟨b, 0, none⟩) l.length cp ∧ RowB wr w.heap.size b cp l ∧ Cur wr B a len cap ∧ w.grownBy wr (some B)) (fun _ i _ => (intOf i).toNat)
  case atStart => exact ⟨s, w.heap.size, cp, n.toNat, by omega, by rw [Int.toNat_of_nonneg hn0], rfl, hrow1, hc1, hgr1⟩
  case round =>
    obtain ⟨l, b, cp, k, hk, rfl, rfl, hrow, hc, hgr⟩ := hrel
    clear hrow1 hc1 hgr1
    by_cases hgo : 0 < k ∧ 0 < l.length
    · obtain ⟨hk0, hl0⟩ := hgo
      go_wp2_with fail
      refine (drawBelow _ B a len cap (l.length : Int) (by omega) (by omega) hc).mono ?_
      rintro e w2 ⟨p, rfl, hp0, hp1, hc2, hg2⟩
      have hrow2 := hrow.kept hg2 (by intro e; injection e with e; have := hrow.new; omega)
      have hgr2 := hgr.trans hg2
      clear hrow hc hgr hg2
      obtain ⟨p, rfl⟩ := Int.eq_ofNat_of_zero_le hp0
      go_wp2_with fail
      refine (drawBelow _ B a len cap 4 (by omega) (by omega) hc2).mono ?_
      rintro e w3 ⟨t, rfl, ht0, ht1, hc3, hg3⟩
      have hrow3 := hrow2.kept hg3 (by intro e; injection e with e; have := hrow2.new; omega)
      have hgr3 := hgr2.trans hg3
      clear hrow2 hc2 hgr2 hg3
      have hpc : (p : Int) ≤ (cp : Int) := by have := hrow3.room; omega
      have hlc : (l.length : Int) ≤ (cp : Int) := by have := hrow3.room; omega
      have hcm : (cp : Int) ≤ 9223372036854775807 := by have := hrow3.most; unfold maxLen at this; omega
      have hp2 : (p : Int) + 1 ≤ (l.length : Int) := by omega
      have hp5 : (p : Int) ≤ (l.length : Int) := by omega
      have hp3 : (0 : Int) ≤ (p : Int) + 1 := by omega
      have hp4 : (p : Int) + 1 ≤ (cp : Int) := by omega
      have hll : (l.length : Int) ≤ 1000002 := by omega
      have hwr : IntKind.i64.wrap ((p : Int) + 1) = (p : Int) + 1 := by rw [IntKind.wrap_i64]; omega
      rcases (show t = 0 ∨ t = 1 ∨ t = 2 ∨ t = 3 by omega) with rfl | rfl | rfl | rfl
      · go_wp2_with fail
        refine (drawBelow _ B a len cap (g.length : Int) (by omega) (by omega) hc3).mono ?_
        rintro e w4 ⟨x, rfl, hx0, hx1, hc4, hg4⟩
        have hrow4 := hrow3.kept hg4 (by intro e; injection e with e; have := hrow3.new; omega)
        have hgr4 := hgr3.trans hg4
        clear hrow3 hc3 hgr3 hg4
        have hcell4 := hrow4.cells p (by omega)
        have hfree4 := hrow4.free p (by omega)
        go_wp2
        go_roundw
        case rel => exact ⟨l.set p _, b, cp, k - 1, by rw [List.length_set]; omega, by go_num, by rw [List.length_set], hrow4.store p (by omega) _, hc4.kept (grown_setCell _ b p _) (fun j e => by injection e with e; have := hrow4.new; omega), hgr4.andThen (grown_setCell _ b p _) (fun j e => by injection e with e; have := hrow4.new; exact Or.inl (by omega))⟩
        case measure => simp [intOf]; omega
      · go_wp2
        go_roundw
        case rel => exact ⟨l.take p, b, cp, k - 1, by rw [List.length_take]; omega, by go_num, by rw [List.length_take, Nat.min_eq_left (by omega)], hrow3.cut p, hc3, hgr3⟩
        case measure => simp [intOf]; omega
      · go_wp2_with fail
        have hnew3 : w.heap.size ≤ w3.heap.size := hgr3.size
        have hrow5 : RowB (w3.alloc (.cells #[] 5)).drew w.heap.size b cp l := (hrow3.kept (World.grownBy_alloc _ _ none) (by simp)).drew
        have hown0 : Hid ((w3.alloc (.cells #[] 5)).drew.ownsRow w.heap.size 5 1 (.slice (some ⟨w3.heap.size, 0, none⟩) 0 0) 0 []) := own_empty w3 w.heap.size hnew3
        have hlt' : Hid ((bytesV (l.take p)).length = p * 1) := by exact (by rw [bytesV_len, List.length_take, Nat.min_eq_left (by omega), Nat.mul_one] : (bytesV (l.take p)).length = p * 1)
        obtain ⟨A, hA, hAn⟩ : ∃ A : Addr, (if cp = p + 1 then some (⟨b, 0, none⟩ : Addr) else some ⟨b, p + 1, none⟩) = some A ∧ ∀ W, RowB W w.heap.size b cp l → ∀ j u, (bytesV (l.drop (p + 1)))[j]? = some u → W.cell? (A.add j) = some u := by
          by_cases e : cp = p + 1
          · refine ⟨⟨b, 0, none⟩, by rw [if_pos e], fun W _ j u hu => ?_⟩
            obtain ⟨hj, _⟩ := bytesV_at _ _ _ hu
            rw [List.length_drop] at hj
            omega
          · exact ⟨⟨b, p + 1, none⟩, by rw [if_neg e], fun W hr => hr.tail (p + 1)⟩
        have HAn : Hid (∀ W, RowB W w.heap.size b cp l → ∀ j u, (bytesV (l.drop (p + 1)))[j]? = some u → W.cell? (A.add j) = some u) := hAn
        have hdl : Hid ((bytesV (l.drop (p + 1))).length = (l.length - (p + 1)) * 1) := by exact (by rw [bytesV_len, List.length_drop, Nat.mul_one] : (bytesV (l.drop (p + 1))).length = (l.length - (p + 1)) * 1)
        clear hAn
        go_region_held3 (fun _ => True) (exact True.intro) (first | (refine step_append_own (by rfl) (.tmp 51) (.tmp 55) 22 (by rfl) w.heap.size 5 i0 (.int .u8 0) 1 1 Tryz.underlying22 hi hz0 hz1 hz2 rfl (by decide) _ _ _ (by rfl) hown5 A (l.length - (p + 1)) (cp - (p + 1)) (bytesV (l.drop (p + 1))) (by first | rfl | simp [Act.eval, hA]) hdl.out (HAn.out _ (hrow5.kept hgrow5 (by intro e; injection e with e; have := hrow3.there; simp at e; omega))) (bytesV_one _) (by unfold maxLen; omega) (by omega) (by have := hgrow5.size; simp at this; omega) ?_; intro v2 w6 hown6 hgrow6 hnil6) | (refine step_append_own (by rfl) (.tmp 47) (.tmp 50) 22 (by rfl) w.heap.size 5 i0 (.int .u8 0) 1 1 Tryz.underlying22 hi hz0 hz1 hz2 rfl (by decide) _ 0 [] (by rfl) hown0.out ⟨b, 0, none⟩ p cp (bytesV (l.take p)) (by rfl) hlt'.out (hrow5.head p) (bytesV_one _) (by unfold maxLen; omega) (by omega) (by simp; omega) ?_; intro v1 w5 hown5 hgrow5 hnil5))
        have hv1 : v1 ≠ .slice none 0 0 := fun e => by have := (hnil5.1 e).1; cases this
        have hv2 : v2 ≠ .slice none 0 0 := fun e => hv1 (hnil6.1 e).1
        obtain ⟨g', cp', hv, hrow6⟩ := own_done (l.take p ++ l.drop (p + 1)) hown6 (by rw [List.nil_append, bytesV_append]) (by rw [List.length_append, List.length_take, List.length_drop]; omega) hv2
        have hk6 := step_keep hBlt (step_keep hBlt (step_keep hBlt (step_keep hBlt ⟨hc3, hgr3⟩ (World.grownBy_alloc _ _ none) (by simp)) (grown_drew _ none) (by simp)) hgrow5 (fun k e => by injection e with e; simp at e; omega)) hgrow6 (fun k e => (hown5.lt k e).1)
        obtain ⟨hc6, hgr6⟩ := hk6
        rw [hv]
        clear hown5 hown6 hgrow5 hgrow6 hnil5 hnil6 hown0 hlt' HAn hdl hA hrow5 hrow3 hc3 hgr3 hv1 hv2 hv
        go_wp2
        go_roundw
        case rel => exact ⟨l.take p ++ l.drop (p + 1), g', cp', k - 1, by rw [List.length_append, List.length_take, List.length_drop]; omega, by go_num, rfl, hrow6, hc6, hgr6⟩
        case measure => simp [intOf]; omega
      · have hne : ¬ cp = p := by omega
        have hnew3 : w.heap.size ≤ w3.heap.size := hgr3.size
        have hrow5 : RowB (w3.alloc (.cells #[] 5)).drew w.heap.size b cp l := (hrow3.kept (World.grownBy_alloc _ _ none) (by simp)).drew
        have hown0 : Hid ((w3.alloc (.cells #[] 5)).drew.ownsRow w3.heap.size 5 1 (.slice (some ⟨w3.heap.size, 0, none⟩) 0 0) 0 []) := own_empty w3 w3.heap.size (Nat.le_refl _)
        have hB3 : B < w3.heap.size := hc3.lt
        have hk4 := step_keep hBlt (step_keep hBlt ⟨hc3, hgr3⟩ (World.grownBy_alloc w3 (.cells #[] 5) none) (by simp)) (grown_drew _ none) (by simp)
        have hlt' : Hid ((bytesV (l.take p)).length = p * 1) := by exact (by rw [bytesV_len, List.length_take, Nat.min_eq_left (by omega), Nat.mul_one] : (bytesV (l.take p)).length = p * 1)
        have hdl : Hid ((bytesV (l.drop p)).length = (l.length - p) * 1) := by exact (by rw [bytesV_len, List.length_drop, Nat.mul_one] : (bytesV (l.drop p)).length = (l.length - p) * 1)
        go_wp2_with fail
        have hbB : B < b := by have := hrow3.new; omega
        go_region_held3 (fun _ => True) (exact True.intro) (first
          | (refine step_append_own (by rfl) (.tmp 71) (.tmp 74) 22 (by rfl) w3.heap.size 5 i0 (.int .u8 0) 1 1 Tryz.underlying22 hi hz0 hz1 hz2 rfl (by decide) _ _ _ (by rfl) hown8 ⟨b, p, none⟩ (l.length - p) (cp - p) (bytesV (l.drop p)) (by rfl) hdl.out (hrow8.tail p) (bytesV_one _) (by unfold maxLen; omega) (by omega) hz8 ?_; intro v9 w9 hown9 hgrow9 hnil9)
          | (refine step_append_own (by rfl) (.tmp 63) (.tmp 70) 22 (by rfl) w3.heap.size 5 i0 (.int .u8 0) 1 1 Tryz.underlying22 hi hz0 hz1 hz2 rfl (by decide) _ _ _ (by rfl) (hown7.alloc _) ⟨w7.heap.size, 0, none⟩ 1 1 _ (by rfl) (by rfl) (cell_one_new _ _ _) (by intro u hu; simp at hu; subst hu; rfl) (by unfold maxLen; omega) (by omega) (size_one _ _ _ hz7) ?_; intro v8 w8 hown8 hgrow8 hnil8; have hrow8 := (hrow7.kept (World.grownBy_alloc _ _ none) (by simp)).kept hgrow8 (own_ne hown7 hrow3.there); have hz8 := Nat.le_trans (size_one _ _ _ hz7) hgrow8.size; have hk8 := step_keep hBlt (step_keep hBlt hk7 (World.grownBy_alloc _ _ none) (by simp)) hgrow8 (fun k e => Nat.le_trans hnew3 (hown7.lt k e).1))
          | (have hk5' := hk5; go_at_call 33; refine (drawBelow _ B a len cap (g.length : Int) (by omega) (by omega) hk5'.1).mono ?_; rintro e w7 ⟨x, rfl, hx0, hx1, hc7, hg7⟩; have hown7 := own_other hown5 hB3 hg7; have hrow7 := hrow6.kept hg7 (ne_some hbB); have hz7 := Nat.le_trans hz5 hg7.size; have hk7 : Cur w7 B a len cap ∧ w.grownBy w7 (some B) := ⟨hc7, hk5'.2.trans hg7⟩)
          | (refine step_append_own (by rfl) (.tmp 59) (.tmp 62) 22 (by rfl) w3.heap.size 5 i0 (.int .u8 0) 1 1 Tryz.underlying22 hi hz0 hz1 hz2 rfl (by decide) _ 0 [] (by rfl) hown0.out ⟨b, 0, none⟩ p cp (bytesV (l.take p)) (by rfl) hlt'.out (hrow5.head p) (bytesV_one _) (by unfold maxLen; omega) (by omega) (size_empty w3) ?_; intro v5 w5 hown5 hgrow5 hnil5; have hrow6 := hrow5.kept hgrow5 (ne_empty w3 b hrow3.there); have hz5 := Nat.le_trans (size_empty w3) hgrow5.size; have hk5 := step_keep hBlt hk4 hgrow5 (fun k e => Nat.le_trans hnew3 (row_empty w3 k e))))
        have hv5 : v5 ≠ .slice none 0 0 := fun e => by have := (hnil5.1 e).1; cases this
        have hv8 : v8 ≠ .slice none 0 0 := fun e => hv5 (hnil8.1 e).1
        have hv9 : v9 ≠ .slice none 0 0 := fun e => hv8 (hnil9.1 e).1
        obtain ⟨g', cp', hv, hrow9⟩ := own_done (l.take p ++ [_] ++ l.drop p) hown9 (by rw [List.nil_append, ← bytesV_append, ← bytesV_append]; rfl) (by simp only [List.length_append, List.length_take, List.length_drop, List.length_singleton]; omega) hv9
        have hrow9' := hrow9.base hnew3
        obtain ⟨hc9, hgr9⟩ := step_keep hBlt hk8 hgrow9 (fun k e => Nat.le_trans hnew3 (hown8.lt k e).1)
        rw [hv]
        clear hown5 hown7 hown8 hown9 hgrow5 hgrow8 hgrow9 hnil5 hnil8 hnil9 hown0 hlt' hdl hrow5 hrow6 hrow7 hrow8 hrow9 hrow3 hc3 hgr3 hv5 hv8 hv9 hv hk4 hk5 hk5' hk7 hk8
        go_wp2
        go_roundw
        case rel => exact ⟨_, g', cp', k - 1, by simp only [List.length_append, List.length_take, List.length_drop, List.length_singleton]; omega, by go_num, rfl, hrow9', hc9, hgr9⟩
        case measure => simp [intOf]; omega
    · by_cases hk0 : 0 < k
      · obtain rfl : l = [] := List.eq_nil_of_length_eq_zero (by omega)
        have hback := hrow.back
        simp only [List.length_nil] at hback
        go_wp2
        go_ret
        exact ⟨[], rfl, by simp, hc, hgr⟩
      · have hback := hrow.back
        go_wp2
        go_ret
        exact ⟨l, rfl, by omega, hc, hgr⟩

end Go.Proofs.YtnhkpncbloojhaaGreatDoor

/-! A row of bytes that a call has made of a string ('[]byte(s)'), and 'append(b, s...)' onto it, whether there is room or not. -/
namespace Go.Proofs.YtnhkpncbloojhaaGreatDoor
open Go.RowKit

/-- Block g, new since 'base', holds the bytes l from its head on; all of its cap cells may be written. -/
structure RowW (w : World) (base g cap : Nat) (l : List UInt8) : Prop where
  row : RowB w base g cap l
  all : ∀ j, j < cap → (w.cell? ⟨g, j, none⟩).isSome = true ∧ w.frozen? ⟨g, j, none⟩ = false

theorem RowW.kept {w w' : World} {base g cap : Nat} {l : List UInt8} {row : Option Nat} (h : RowW w base g cap l) (hg : w.grownBy w' row) (hne : some g ≠ row) : RowW w' base g cap l := by
  have hb := hg.block g h.row.there hne
  exact ⟨h.row.kept hg hne, fun j hj => by rw [World.cell?_of_block (a := ⟨g, j, none⟩) hb, World.frozen?_of_block (a := ⟨g, j, none⟩) hb]; exact h.all j hj⟩

theorem RowW.below {w w' : World} {base g cap : Nat} {l : List UInt8} (h : RowW w base g cap l) (hb : Below w.heap.size w w') : RowW w' base g cap l :=
  h.kept (row := none) ⟨hb.os, hb.tape, hb.output, hb.size, fun k hk _ => hb.block k hk⟩ (by simp)

theorem RowW.drew {w : World} {base g cap : Nat} {l : List UInt8} (h : RowW w base g cap l) : RowW w.drew base g cap l :=
  h.below ⟨rfl, rfl, rfl, Nat.le_refl _, fun _ _ => rfl⟩

theorem heap_setCells (b : Nat) : ∀ (vs : List Value) (o : Nat) (w : World), (w.setCells b o vs).heap.size = w.heap.size ∧ ∀ k, k ≠ b → (w.setCells b o vs).heap[k]? = w.heap[k]?
  | [], _, _ => ⟨rfl, fun _ _ => rfl⟩
  | v :: r, o, w => by
    obtain ⟨h1, h2⟩ := heap_setCells b r (o + 1) (w.setCell ⟨b, o, none⟩ v)
    refine ⟨by rw [World.setCells, h1]; simp, fun k hk => ?_⟩
    rw [World.setCells, h2 k hk]
    exact Below.heap_setCell w _ v k (fun e => hk e)

theorem grown_setCells (b : Nat) : ∀ (vs : List Value) (o : Nat) (w : World), w.grownBy (w.setCells b o vs) (some b)
  | [], _, w => World.grownBy.refl w _
  | v :: r, o, w => by
    rw [World.setCells]
    exact (grown_set w b o v).trans (grown_setCells b r (o + 1) _)

theorem strV_bytes (s : List UInt8) : Lib.strCells ⟨s.toArray⟩ = bytesV s := strCells_list s

theorem RowW.append {w : World} {base g cap : Nat} {l : List UInt8} (h : RowW w base g cap l) (s : List UInt8) (hlen : l.length + s.length ≤ 4194304) (hbase : base ≤ w.heap.size) (ty : TypeId) :
    ∃ g' cap' w', (Builtin.append_ #[22, 9] ty #[.slice (some ⟨g, 0, none⟩) l.length cap, .string ⟨s.toArray⟩]).run Tryz.prog w = .ok (.slice (some ⟨g', 0, none⟩) (l ++ s).length cap') w' ∧ RowW w' base g' cap' (l ++ s) ∧ w.grownBy w' (some g) := by
  obtain ⟨i0, hi, hz0, hz1, hz2⟩ := info_parts info5
  have hss : (⟨s.toArray⟩ : ByteArray).size = s.length := List.size_toArray
  have hll : (l ++ s).length = l.length + s.length := List.length_append
  by_cases hroom : l.length + s.length ≤ cap
  · have hf := Lib.run_firstCells_string (P := Tryz.prog) w 1 ⟨s.toArray⟩
    have hc : ∀ j, j < (bytesV s).length → (w.cell? ⟨g, l.length + j, none⟩).isSome = true := fun j hj => (h.all _ (by rw [bytesV_len] at hj; omega)).1
    have hfz : ∀ j, j < (bytesV s).length → w.frozen? ⟨g, l.length + j, none⟩ = false := fun j hj => (h.all _ (by rw [bytesV_len] at hj; omega)).2
    have hst := run_storeCells_cells (P := Tryz.prog) g l.length (bytesV s) 0 w (by simpa using hc) (by simpa using hfz) (bytesV_one s)
    rw [hss, strV_bytes] at hf
    refine ⟨g, cap, w.setCells g l.length (bytesV s), ?_, ?_, grown_setCells g _ _ w⟩
    · rw [hll]
      simp [Builtin.append_, run_underlying Tryz.underlying22, run_underlying Tryz.underlying9, sizeOf, typeInfo, hi, hz1, Builtin.lenOf, hss, hroom, hf, Addr.add_lit, hst]
    · have hsz := heap_setCells g (bytesV s) l.length w
      refine ⟨⟨h.row.new, by rw [hsz.1]; exact h.row.there, by rw [hll]; exact hroom, h.row.most, ?_, ?_⟩, ?_⟩
      · intro j hj
        rw [hll] at hj
        by_cases hjl : j < l.length
        · rw [World.cell?_setCells_out g (bytesV s) l.length w _ (fun i _ => by simp; omega), h.row.cells j hjl, List.getElem_append_left hjl]
        · have hj2 : j - l.length < (bytesV s).length := by rw [bytesV_len]; omega
          have := World.cell?_setCells_in g (bytesV s) l.length w hc (j - l.length) hj2
          rw [show l.length + (j - l.length) = j by omega] at this
          rw [this, List.getElem_append_right (by omega)]
          simp [bytesV]
      · intro j hj
        rw [World.frozen?_setCells]
        exact (h.all j (by omega)).2
      · intro j hj
        rw [World.frozen?_setCells]
        refine ⟨?_, (h.all j hj).2⟩
        by_cases hin : l.length ≤ j ∧ j < l.length + s.length
        · have hj2 : j - l.length < (bytesV s).length := by rw [bytesV_len]; omega
          have := World.cell?_setCells_in g (bytesV s) l.length w hc (j - l.length) hj2
          rw [show l.length + (j - l.length) = j by omega] at this
          rw [this]; rfl
        · rw [World.cell?_setCells_out g (bytesV s) l.length w _ (fun _ _ => by rw [bytesV_len]; simp; omega)]
          exact (h.all j hj).1
  · have holds : ∀ j u, (bytesV l)[j]? = some u → w.cell? ((⟨g, 0, none⟩ : Addr).add j) = some u := by
      intro j u hu
      obtain ⟨hj, rfl⟩ := bytesV_at _ _ _ hu
      rw [show (⟨g, 0, none⟩ : Addr).add j = ⟨g, j, none⟩ by unfold Addr.add; split <;> simp_all]
      exact h.row.cells j hj
    have hr := Lib.run_append_grow_string (P := Tryz.prog) w 22 9 ty 5 i0 (.int .u8 0) Tryz.underlying22 Tryz.underlying9 hi hz0 ⟨g, 0, none⟩ l.length cap (bytesV l) (by rw [bytesV_len, hz1]; omega) holds ⟨s.toArray⟩ (by rw [hss]; omega) (by rw [hss]; omega) (by rw [hss, hz2, Nat.mul_one]; exact (by have := growslice_fits (need := l.length + s.length) (old := cap) (bytes := 1) (by omega) (by omega); simpa using this))
    rw [hss, strV_bytes] at hr
    have hge := grownCap_ge w (l.length + s.length) cap 5
    have hcm := grownCap_le_maxLen w (l.length + s.length) cap 5 (by unfold maxLen; omega)
    generalize grownCap w (l.length + s.length) cap 5 = c at hr hge hcm
    obtain ⟨C, hC⟩ : ∃ C, (bytesV l).toArray ++ (bytesV s).toArray ++ Builtin.zeroCells (Value.int .u8 0).cells (c - (l.length + s.length)) = C := ⟨_, rfl⟩
    rw [hC] at hr
    have hCs : C.size = c := by
      have hz1' : (Value.int IntKind.u8 0).cells.size = 1 := rfl
      rw [← hC]; simp only [Array.size_append, List.size_toArray, size_zeroCells, hz1', bytesV_len]; omega
    have hown : (w.drew.alloc (.cells C 5)).ownsRow base 5 1 (.slice (some ⟨w.heap.size, 0, none⟩) (l ++ s).length c) (l ++ s).length (bytesV (l ++ s)) := by
      refine ⟨by rw [bytesV_len]; omega, Or.inr ⟨w.heap.size, c, C, rfl, hbase, heap_alloc_new w.drew _, by rw [hll]; exact hge, hcm, by omega, ?_⟩⟩
      rw [← hC]
      simp only [Array.toList_append, List.append_assoc]
      rw [← List.append_assoc, bytesV_append, Nat.mul_one, ← bytesV_len (l ++ s)]
      exact List.take_left
    have hB : RowB (w.drew.alloc (.cells C 5)) base w.heap.size c (l ++ s) := by
      obtain ⟨g2, c2, e2, hrow⟩ := RowB.of_own hown (by simp)
      injection e2 with e3 _ e4
      injection e3 with e3
      injection e3 with e3
      subst e3; subst e4
      exact hrow
    refine ⟨w.heap.size, c, _, by rw [hll]; exact hr, ⟨hB, fun j hj => ?_⟩, ?_⟩
    · have hA : (w.drew.alloc (.cells C 5)).heap[w.heap.size]? = some (.cells C 5) := heap_alloc_new w.drew _
      generalize w.drew.alloc (.cells C 5) = W at hA ⊢
      refine ⟨?_, by simp [World.frozen?, hA]⟩
      simp [World.cell?, hA]
      omega
    · exact ⟨rfl, rfl, rfl, by simp, fun k hk _ => Below.heap_alloc w.drew _ k hk⟩

/-- '[]byte(s)': the new block, its value and its world. -/
theorem RowW.made (w : World) (l : List UInt8) (hl : l.length ≤ 4194304) :
    ∃ cap w', (convert 9 22 (.string ⟨l.toArray⟩)).run Tryz.prog w = .ok (.slice (some ⟨w.heap.size, 0, none⟩) l.length cap) w' ∧ RowW w' w.heap.size w.heap.size cap l ∧ Below w.heap.size w w' := by
  have hconv := run_bytes_of_string (P := Tryz.prog) w 9 22 5 ⟨l.toArray⟩ Tryz.underlying9 Tryz.underlying22 Tryz.underlying5
  have hrow := RowB.made w l (by unfold maxLen; omega)
  have hszs : (⟨l.toArray⟩ : ByteArray).size = l.length := rfl
  rw [hszs] at hconv
  have hge := grownCap_ge w l.length 0 5
  have hCs : (bytesRow ⟨l.toArray⟩ (grownCap w l.length 0 5)).size = grownCap w l.length 0 5 := by simp [bytesRow]; omega
  generalize bytesRow ⟨l.toArray⟩ (grownCap w l.length 0 5) = C at hconv hrow hCs
  generalize grownCap w l.length 0 5 = cp at hconv hrow hge hCs
  refine ⟨cp, _, hconv, ⟨hrow, fun j hj => ?_⟩, ((Below.refl _ w).drew).alloc (Nat.le_refl _) _⟩
  have hA : (w.drew.alloc (.cells C 5 (C.size, C.size + 1))).heap[w.heap.size]? = some (.cells C 5 (C.size, C.size + 1)) := heap_alloc_new w.drew _
  generalize w.drew.alloc (.cells C 5 (C.size, C.size + 1)) = W at hA ⊢
  refine ⟨?_, ?_⟩
  · simp [World.cell?, hA]; omega
  · simp [World.frozen?, hA]; omega

/-- 'append(b, s...)' at a step of a region that draws. -/
theorem step_append_str {P : Program} {w w' : World} {ops : Array Oper} {o : Oper} {a : Act} {K : Act → World → Prop} {Q : Exit → Act → World → Prop} {E : Prop} (hgd : o.guard = none) (s x : Operand) (t u : TypeId)
    (ho : o.op = .call { callee := .builtin .append, args := #[s, x], argTypes := #[t, u] }) (v y v' : Value) (hs : a.eval s = v) (hx : a.eval x = y)
    (hrun : (Builtin.append_ #[t, u] o.type #[v, y]).run P w = .ok v' w') (h : K (a.put o.dst v') w') :
    if Region.wanted o (yielded ops a.tmps) = true then Oper.wp P o a w K Q else E := by
  have hw : Region.wanted o (yielded ops a.tmps) = true := by simp [Region.wanted, hgd]
  rw [if_pos hw]
  unfold Oper.wp
  simp [execOp, ho, resolve, invoke, builtin, hs, hx, hrun, Result.andThen]
  exact h

/-- 'append(b, s...)' in a plain region. -/
theorem wpList_append_str {P : Program} {w w' : World} {ops : Array Oper} {rest : List Oper} {o : Oper} {a : Act} {Q : Exit → Act → World → Prop} (hgd : o.guard = none) (s x : Operand) (t u : TypeId)
    (ho : o.op = .call { callee := .builtin .append, args := #[s, x], argTypes := #[t, u] }) (v y v' : Value) (hs : a.eval s = v) (hx : a.eval x = y)
    (hrun : (Builtin.append_ #[t, u] o.type #[v, y]).run P w = .ok v' w') (h : wpList P ops Q rest (a.put o.dst v') w') : wpList P ops Q (o :: rest) a w := by
  refine wpList_plain hgd fun K hK => ?_
  unfold Oper.wp
  simp [execOp, ho, resolve, invoke, builtin, hs, hx, hrun, Result.andThen]
  exact hK _ _ h

end Go.Proofs.YtnhkpncbloojhaaGreatDoor
