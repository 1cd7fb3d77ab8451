/-
  Parts of one proof, one behind the other: Draw8, LessS, NodeK, FnK.
-/
import Derived.Test.YtkjojhkpoooimaaGreatP32
import Derived.Test.YtkjojhkpoooimaaGreatP16
import Derived.Test.YtkjojhkpoooimaaGreatP8
import Derived.Test.YtkjojhkpoooimaaGreatP5
import Derived.Test.YtkjojhkpoooimaaGreatP30
import Derived.Maps.AppendAt
import Derived.Test.YtkjojhkpoooimaaGreatP2

/-! What l8Draw holds. -/
namespace Go.Proofs.YtkjojhkpoooimaaGreat
open Go.RowKit

/-- A package whose rows lie between two blocks (whether its trees lie apart is not said). -/
structure PvLo (w : World) (y : PV) : Prop where
  im : w.ownsRow y.lo 9 1 (pvI y) y.ims.length (strV y.ims)
  fo : FnsOwn w y.lo (pvF y) y.xs
  top : ∀ k, PkBlocks (pvI y) (pvF y) y.xs k → k < y.hi
theorem PvLo.wrote {w w' : World} {y : PV} (h : PvLo w y) {S : Nat → Prop} (hw : Wrote w w' S) (hs : ∀ k, S k → k < y.lo ∨ y.hi ≤ k) : PvLo w' y := by
  have hoff : ∀ {e size n : Nat} {v : Value} {zs : List Value}, w.ownsRow y.lo e size v n zs → (∀ k, v.ownBlock = some k → k < y.hi) → w'.ownsRow y.lo e size v n zs := fun ho ht => own_wrote ho hw (fun k hk hS => by
    have h1 := (ho.lt k hk).1
    have h2 := ht k hk
    rcases hs k hS with h3 | h3 <;> omega)
  exact ⟨hoff h.im (fun k e => h.top k (Or.inl e)), ⟨hoff h.fo.row (fun k e => h.top k (Or.inr (Or.inl e))), fun x hx => hoff (h.fo.trees x hx) (fun k e => h.top k (Or.inr (Or.inr ⟨x, hx, e⟩)))⟩, h.top⟩
theorem PvLo.below {w w' : World} {y : PV} (h : PvLo w y) (hb : Below w.heap.size w w') : PvLo w' y := h.wrote (S := fun _ => False) (Wrote.of_below hb) (fun _ e => e.elim)

/-- A drawn package. -/
structure Pv8 (w : World) (y : PV) : Prop where
  ok : PvLo w y
  sm : DrawnXs y.xs
  n : 1 ≤ y.xs.length ∧ y.xs.length ≤ 3
  nm : y.nm.length ≤ 9
  im : y.ims.length ≤ 8 ∧ ∀ t ∈ y.ims, t.length ≤ 9
  sa : ∃ g, y.ia = some ⟨g, 0, none⟩

/-- The names (at N), the packages so far, the calls that are known; all of it lies below L. -/
structure D8 (X w : World) (B : Nat) (a : Option Addr) (len cap N L : Nat) (la : Option Addr) (lc : Nat) (ys : List PV) (vc : Value) (cs : List Nd) : Prop where
  nms : X.ownsRow w.heap.size 9 1 (.slice (some ⟨N, 0, none⟩) 3 3) 3 (strV [[97], [98], [99]])
  row : X.ownsRow w.heap.size 30 3 (.slice la ys.length lc) ys.length (pvsV ys)
  cal : X.ownsRow w.heap.size 46 4 vc cs.length (nodesV cs)
  each : ∀ y ∈ ys, Pv8 X y ∧ w.heap.size ≤ y.lo ∧ y.hi ≤ L
  seq : ys.Pairwise (fun a b => a.hi ≤ b.lo)
  nl : N < L
  rl : ∀ k, (Value.slice la ys.length lc).ownBlock = some k → k < L
  cl : ∀ k, vc.ownBlock = some k → k < L ∧ ∀ y ∈ ys, k < y.lo ∨ y.hi ≤ k
  csm : SmallT cs ∧ ∀ n ∈ cs, kidsV n ≤ 3
  cur : Cur X B a len cap
  g : w.grownBy X (some B)
  br : B < w.heap.size
  wl : w.heap.size ≤ L
  ls : L ≤ X.heap.size

section
variable {X Y w : World} {B : Nat} {a : Option Addr} {len cap N L : Nat} {la : Option Addr} {lc : Nat} {ys : List PV} {vc : Value} {cs : List Nd}

theorem D8.wrote (h : D8 X w B a len cap N L la lc ys vc cs) {S : Nat → Prop} (hw : Wrote X Y S) (hs : ∀ k, S k → k = B ∨ L ≤ k) (hc : Cur Y B a len cap) : D8 Y w B a len cap N L la lc ys vc cs := by
  have hbr := h.br
  have hwl := h.wl
  have hoff : ∀ {e size n : Nat} {v : Value} {zs : List Value}, X.ownsRow w.heap.size e size v n zs → (∀ k, v.ownBlock = some k → k < L) → Y.ownsRow w.heap.size e size v n zs := fun ho ht => own_wrote ho hw (fun k hk hS => by
    have h1 := (ho.lt k hk).1
    have h2 := ht k hk
    rcases hs k hS with h3 | h3 <;> omega)
  refine ⟨hoff h.nms (fun k e => ?_), hoff h.row h.rl, hoff h.cal (fun k e => (h.cl k e).1), fun y hy => ?_, h.seq, h.nl, h.rl, h.cl, h.csm, hc, ?_, hbr, hwl, Nat.le_trans h.ls hw.size⟩
  · have e2 : N = k := by simpa [Value.ownBlock] using e
    have := h.nl
    omega
  · obtain ⟨h1, h2, h3⟩ := h.each y hy
    exact ⟨⟨h1.ok.wrote hw (fun k hS => by rcases hs k hS with h4 | h4 <;> omega), h1.sm, h1.n, h1.nm, h1.im, h1.sa⟩, h2, h3⟩
  · have hg := h.g
    exact ⟨hw.os.trans hg.os, hw.tape.trans hg.tape, hw.output.trans hg.output, Nat.le_trans hg.size hw.size, fun k hk hne => (hw.block k (Nat.lt_of_lt_of_le hk hg.size) (fun hS => by
      rcases hs k hS with h4 | h4
      · exact hne (by rw [h4])
      · omega)).trans (hg.block k hk hne)⟩
theorem D8.next (h : D8 X w B a len cap N L la lc ys vc cs) (hg : X.grownBy Y (some B)) (hc : Cur Y B a len cap) : D8 Y w B a len cap N L la lc ys vc cs :=
  h.wrote (S := fun k => k = B) (Wrote.of_grown hg (fun k e => by injection e with e; exact e.symm)) (fun k e => Or.inl e) hc
theorem D8.below (h : D8 X w B a len cap N L la lc ys vc cs) (hb : Below X.heap.size X Y) : D8 Y w B a len cap N L la lc ys vc cs :=
  h.wrote (S := fun _ => False) (Wrote.of_below hb) (fun _ e => e.elim) (h.cur.below hb)
theorem D8.upper (h : D8 X w B a len cap N L la lc ys vc cs) {row : Option Nat} (hg : X.grownBy Y row) (hr : ∀ k, row = some k → L ≤ k) : D8 Y w B a len cap N L la lc ys vc cs :=
  h.wrote (S := fun k => L ≤ k) (Wrote.of_grown hg hr) (fun k e => Or.inr e) (h.cur.kept hg (fun k e => by have := hr k e; have := h.br; have := h.wl; omega))
theorem D8.raise (h : D8 X w B a len cap N L la lc ys vc cs) {L' : Nat} (h1 : L ≤ L') (h2 : L' ≤ X.heap.size) : D8 X w B a len cap N L' la lc ys vc cs :=
  ⟨h.nms, h.row, h.cal, fun y hy => ⟨(h.each y hy).1, (h.each y hy).2.1, Nat.le_trans (h.each y hy).2.2 h1⟩, h.seq, Nat.lt_of_lt_of_le h.nl h1, fun k e => Nat.lt_of_lt_of_le (h.rl k e) h1, fun k e => ⟨Nat.lt_of_lt_of_le (h.cl k e).1 h1, (h.cl k e).2⟩, h.csm, h.cur, h.g, h.br, Nat.le_trans h.wl h1, h2⟩

/-- A new block of one package, as 'append' reads it. -/
theorem new_pk (W : World) (y : PV) (c : Nat) : Src (W.alloc (.cells #[.string ⟨y.nm.toArray⟩, pvI y, pvF y] 30)) (.slice (some ⟨W.heap.size, 0, none⟩) 1 c) 1 3 (pvsV [y]) := by
  refine ⟨rfl, fun u hu => ?_, Or.inr ⟨_, c, rfl, fun j u hu => ?_⟩⟩
  · simp only [pvsV, List.mem_cons, List.not_mem_nil, or_false] at hu
    rcases hu with rfl | rfl | rfl <;> rfl
  · rw [add_plain, Nat.zero_add]
    match j, hu with
    | 0, hu => simp [pvsV] at hu; subst hu; simp
    | 1, hu => simp [pvsV] at hu; subst hu; simp
    | 2, hu => simp [pvsV] at hu; subst hu; simp
    | j + 3, hu => simp [pvsV] at hu
theorem pvsV_append (x y : List PV) : pvsV (x ++ y) = pvsV x ++ pvsV y := by
  induction x with
  | nil => rfl
  | cons n r ih => simp [pvsV, ih]
/-- A package is put behind the others. -/
theorem D8.push (h : D8 X w B a len cap N L la lc ys vc cs) (y : PV) (hy : Pv8 X y) (h0 : w.heap.size ≤ y.lo) (h1 : ∀ z ∈ ys, z.hi ≤ y.lo) (h2 : y.hi ≤ X.heap.size) (hn : ys.length ≤ 8) (hc2 : ∀ k, vc.ownBlock = some k → k < y.lo ∨ y.hi ≤ k) :
    ∃ g' c' Y, (Builtin.append_ #[37, 37] 37 #[.slice la ys.length lc, .slice (some ⟨X.heap.size, 0, none⟩) 1 1]).run Tryz.prog (X.alloc (.cells #[.string ⟨y.nm.toArray⟩, pvI y, pvF y] 30)) = .ok (.slice (some ⟨g', 0, none⟩) (ys.length + 1) c') Y ∧
      D8 Y w B a len cap N Y.heap.size (some ⟨g', 0, none⟩) c' (ys ++ [y]) vc cs := by
  obtain ⟨i0, hi, hz0, hz1, hz2⟩ := info_parts infoPackage
  have hX1 : Below X.heap.size X (X.alloc (.cells #[.string ⟨y.nm.toArray⟩, pvI y, pvF y] 30)) := (Below.refl _ _).alloc (Nat.le_refl _) _
  have hd := h.below hX1
  have hyo := hy.ok.below hX1
  obtain ⟨v', Y, hrun, hown, hg, _⟩ := run_append_src (P := Tryz.prog) (X.alloc (.cells #[.string ⟨y.nm.toArray⟩, pvI y, pvF y] 30)) w.heap.size 37 37 30 i0 _ 3 64 Tryz.underlying37 hi hz0 hz1 hz2 rfl (by decide) _ _ _ hd.row _ 1 (pvsV [y]) (new_pk X y 1) (by unfold maxLen; omega) (by omega) hd.g.size
  obtain ⟨g', c', rfl⟩ := own_some hown (by omega)
  have e1 : (ys ++ [y]).length = ys.length + 1 := by simp
  have hwl := h.wl
  have hls := h.ls
  have hys := hg.size
  refine ⟨g', c', Y, hrun, ?_⟩
  have hrowB : ∀ k, (Value.slice la ys.length lc).ownBlock = some k → w.heap.size ≤ k ∧ k < L := fun k e => ⟨(hd.row.lt k e).1, h.rl k e⟩
  have hW : Wrote (X.alloc (.cells #[.string ⟨y.nm.toArray⟩, pvI y, pvF y] 30)) Y (fun k => (Value.slice la ys.length lc).ownBlock = some k) := Wrote.of_grown hg (fun k e => e)
  have hkeep : ∀ {z : PV}, PvLo (X.alloc (.cells #[.string ⟨y.nm.toArray⟩, pvI y, pvF y] 30)) z → PvLo Y z := fun hz =>
    ⟨hz.im.kept hg (own_types hz.im hd.row (by decide)), hz.fo.kept hg (own_types hz.fo.row hd.row (by decide)) (fun x hx => own_types (hz.fo.trees x hx) hd.row (by decide)), hz.top⟩
  refine ⟨hd.nms.kept hg (own_types hd.nms hd.row (by decide)), ?_, hd.cal.kept hg (own_types hd.cal hd.row (by decide)), fun z hz => ?_, List.pairwise_append.2 ⟨h.seq, List.pairwise_singleton _ _, fun z hz q hq => ?_⟩, ?_, fun k e => ?_, fun k e => ⟨?_, fun z hz => ?_⟩, h.csm, hd.cur.kept hg (fun k e => by have := (hrowB k e).1; have := h.br; omega), ?_, h.br, Nat.le_trans hd.g.size hys, Nat.le_refl _⟩
  · rw [e1, pvsV_append]; exact hown
  · rw [List.mem_append, List.mem_singleton] at hz
    have hsz : X.heap.size ≤ Y.heap.size := Nat.le_trans hX1.size hys
    rcases hz with hz | rfl
    · obtain ⟨h3, h4, h5⟩ := hd.each z hz
      exact ⟨⟨hkeep h3.ok, h3.sm, h3.n, h3.nm, h3.im, h3.sa⟩, h4, by omega⟩
    · exact ⟨⟨hkeep hyo, hy.sm, hy.n, hy.nm, hy.im, hy.sa⟩, by omega, by omega⟩
  · rw [List.mem_singleton] at hq
    subst hq
    exact h1 z hz
  · have := h.nl; have := hX1.size; omega
  · exact ((show Y.ownsRow w.heap.size 30 3 (.slice (some ⟨g', 0, none⟩) (ys.length + 1) c') (ys.length + 1) _ from hown).lt k (by rw [← e1]; exact e)).2
  · have := (h.cl k e).1; have := hX1.size; omega
  · rw [List.mem_append, List.mem_singleton] at hz
    rcases hz with hz | rfl
    · exact (h.cl k e).2 z hz
    · exact hc2 k e
  · have hgw := hd.g
    exact ⟨hg.os.trans hgw.os, hg.tape.trans hgw.tape, hg.output.trans hgw.output, Nat.le_trans hgw.size hg.size, fun k hk hne => (hg.block k (Nat.lt_of_lt_of_le hk hgw.size) (fun e => by have := (hrowB k e.symm).1; omega)).trans (hgw.block k hk hne)⟩
/-- A call is put behind the others; what lies off the calls' row stays. -/
theorem D8.call (h : D8 X w B a len cap N L la lc ys vc cs) (n : Nd) (hn : SmallN n) (hk : kidsV n ≤ 3) (hc : cs.length ≤ 1000) :
    ∃ v' Y, (Builtin.append_ #[24, 24] 24 #[vc, .slice (some ⟨X.heap.size, 0, none⟩) 1 1]).run Tryz.prog (X.alloc (.cells #[.int .i64 n.1, .int .i64 n.2.1, .string ⟨n.2.2.1.toArray⟩, .string ⟨n.2.2.2.toArray⟩] 46)) = .ok v' Y ∧
      D8 Y w B a len cap N Y.heap.size la lc ys v' (cs ++ [n]) ∧ X.grownBy Y vc.ownBlock ∧ (v'.ownBlock = vc.ownBlock ∨ v'.ownBlock = some (X.heap.size + 1)) := by
  obtain ⟨i0, hi, hz0, hz1, hz2⟩ := info_parts infoNode
  obtain ⟨W, hW⟩ : ∃ W, X.alloc (.cells #[.int .i64 n.1, .int .i64 n.2.1, .string ⟨n.2.2.1.toArray⟩, .string ⟨n.2.2.2.toArray⟩] 46) = W := ⟨_, rfl⟩
  have hX1 : Below X.heap.size X W := by rw [← hW]; exact (Below.refl _ _).alloc (Nat.le_refl _) _
  have hgX : X.grownBy W vc.ownBlock := by rw [← hW]; exact World.grownBy_alloc X _ _
  have hsW : W.heap.size = X.heap.size + 1 := by rw [← hW]; simp
  have hnew := new_node X n
  rw [hW] at hnew ⊢
  have hd := h.below hX1
  obtain ⟨v', Y, hrun, hown, hg, _, hat⟩ := run_append_own_at (P := Tryz.prog) W w.heap.size 24 24 46 i0 _ 4 48 Tryz.underlying24 hi hz0 hz1 hz2 rfl (by decide) _ _ _ hd.cal ⟨X.heap.size, 0, none⟩ 1 1 (nodesV [n]) (by rw [nodesV_len]; rfl) hnew (nodesV_one _) (by unfold maxLen; omega) (by omega) hd.g.size
  have e1 : (cs ++ [n]).length = cs.length + 1 := by simp
  have hown2 : Y.ownsRow w.heap.size 46 4 v' (cs ++ [n]).length (nodesV (cs ++ [n])) := by
    rw [e1, nodesV_append]; exact hown
  have hvB : ∀ k, vc.ownBlock = some k → w.heap.size ≤ k ∧ k < L := fun k e => ⟨(hd.cal.lt k e).1, (h.cl k e).1⟩
  have hwl := h.wl
  have hls := h.ls
  have hgs := hg.size
  have hbr := h.br
  have hWr : Wrote W Y (fun k => vc.ownBlock = some k) := Wrote.of_grown hg (fun k e => e)
  refine ⟨v', Y, hrun, ⟨hd.nms.kept hg (own_types hd.nms hd.cal (by decide)), hd.row.kept hg (own_types hd.row hd.cal (by decide)), hown2, fun z hz => ?_, h.seq, by have := h.nl; omega, fun k e => by have := h.rl k e; omega, fun k e => ⟨(hown2.lt k e).2, fun z hz => ?_⟩, ⟨small_app h.csm.1 (fun m hm => by rw [List.mem_singleton] at hm; subst hm; exact hn), fun m hm => ?_⟩, hd.cur.kept hg (fun k e => by have := (hvB k e).1; omega), ?_, hbr, by omega, Nat.le_refl _⟩, hgX.trans hg, by rw [hsW] at hat; exact hat⟩
  · obtain ⟨h3, h4, h5⟩ := hd.each z hz
    exact ⟨⟨h3.ok.wrote hWr (fun k e => (h.cl k e).2 z hz), h3.sm, h3.n, h3.nm, h3.im, h3.sa⟩, h4, by omega⟩
  · rcases hat with e2 | e2
    · exact (h.cl k (by rw [← e2]; exact e)).2 z hz
    · rw [e2] at e
      injection e with e
      have := (h.each z hz).2.2
      right; omega
  · rw [List.mem_append, List.mem_singleton] at hm
    rcases hm with hm | rfl
    · exact h.csm.2 m hm
    · exact hk
  · have hgw := hd.g
    exact ⟨hg.os.trans hgw.os, hg.tape.trans hgw.tape, hg.output.trans hgw.output, Nat.le_trans hgw.size hg.size, fun k hk hne => (hg.block k (Nat.lt_of_lt_of_le hk hgw.size) (fun e => by have := (hvB k e.symm).1; omega)).trans (hgw.block k hk hne)⟩
end

/-- What a round of l8Draw holds besides: the imports and the calls of its package. -/
structure I8 (X : World) (L : Nat) (vi : Value) (ims : List (List UInt8)) (vo : Value) (os : List Nd) : Prop where
  im : X.ownsRow L 9 1 vi ims.length (strV ims)
  ow : X.ownsRow L 46 4 vo os.length (nodesV os)
  is : ∀ t ∈ ims, t.length ≤ 9
  osm : SmallT os ∧ ∀ n ∈ os, kidsV n ≤ 3
  so : ∃ g c, vi = .slice (some ⟨g, 0, none⟩) ims.length c
theorem I8.below {X Y : World} {L : Nat} {vi : Value} {ims : List (List UInt8)} {vo : Value} {os : List Nd} (h : I8 X L vi ims vo os) (hb : Below X.heap.size X Y) : I8 Y L vi ims vo os := ⟨own_below h.im hb, own_below h.ow hb, h.is, h.osm, h.so⟩
theorem I8.next {X Y : World} {L B : Nat} {vi : Value} {ims : List (List UInt8)} {vo : Value} {os : List Nd} (h : I8 X L vi ims vo os) (hg : X.grownBy Y (some B)) (hB : B < L) : I8 Y L vi ims vo os :=
  ⟨own_grown h.im hg (fun k e => by injection e with e; omega), own_grown h.ow hg (fun k e => by injection e with e; omega), h.is, h.osm, h.so⟩
/-- An import more. -/
theorem I8.imp {X : World} {L : Nat} {vi : Value} {ims : List (List UInt8)} {vo : Value} {os : List Nd} (h : I8 X L vi ims vo os) (x : List UInt8) (hx : x.length ≤ 9) (hL : L ≤ X.heap.size) (hn : ims.length ≤ 100) :
    ∃ v' Y, (Builtin.append_ #[27, 27] 27 #[vi, .slice (some ⟨X.heap.size, 0, none⟩) 1 1]).run Tryz.prog (X.alloc (.cells #[.string ⟨x.toArray⟩] 9)) = .ok v' Y ∧ I8 Y L v' (ims ++ [x]) vo os ∧ X.grownBy Y vi.ownBlock := by
  obtain ⟨v', Y, hrun, hv', hg⟩ := push_text x h.im hL (by omega)
  refine ⟨v', Y, hrun, ⟨by rw [List.length_append, List.length_singleton]; exact hv', h.ow.kept hg (own_types h.ow h.im (by decide)), fun t ht => ?_, h.osm, by rw [List.length_append, List.length_singleton]; exact own_some hv' (by omega)⟩, hg⟩
  rw [List.mem_append, List.mem_singleton] at ht
  rcases ht with ht | rfl
  · exact h.is t ht
  · exact hx
/-- A call more. -/
theorem I8.node {X : World} {L : Nat} {vi : Value} {ims : List (List UInt8)} {vo : Value} {os : List Nd} (h : I8 X L vi ims vo os) (n : Nd) (hsn : SmallN n) (hk : kidsV n ≤ 3) (hL : L ≤ X.heap.size) (hn : os.length ≤ 1000) :
    ∃ v' Y, (Builtin.append_ #[24, 24] 24 #[vo, .slice (some ⟨X.heap.size, 0, none⟩) 1 1]).run Tryz.prog (X.alloc (.cells #[.int .i64 n.1, .int .i64 n.2.1, .string ⟨n.2.2.1.toArray⟩, .string ⟨n.2.2.2.toArray⟩] 46)) = .ok v' Y ∧ I8 Y L vi ims v' (os ++ [n]) ∧ X.grownBy Y vo.ownBlock := by
  obtain ⟨i0, hi, hz0, hz1, hz2⟩ := info_parts infoNode
  obtain ⟨W, hW⟩ : ∃ W, X.alloc (.cells #[.int .i64 n.1, .int .i64 n.2.1, .string ⟨n.2.2.1.toArray⟩, .string ⟨n.2.2.2.toArray⟩] 46) = W := ⟨_, rfl⟩
  have hX1 : Below X.heap.size X W := by rw [← hW]; exact (Below.refl _ _).alloc (Nat.le_refl _) _
  have hgX : X.grownBy W vo.ownBlock := by rw [← hW]; exact World.grownBy_alloc X _ _
  have hnew := new_node X n
  rw [hW] at hnew ⊢
  have hd := h.below hX1
  obtain ⟨v', Y, hrun, hown, hg, _, _⟩ := run_append_own_at (P := Tryz.prog) W L 24 24 46 i0 _ 4 48 Tryz.underlying24 hi hz0 hz1 hz2 rfl (by decide) _ _ _ hd.ow ⟨X.heap.size, 0, none⟩ 1 1 (nodesV [n]) (by rw [nodesV_len]; rfl) hnew (nodesV_one _) (by unfold maxLen; omega) (by omega) (Nat.le_trans hL hX1.size)
  refine ⟨v', Y, hrun, ⟨hd.im.kept hg (own_types hd.im hd.ow (by decide)), by rw [List.length_append, List.length_singleton, nodesV_append]; exact hown, h.is, ⟨small_app h.osm.1 (fun m hm => by rw [List.mem_singleton] at hm; subst hm; exact hsn), fun m hm => ?_⟩, h.so⟩, hgX.trans hg⟩
  rw [List.mem_append, List.mem_singleton] at hm
  rcases hm with hm | rfl
  · exact h.osm.2 m hm
  · exact hk

end Go.Proofs.YtkjojhkpoooimaaGreat

/-! What holds while nothing but a block is written; packages put one behind the other. -/
namespace Go.Proofs.YtkjojhkpoooimaaGreat
open Go.RowKit

/-- What holds in every world in which nothing but one block was written. -/
def St (w : World) (T : Option Nat) (P : World → Prop) : Prop := ∀ w', Wrote w w' (fun k => T = some k) → P w'
/-- A package as it lies in a row. -/
def PkAt (W : World) (y : PV) (p : Pk) : Prop := y.nm = p.1 ∧ PkOk W p.1 y.ia y.ims.length y.ic y.fa y.xs.length y.fc p.2.1 p.2.2

theorem push_pv {X : World} {B n : Nat} {v : Value} {ys : List PV} (y : PV) (hv : X.ownsRow B 30 3 v n (pvsV ys)) (hb : B ≤ X.heap.size) (hn : n ≤ 1048576) :
    ∃ v' Y, (Builtin.append_ #[37, 37] 37 #[v, .slice (some ⟨X.heap.size, 0, none⟩) 1 1]).run Tryz.prog (X.alloc (.cells #[.string ⟨y.nm.toArray⟩, pvI y, pvF y] 30)) = .ok v' Y ∧ Y.ownsRow B 30 3 v' (n + 1) (pvsV (ys ++ [y])) ∧ Wrote X Y (fun k => v.ownBlock = some k) ∧ (∀ k, v'.ownBlock = some k → v.ownBlock = some k ∨ X.heap.size ≤ k) := by
  obtain ⟨i0, hi, hz0, hz1, hz2⟩ := info_parts infoPackage
  obtain ⟨hl, h1, ⟨e, _⟩ | ⟨ad, c, e, hc⟩⟩ := new_pk X y 1
  · cases e
  · injection e with e1 _ e3
    injection e1 with e1
    subst e1 e3
    obtain ⟨v', Y, hrun, hown, hg, _, hat⟩ := run_append_own_at (P := Tryz.prog) (X.alloc (.cells #[.string ⟨y.nm.toArray⟩, pvI y, pvF y] 30)) B 37 37 30 i0 _ 3 64 Tryz.underlying37 hi hz0 hz1 hz2 rfl (by decide) _ _ _ (hv.alloc _) ⟨X.heap.size, 0, none⟩ 1 1 (pvsV [y]) hl hc h1 (by unfold maxLen; omega) (by omega) (by simp; omega)
    refine ⟨v', Y, hrun, by rw [pvsV_append]; exact hown, Wrote.of_grown ((World.grownBy_alloc X _ _).trans hg) (fun k e => e), fun k e => ?_⟩
    rcases hat with h | h
    · exact Or.inl (h.symm.trans e)
    · right
      rw [h] at e
      injection e with e
      simp at e
      omega

end Go.Proofs.YtkjojhkpoooimaaGreat

/-! likeTree: two rows of nodes compared node by node. -/
namespace Go.Proofs.YtkjojhkpoooimaaGreat
open Go.RowKit

set_option maxHeartbeats 2000000 in
set_option maxRecDepth 100000 in
theorem likeTreeC (a b : Option Addr) (len ca cb : Nat) (ns : List Nd) (w : World) (ha : NodesIn w a len ns) (hb : NodesIn w b len ns) (hlen : len ≤ 4194304) :
    Calls Tryz.prog 9 #[.slice a len ca, .slice b len cb] w fun e w' => e = .returned (.bool true) ∧ Below w.heap.size w w' := by
  have hlb := ha.1
  have HA : Hid (NodesIn w a len ns) := ha
  have HB : Hid (NodesIn w b len ns) := hb
  clear ha hb
  have hi : ∀ n : Int, (n == n) = true := by simp
  have hs : ∀ l : List UInt8, (l == l) = true := by simp
  have h1 : ∀ n : Int, (n != n) = false := by simp
  go_enter Tryz.func9, Tryz.ntmps9
  go_wp2
  go_loopw [5] (fun i wr => ∃ k : Nat, k ≤ len ∧ i = .int .i64 k ∧ Below w.heap.size w wr) (fun i _ => len - (intOf i).toNat)
  case atStart => exact ⟨0, Nat.zero_le _, rfl, Below.refl _ _⟩
  case round =>
    obtain ⟨k, hk, rfl, hB⟩ := hrel
    by_cases hkl : (k : Int) < (len : Int)
    · obtain ⟨b1, o1, rfl, hb1, hc1⟩ := (HA.out.below hB).at (by omega)
      obtain ⟨b2, o2, rfl, hb2, hc2⟩ := (HB.out.below hB).at (by omega)
      obtain ⟨x0, x1, x2, x3⟩ := hc1 k (by omega)
      obtain ⟨y0, y1, y2, y3⟩ := hc2 k (by omega)
      obtain ⟨x, hx⟩ : ∃ x, ns.getD k nd0 = x := ⟨_, rfl⟩
      rw [hx] at x0 x1 x2 x3 y0 y1 y2 y3
      obtain ⟨kd, aa, p, f⟩ := x
      simp only at x0 x1 x2 x3 y0 y1 y2 y3
      clear hx hc1 hc2
      go_wp2
      go_region
      all_goals (try go_wp2)
      go_roundw
      case rel => exact ⟨k + 1, by omega, by go_num, hB.grown (grown_drew _ none) hB.size (by simp)⟩
      case measure => simp [intOf]; omega
    · go_wp2
      go_ret
      exact ⟨rfl, hB⟩

end Go.Proofs.YtkjojhkpoooimaaGreat

/-! The laws' own helpers over functions and packages: likeTexts over texts that can be read, likeFunc, likePackage. -/
namespace Go.Proofs.YtkjojhkpoooimaaGreat
open Go.RowKit

set_option maxHeartbeats 1000000 in
set_option maxRecDepth 100000 in
theorem likeTextsC (a b : Option Addr) (len ca cb : Nat) (ts : List (List UInt8)) (w : World) (ha : TextsIn w a len ts) (hb : TextsIn w b len ts) (hlen : len ≤ 4194304) :
    Calls Tryz.prog 28 #[.slice a len ca, .slice b len cb] w fun e w' => e = .returned (.bool true) ∧ Below w.heap.size w w' := by
  have hne : ((len : Int) != (len : Int)) = false := by simp
  have hself : ∀ l : List UInt8, (l != l) = false := by simp
  have HA : Hid (TextsIn w a len ts) := ha
  have HB : Hid (TextsIn w b len ts) := hb
  clear ha hb
  go_enter Tryz.func28, Tryz.ntmps28
  go_wp2
  go_loopw [5] (fun i wr => ∃ k : Nat, k ≤ len ∧ i = .int .i64 k ∧ Below w.heap.size w wr) (fun i _ => len - (intOf i).toNat)
  case atStart => exact ⟨0, Nat.zero_le _, rfl, Below.refl _ _⟩
  case round =>
    obtain ⟨k, hk, rfl, hB⟩ := hrel
    by_cases hkl : (k : Int) < (len : Int)
    · obtain ⟨b1, o1, rfl, hb1, hca⟩ := (HA.out.below hB).2 k (by omega)
      obtain ⟨b2, o2, rfl, hb2, hcb⟩ := (HB.out.below hB).2 k (by omega)
      obtain ⟨t, ht⟩ : ∃ t, ts.getD k [] = t := ⟨_, rfl⟩
      rw [ht] at hca hcb
      clear ht
      go_wp2
      go_region
      all_goals (try go_wp2)
      go_roundw
      case rel => exact ⟨k + 1, by omega, by go_num, hB.drew⟩
      case measure => simp [intOf]; omega
    · go_wp2
      go_ret
      exact ⟨rfl, hB⟩

set_option maxHeartbeats 1000000 in
set_option maxRecDepth 100000 in
theorem likeFuncC (s : List UInt8) (n : Int) (t : List Nd) (ta tb : Option Addr) (tl ca cb : Nat) (w : World) (ha : NodesIn w ta tl t) (hb : NodesIn w tb tl t) (hlen : tl ≤ 4194304) :
    Calls Tryz.prog 29 #[.agg #[.string ⟨s.toArray⟩, .int .i64 n, .slice ta tl ca], .agg #[.string ⟨s.toArray⟩, .int .i64 n, .slice tb tl cb]] w fun e w' => e = .returned (.bool true) ∧ Below w.heap.size w w' := by
  have h1 : ∀ n : Int, (n == n) = true := by simp
  have h2 : ∀ l : List UInt8, (l == l) = true := by simp
  have hbW : Below w.heap.size w ((w.alloc (.cells #[.string ⟨s.toArray⟩, .int .i64 n, .slice ta tl ca] 52)).alloc (.cells #[.string ⟨s.toArray⟩, .int .i64 n, .slice tb tl cb] 52)) := ((Below.refl _ _).alloc (Nat.le_refl _) _).alloc (by simp) _
  have HC := likeTreeC ta tb tl ca cb t _ (ha.below hbW) (hb.below hbW) hlen
  clear ha hb
  go_enter Tryz.func29, Tryz.ntmps29
  go_wp2_with fail
  refine HC.mono ?_
  rintro e w1 ⟨rfl, hb1⟩
  have hbd : Below w.heap.size w w1 := hbW.trans (hb1.mono hbW.size)
  clear HC hb1 hbW
  go_wp2
  go_ret
  exact ⟨rfl, hbd⟩

set_option maxHeartbeats 4000000 in
set_option maxRecDepth 100000 in
theorem likePackageC (nm : List UInt8) (ia ib fa fb : Option Addr) (il ica icb fl fca fcb : Nat) (ims : List (List UInt8)) (fs : List Fn) (w : World) (hia : TextsIn w ia il ims) (hib : TextsIn w ib il ims) (hfa : FuncsIn w fa fl fs) (hfb : FuncsIn w fb fl fs) (hil : il ≤ 4194304) (hfl : fl ≤ 4194304) (hsh : ∀ j, (fs.getD j fn0).2.2.length ≤ 4194304) :
    Calls Tryz.prog 11 #[.agg #[.string ⟨nm.toArray⟩, .slice ia il ica, .slice fa fl fca], .agg #[.string ⟨nm.toArray⟩, .slice ib il icb, .slice fb fl fcb]] w fun e w' => e = .returned (.bool true) ∧ Below w.heap.size w w' := by
  have h2 : ∀ l : List UInt8, (l != l) = false := by simp
  have h1 : ((fl : Int) != (fl : Int)) = false := by simp
  obtain ⟨sa, hBa⟩ := PkIn.new (w := w) (nm := nm) (ic := ica) (fc := fca) hia hfa
  obtain ⟨W1, hW1⟩ : ∃ W, w.alloc (.cells #[.string ⟨nm.toArray⟩, .slice ia il ica, .slice fa fl fca] 30) = W := ⟨_, rfl⟩
  rw [hW1] at sa hBa
  obtain ⟨sb, hBb⟩ := PkIn.new (w := W1) (nm := nm) (ic := icb) (fc := fcb) (hib.below hBa) (hfb.below hBa)
  obtain ⟨W, hW⟩ : ∃ W, W1.alloc (.cells #[.string ⟨nm.toArray⟩, .slice ib il icb, .slice fb fl fcb] 30) = W := ⟨_, rfl⟩
  rw [hW] at sb hBb
  obtain ⟨D, hD⟩ : ∃ D, w.heap.size = D := ⟨_, rfl⟩
  have hs1 : W1.heap.size = D + 1 := by rw [← hW1, ← hD]; simp
  have sa2 := sa.below hBb
  have hB : Below w.heap.size w W := hBa.trans (hBb.mono hBa.size)
  rw [hs1] at sb
  rw [hD] at sa2 hB
  have HC := likeTextsC ia ib il ica icb ims W sa2.i sb.i hil
  have k0 := sa2.k0
  have k1 := sa2.k1
  have k2 := sa2.k2
  have j0 := sb.k0
  have j1 := sb.k1
  have j2 := sb.k2
  have HSH : Hid (∀ j, (fs.getD j fn0).2.2.length ≤ 4194304) := hsh
  clear hia hib hfa hfb sa hBa hBb hsh
  go_enter Tryz.func11, Tryz.ntmps11
  go_wp2_with fail
  refine HC.mono ?_
  rintro e w1 ⟨rfl, hb1⟩
  have HA : Hid (PkIn w1 D nm ia il ica fa fl fca ims fs) := sa2.below hb1
  have HB : Hid (PkIn w1 (D + 1) nm ib il icb fb fl fcb ims fs) := sb.below hb1
  have hB1 : Below D w w1 := hB.trans (hb1.mono (by have := hB.size; omega))
  have hs1b : D ≤ w1.heap.size := by have := hB1.size; omega
  replace k0 := HA.out.k0
  replace k1 := HA.out.k1
  replace k2 := HA.out.k2
  replace j0 := HB.out.k0
  replace j1 := HB.out.k1
  replace j2 := HB.out.k2
  clear HC hb1 sa2 sb hB
  go_wp2
  go_loopw [5] (fun i wr => ∃ k : Nat, k ≤ fl ∧ i = .int .i64 k ∧ Below w1.heap.size w1 wr) (fun i _ => fl - (intOf i).toNat)
  case atStart => exact ⟨0, Nat.zero_le _, rfl, Below.refl _ _⟩
  case round =>
    obtain ⟨k, hk, rfl, hBr⟩ := hrel
    have ra := HA.out.below hBr
    have rb := HB.out.below hBr
    replace k2 := ra.k2
    replace j2 := rb.k2
    by_cases hkl : (k : Int) < (fl : Int)
    · obtain ⟨b1, o1, rfl, hb1, x0, x1, ta, tl, tc, x2, _, hn1⟩ := ra.f.2 k (by omega)
      obtain ⟨b2, o2, rfl, hb2, y0, y1, tb, tl2, tc2, y2, _, hn2⟩ := rb.f.2 k (by omega)
      have hts := HSH.out k
      obtain ⟨f, hf⟩ : ∃ f, fs.getD k fn0 = f := ⟨_, rfl⟩
      rw [hf] at x0 x1 y0 y1 hn1 hn2 hts
      obtain ⟨s, n, t⟩ := f
      simp only at x0 x1 y0 y1 hn1 hn2 hts
      obtain rfl : t.length = tl := hn1.1
      obtain rfl : t.length = tl2 := hn2.1
      have hn1' : NodesIn wr.drew ta t.length t := hn1.below ⟨rfl, rfl, rfl, Nat.le_refl _, fun _ _ => rfl⟩
      have hn2' : NodesIn wr.drew tb t.length t := hn2.below ⟨rfl, rfl, rfl, Nat.le_refl _, fun _ _ => rfl⟩
      have hDa : D < wr.heap.size := World.block_lt_of_cell? wr ⟨D, 2, none⟩ k2
      have hDb : D + 1 < wr.heap.size := World.block_lt_of_cell? wr ⟨D + 1, 2, none⟩ j2
      clear hf hn1 hn2 ra rb k0 k1 j0 j1
      go_wp2
      go_region_held3 (fun w' => w'.cell? ⟨D, 2, none⟩ = some (.slice (some ⟨b1, o1, none⟩) fl fca) ∧ w'.cell? ⟨D + 1, 2, none⟩ = some (.slice (some ⟨b2, o2, none⟩) fl fcb) ∧ w'.cell? ⟨b1, o1 + k * 3, none⟩ = some (.string ⟨s.toArray⟩) ∧ w'.cell? ⟨b1, o1 + k * 3 + 1, none⟩ = some (.int .i64 n) ∧ w'.cell? ⟨b1, o1 + k * 3 + 2, none⟩ = some (.slice ta t.length tc) ∧ w'.cell? ⟨b2, o2 + k * 3, none⟩ = some (.string ⟨s.toArray⟩) ∧ w'.cell? ⟨b2, o2 + k * 3 + 1, none⟩ = some (.int .i64 n) ∧ w'.cell? ⟨b2, o2 + k * 3 + 2, none⟩ = some (.slice tb t.length tc2)) (go_keep) (first | (go_at_call 29; refine (likeFuncC s n t ta tb t.length tc tc2 _ hn1' hn2' hts).mono ?_; rintro e w2 ⟨rfl, hw1⟩; have c2 := (hw1.cell (p := ⟨D, 2, none⟩) hDa).trans k2; have c3 := (hw1.cell (p := ⟨D + 1, 2, none⟩) hDb).trans j2; have d0 : w2.cell? ⟨b1, o1 + k * 3, none⟩ = some (.string ⟨s.toArray⟩) := (hw1.cell (p := ⟨b1, o1 + k * 3, none⟩) hb1).trans x0; have d1 : w2.cell? ⟨b1, o1 + k * 3 + 1, none⟩ = some (.int .i64 n) := (hw1.cell (p := ⟨b1, o1 + k * 3 + 1, none⟩) hb1).trans x1; have d2 : w2.cell? ⟨b1, o1 + k * 3 + 2, none⟩ = some (.slice ta t.length tc) := (hw1.cell (p := ⟨b1, o1 + k * 3 + 2, none⟩) hb1).trans x2; have e0 : w2.cell? ⟨b2, o2 + k * 3, none⟩ = some (.string ⟨s.toArray⟩) := (hw1.cell (p := ⟨b2, o2 + k * 3, none⟩) hb2).trans y0; have e1 : w2.cell? ⟨b2, o2 + k * 3 + 1, none⟩ = some (.int .i64 n) := (hw1.cell (p := ⟨b2, o2 + k * 3 + 1, none⟩) hb2).trans y1; have e2 : w2.cell? ⟨b2, o2 + k * 3 + 2, none⟩ = some (.slice tb t.length tc2) := (hw1.cell (p := ⟨b2, o2 + k * 3 + 2, none⟩) hb2).trans y2))
      all_goals go_wp2
      go_roundw
      case rel => exact ⟨k + 1, by omega, by go_num, hBr.trans ⟨hw1.os, hw1.tape, hw1.output, hw1.size, fun q hq => hw1.block q (by have := hBr.size; show q < wr.heap.size; omega)⟩⟩
      case measure => simp [intOf]; omega
    · go_wp2
      go_ret
      exact ⟨rfl, by first | exact hB1.trans (hBr.mono hs1b) | (rw [hD]; exact hB1.trans (hBr.mono hs1b))⟩

end Go.Proofs.YtkjojhkpoooimaaGreat
