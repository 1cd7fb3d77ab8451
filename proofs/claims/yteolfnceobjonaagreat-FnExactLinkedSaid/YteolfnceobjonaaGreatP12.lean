/-
  Parts of one proof, one behind the other: ImgH, ImgH2, ObM, ObK, OsT.
-/
import Derived.Test.YteolfnceobjonaaGreatP11
import Derived.Test.YteolfnceobjonaaGreatP9
import Derived.Test.YteolfnceobjonaaGreatP10
import Derived.Test.YteolfnceobjonaaGreatP5

/-! The laws' own helpers over images: szImage, toImage, eqImage, markImage, heldImage. -/
namespace Go.Proofs.YteolfnceobjonaaGreat
open Go.RowKit



set_option maxHeartbeats 1000000 in
set_option maxRecDepth 100000 in
theorem eqImageC (a b : Option Addr) (len ca cb : Nat) (rs : List Rt) (w : World) (ha : RtsIn w a len rs) (hb : RtsIn w b len rs) (hlen : len ≤ 4194304) (hsh : ∀ j, (rs.getD j rt0).2.2.length ≤ 4194304) :
    Calls Tryz.prog 20 #[.agg #[.slice a len ca], .agg #[.slice b len cb]] w fun e w' => e = .returned (.bool true) ∧ Below w.heap.size w w' := by
  have hbW : Below w.heap.size w ((w.alloc (.cells #[.slice a len ca] 35)).alloc (.cells #[.slice b len cb] 35)) := ((Below.refl _ _).alloc (Nat.le_refl _) _).alloc (by simp) _
  have HC : Hid (_) := eqRoutineSC a b len ca cb rs _ (ha.below hbW) (hb.below hbW) hlen hsh
  have HB : Hid (Below w.heap.size w ((w.alloc (.cells #[.slice a len ca] 35)).alloc (.cells #[.slice b len cb] 35))) := hbW
  clear ha hb hbW
  go_enter Tryz.func20, Tryz.ntmps20
  go_wp2_with fail
  refine Calls.mono HC.out ?_
  rintro e w1 ⟨rfl, hb1⟩
  go_wp2
  go_ret
  exact ⟨rfl, HB.out.trans (hb1.mono HB.out.size)⟩

set_option maxHeartbeats 1000000 in
set_option maxRecDepth 100000 in
theorem markImageC (w : World) (base g cp k0 : Nat) (xs : List RV) (hn : xs.length ≤ 1100000) (hk0 : 0 < k0) (hk1 : rend k0 xs ≤ 30000000) (hls : ∀ x ∈ xs, x.1.2.2.length ≤ 1100000) (hap : ApartR (xs.map rvT))
    (h : RtsOwn w base (.slice (some ⟨g, 0, none⟩) xs.length cp) xs) :
    Calls Tryz.prog 21 #[.agg #[.slice (some ⟨g, 0, none⟩) xs.length cp], .int .i64 k0] w fun e w' => e = .returned (.int .i64 ((rend k0 xs : Nat) : Int)) ∧ RtsOwn w' base (.slice (some ⟨g, 0, none⟩) xs.length cp) (rmark k0 xs) ∧ WroteR w w' (RtBlocks (.slice (some ⟨g, 0, none⟩) xs.length cp) xs) := by
  have hbW : Below w.heap.size w (w.alloc (.cells #[.slice (some ⟨g, 0, none⟩) xs.length cp] 35)) := (Below.refl _ _).alloc (Nat.le_refl _) _
  have HC : Hid (_) := markRoutineSC _ base g cp k0 xs hn hk0 hk1 hls hap (h.below hbW)
  have HB : Hid (Below w.heap.size w (w.alloc (.cells #[.slice (some ⟨g, 0, none⟩) xs.length cp] 35))) := hbW
  clear h hbW hap hls
  go_enter Tryz.func21, Tryz.ntmps21
  go_wp2_with fail
  refine Calls.mono HC.out ?_
  rintro e w1 ⟨rfl, ho, hw⟩
  have HF : Hid (RtsOwn w1 base (.slice (some ⟨g, 0, none⟩) xs.length cp) (rmark k0 xs) ∧ WroteR w w1 (RtBlocks (.slice (some ⟨g, 0, none⟩) xs.length cp) xs)) := ⟨ho, (WroteR.of_below HB.out).trans hw⟩
  clear ho hw HC
  go_wp2
  go_ret
  exact ⟨rfl, HF.out⟩

set_option maxHeartbeats 1000000 in
set_option maxRecDepth 100000 in
theorem heldImageC (w : World) (base g cp k0 : Nat) (xs : List RV) (hn : xs.length ≤ 1100000) (hk0 : 0 < k0) (hk1 : rend k0 xs ≤ 30000000) (hls : ∀ x ∈ xs, x.1.2.2.length ≤ 1100000)
    (h : RtsOwn w base (.slice (some ⟨g, 0, none⟩) xs.length cp) (rmark k0 xs)) :
    Calls Tryz.prog 22 #[.agg #[.slice (some ⟨g, 0, none⟩) xs.length cp], .int .i64 k0] w fun e w' => e = .returned (.int .i64 ((rend k0 xs : Nat) : Int)) ∧ w.grownBy w' none := by
  have hbW : Below w.heap.size w (w.alloc (.cells #[.slice (some ⟨g, 0, none⟩) xs.length cp] 35)) := (Below.refl _ _).alloc (Nat.le_refl _) _
  have HC : Hid (_) := heldRoutineSC _ base g cp k0 xs hn hk0 hk1 hls (h.below hbW)
  have hge : ¬ ((rend k0 xs : Nat) : Int) < 0 := by omega
  generalize rend k0 xs = z at HC hge ⊢
  clear h hbW hls hk1
  go_enter Tryz.func22, Tryz.ntmps22
  go_wp2_with fail
  refine Calls.mono HC.out ?_
  rintro e w1 ⟨rfl, hg⟩
  have HG : Hid (w.grownBy w1 none) := (World.grownBy_alloc w _ _).trans hg
  clear HC hg
  go_wp2
  go_ret
  exact ⟨rfl, HG.out⟩

end Go.Proofs.YteolfnceobjonaaGreat

/-! An image's marks, also where it has no routine at all (nil). -/
namespace Go.Proofs.YteolfnceobjonaaGreat
open Go.RowKit

theorem rend_small (k : Nat) (xs : List RV) (h : ∀ x ∈ xs, x.1.2.2.length ≤ 200) : rend k xs ≤ k + 1002 * xs.length := by
  induction xs generalizing k with
  | nil => simp [rend]
  | cons x r ih =>
    have h1 := h x (List.mem_cons.2 (Or.inl rfl))
    have h2 := ih (k + 2 + 5 * x.1.2.2.length) (fun y hy => h y (List.mem_cons.2 (Or.inr hy)))
    simp only [rend, List.length_cons]
    omega
theorem RtsOwn.none {w w' : World} {base : Nat} {v : Value} {xs : List RV} (h : RtsOwn w base v xs) (hg : w.grownBy w' none) : RtsOwn w' base v xs :=
  h.kept hg (by cases hv : v.ownBlock with | none => exact Or.inl rfl | some k => exact Or.inr (by simp)) (fun x _ => by cases hv : (rvT x).ownBlock with | none => exact Or.inl rfl | some k => exact Or.inr (by simp))

set_option maxHeartbeats 1000000 in
set_option maxRecDepth 100000 in
theorem markRoutineN (w : World) (k0 : Nat) : Calls Tryz.prog 41 #[.slice none 0 0, .int .i64 k0] w fun e w' => e = .returned (.int .i64 (k0 : Int)) ∧ w' = w := by
  go_enter Tryz.func41, Tryz.ntmps41
  go_wp2
  go_loopw [1, 5] (fun k i wr => k = .int .i64 (k0 : Int) ∧ i = .int .i64 0 ∧ wr = w) (fun _ _ _ => 0)
  case atStart => exact ⟨rfl, rfl, rfl⟩
  case round =>
    obtain ⟨rfl, rfl, rfl⟩ := hrel
    go_wp2
    go_ret
    exact ⟨rfl, rfl⟩
set_option maxHeartbeats 1000000 in
set_option maxRecDepth 100000 in
theorem heldRoutineN (w : World) (k0 : Nat) : Calls Tryz.prog 50 #[.slice none 0 0, .int .i64 k0] w fun e w' => e = .returned (.int .i64 (k0 : Int)) ∧ w' = w := by
  go_enter Tryz.func50, Tryz.ntmps50
  go_wp2
  go_loopw [1, 5] (fun k i wr => k = .int .i64 (k0 : Int) ∧ i = .int .i64 0 ∧ wr = w) (fun _ _ _ => 0)
  case atStart => exact ⟨rfl, rfl, rfl⟩
  case round =>
    obtain ⟨rfl, rfl, rfl⟩ := hrel
    go_wp2
    go_ret
    exact ⟨rfl, rfl⟩

set_option maxHeartbeats 1000000 in
set_option maxRecDepth 100000 in
theorem markImageV (w : World) (base k0 : Nat) (v : Value) (xs : List RV) (hn : xs.length ≤ 1100000) (hk0 : 0 < k0) (hk1 : rend k0 xs ≤ 30000000) (hls : ∀ x ∈ xs, x.1.2.2.length ≤ 1100000) (hap : ApartR (xs.map rvT)) (h : RtsOwn w base v xs) :
    Calls Tryz.prog 21 #[.agg #[v], .int .i64 k0] w fun e w' => e = .returned (.int .i64 ((rend k0 xs : Nat) : Int)) ∧ RtsOwn w' base v (rmark k0 xs) ∧ WroteR w w' (RtBlocks v xs) := by
  rcases own_forms h.row with ⟨rfl, h0, _⟩ | ⟨g, cp, rfl⟩
  · obtain rfl : xs = [] := List.eq_nil_of_length_eq_zero h0
    have HC : Hid (_) := markRoutineN (w.alloc (.cells #[.slice none 0 0] 35)) k0
    have HB : Hid (Below w.heap.size w (w.alloc (.cells #[.slice none 0 0] 35))) := (Below.refl _ _).alloc (Nat.le_refl _) _
    have hr : rend k0 [] = k0 := rfl
    rw [hr]
    clear h hap hls hk1 hr
    go_enter Tryz.func21, Tryz.ntmps21
    go_wp2_with fail
    refine Calls.mono HC.out ?_
    rintro e w1 ⟨rfl, rfl⟩
    clear HC
    go_wp2
    go_ret
    exact ⟨rfl, RtsOwn.nil _ _, WroteR.of_below HB.out⟩
  · exact markImageC w base g cp k0 xs hn hk0 hk1 hls hap h

set_option maxHeartbeats 1000000 in
set_option maxRecDepth 100000 in
theorem heldImageV (w : World) (base k0 : Nat) (v : Value) (xs : List RV) (hn : xs.length ≤ 1100000) (hk0 : 0 < k0) (hk1 : rend k0 xs ≤ 30000000) (hls : ∀ x ∈ xs, x.1.2.2.length ≤ 1100000) (hl : (rmark k0 xs).length = xs.length) (h : RtsOwn w base v (rmark k0 xs)) :
    Calls Tryz.prog 22 #[.agg #[v], .int .i64 k0] w fun e w' => e = .returned (.int .i64 ((rend k0 xs : Nat) : Int)) ∧ w.grownBy w' none := by
  have hrow := h.row
  rw [hl] at hrow
  rcases own_forms hrow with ⟨rfl, h0, _⟩ | ⟨g, cp, rfl⟩
  · obtain rfl : xs = [] := List.eq_nil_of_length_eq_zero h0
    have HC : Hid (_) := heldRoutineN (w.alloc (.cells #[.slice none 0 0] 35)) k0
    have HB : Hid (w.grownBy (w.alloc (.cells #[.slice none 0 0] 35)) none) := World.grownBy_alloc w _ _
    have hr : rend k0 [] = k0 := rfl
    rw [hr]
    clear h hls hk1 hr hrow hl
    go_enter Tryz.func22, Tryz.ntmps22
    go_wp2_with fail
    refine Calls.mono HC.out ?_
    rintro e w1 ⟨rfl, rfl⟩
    clear HC
    go_wp2
    go_ret
    exact ⟨rfl, HB.out⟩
  · exact heldImageC w base g cp k0 xs hn hk0 hk1 hls h

end Go.Proofs.YteolfnceobjonaaGreat

/-! The laws' own helpers over objects: markObject, heldObject; three cells of a block. -/
namespace Go.Proofs.YteolfnceobjonaaGreat
open Go.RowKit

theorem own_textsO {w : World} {base n : Nat} {v : Value} {ts : List (List UInt8)} (h : w.ownsRow base 9 1 v n (strV ts)) : ∃ a c, v = .slice a n c ∧ (a = none → c = 0) ∧ TextsIn w a n ts := by
  obtain ⟨_, a, c, rfl, hin⟩ := own_texts h
  refine ⟨a, c, rfl, fun e => ?_, hin⟩
  rcases own_forms h with ⟨e2, _, _⟩ | ⟨g, cp, e2⟩
  · injection e2
  · injection e2 with e3; rw [e] at e3; cases e3

theorem markRoutineSV (w : World) (base k0 : Nat) (v : Value) (xs : List RV) (hn : xs.length ≤ 1100000) (hk0 : 0 < k0) (hk1 : rend k0 xs ≤ 30000000) (hls : ∀ x ∈ xs, x.1.2.2.length ≤ 1100000) (hap : ApartR (xs.map rvT)) (h : RtsOwn w base v xs) :
    Calls Tryz.prog 41 #[v, .int .i64 k0] w fun e w' => e = .returned (.int .i64 ((rend k0 xs : Nat) : Int)) ∧ RtsOwn w' base v (rmark k0 xs) ∧ WroteR w w' (RtBlocks v xs) := by
  rcases own_forms h.row with ⟨rfl, h0, _⟩ | ⟨g, cp, rfl⟩
  · obtain rfl : xs = [] := List.eq_nil_of_length_eq_zero h0
    refine (markRoutineN w k0).mono ?_
    rintro e w' ⟨rfl, rfl⟩
    exact ⟨rfl, RtsOwn.nil _ _, WroteR.refl _ _⟩
  · exact markRoutineSC w base g cp k0 xs hn hk0 hk1 hls hap h

theorem RtsOwn.alloc {w : World} {base : Nat} {v : Value} {xs : List RV} (h : RtsOwn w base v xs) (o : Obj) : RtsOwn (w.alloc o) base v xs := ⟨h.row.alloc o, fun x hx => (h.trees x hx).alloc o⟩
/-- A row of texts, and functions: the one's writing leaves the other. -/
theorem RtsOwn.texts {w w' : World} {base b2 n : Nat} {v vi : Value} {xs : List RV} {ys : List Value} (h : RtsOwn w base v xs) (hi : w.ownsRow b2 9 1 vi n ys) (hg : w.grownBy w' vi.ownBlock) : RtsOwn w' base v xs :=
  ⟨h.row.kept hg (own_typesR h.row hi (by decide)), fun x hx => (h.trees x hx).kept hg (own_typesR (h.trees x hx) hi (by decide))⟩
def ObBlocks (vi vf : Value) (xs : List RV) (k : Nat) : Prop := vi.ownBlock = some k ∨ RtBlocks vf xs k

/-- Three cells of a block. -/
structure BoxO (V : World) (k : Nat) (a b c : Value) : Prop where
  c0 : V.cell? ⟨k, 0, none⟩ = some a
  c1 : V.cell? ⟨k, 1, none⟩ = some b
  c2 : V.cell? ⟨k, 2, none⟩ = some c

theorem BoxO.lt {V : World} {k : Nat} {a b c : Value} (h : BoxO V k a b c) : k < V.heap.size := World.block_lt_of_cell? V ⟨k, 0, none⟩ h.c0
theorem BoxO.keep {V V' : World} {k : Nat} {a b c : Value} (h : BoxO V k a b c) (hb : V'.heap[k]? = V.heap[k]?) : BoxO V' k a b c :=
  ⟨(World.cell?_of_block (a := ⟨k, 0, none⟩) hb).trans h.c0, (World.cell?_of_block (a := ⟨k, 1, none⟩) hb).trans h.c1, (World.cell?_of_block (a := ⟨k, 2, none⟩) hb).trans h.c2⟩
theorem BoxO.below {V V' : World} {k : Nat} {a b c : Value} (h : BoxO V k a b c) (hb : Below V.heap.size V V') : BoxO V' k a b c := h.keep (hb.block k h.lt)
theorem BoxO.wrote {V V' : World} {k : Nat} {a b c : Value} {S : Nat → Prop} (h : BoxO V k a b c) (hw : WroteR V V' S) (hk : ¬ S k) : BoxO V' k a b c := h.keep (hw.block k h.lt hk)
theorem BoxO.grown {V V' : World} {k : Nat} {a b c : Value} {row : Option Nat} (h : BoxO V k a b c) (hg : V.grownBy V' row) (hk : some k ≠ row) : BoxO V' k a b c := h.keep (hg.block k h.lt hk)
theorem BoxO.drew {V : World} {k : Nat} {a b c : Value} (h : BoxO V k a b c) : BoxO V.drew k a b c := ⟨h.c0, h.c1, h.c2⟩
theorem BoxO.new (V : World) (a b c : Value) (t : TypeId) : BoxO (V.alloc (.cells #[a, b, c] t)) V.heap.size a b c ∧ Below V.heap.size V (V.alloc (.cells #[a, b, c] t)) := by
  have hb : Below V.heap.size V (V.alloc (.cells #[a, b, c] t)) := (Below.refl _ _).alloc (Nat.le_refl _) _
  have hA := heap_alloc_new V (.cells #[a, b, c] t)
  generalize V.alloc (.cells #[a, b, c] t) = W at hb hA ⊢
  exact ⟨⟨by simp [World.cell?, hA], by simp [World.cell?, hA], by simp [World.cell?, hA]⟩, hb⟩

end Go.Proofs.YteolfnceobjonaaGreat

/-! What the landed functions of chapter 15 are told of an object; an object in rows of its own. -/
namespace Go.Proofs.YteolfnceobjonaaGreat
open Go.RowKit

/-- What the landed functions are told of an object that they are handed. -/
structure ObOk (w : World) (nm : List UInt8) (ia : Option Addr) (il ic : Nat) (fa : Option Addr) (fl fc : Nat) (ims : List (List UInt8)) (rs : List Rt) : Prop where
  i : TextsIn w ia il ims
  r : RtOk w fa fl fc rs
  ic : ia = none → ic = 0
  il : il ≤ 1048576
  nm : nm.length ≤ 1048576
  is : ∀ i, (ims.getD i []).length ≤ 1048576
theorem ObOk.below {w w' : World} {nm : List UInt8} {ia : Option Addr} {il ic : Nat} {fa : Option Addr} {fl fc : Nat} {ims : List (List UInt8)} {rs : List Rt} (h : ObOk w nm ia il ic fa fl fc ims rs) (hb : Below w.heap.size w w') : ObOk w' nm ia il ic fa fl fc ims rs :=
  ⟨h.i.below hb, h.r.below hb, h.ic, h.il, h.nm, h.is⟩

/-- A package that a call owns can be read. -/
theorem own_ob {w : World} {base : Nat} {vi vf : Value} {ims : List (List UInt8)} {xs : List RV} {fs : List Rt} (hoi : w.ownsRow base 9 1 vi ims.length (strV ims)) (hof : RtsOwn w base vf xs) (hxs : xs.map (·.1) = fs) :
    ∃ ai ci af cf, vi = .slice ai ims.length ci ∧ vf = .slice af fs.length cf ∧ (ai = none → ci = 0) ∧ ((af = none → cf = 0) ∧ fs.length ≤ cf) ∧ TextsIn w ai ims.length ims ∧ RtsIn w af fs.length fs := by
  obtain ⟨ai, ci, rfl, hic, hit⟩ := own_textsO hoi
  obtain ⟨af, cf, rfl, hfc, hif⟩ := hof.in
  have hl : xs.length = fs.length := by rw [← hxs, List.length_map]
  have hcp : fs.length ≤ cf := by
    rcases hof.row.2 with ⟨e, h0⟩ | ⟨g, cap, cur, e, _, _, hc, _⟩
    · rw [← hl, h0]; exact Nat.zero_le _
    · injection e with _ _ e3
      rw [e3, ← hl]; exact hc
  rw [hxs, hl] at hif
  exact ⟨ai, ci, af, cf, rfl, by rw [hl], hic, ⟨hfc, hcp⟩, hit, hif⟩

/-- A package whose rows lie from lo on, ahead of hi. -/
structure Pv15 (Z : World) (lo hi : Nat) (ai : Option Addr) (il ci : Nat) (af : Option Addr) (fl cf : Nat) (ims : List (List UInt8)) (fs : List Rt) (xs : List RV) : Prop where
  oi : Z.ownsRow lo 9 1 (.slice ai il ci) il (strV ims)
  of : RtsOwn Z lo (.slice af fl cf) xs
  xm : xs.map (·.1) = fs
  li : ims.length = il
  lf : fs.length = fl
  at_ : ∀ k, ObBlocks (.slice ai il ci) (.slice af fl cf) xs k → lo ≤ k ∧ k < hi
section
variable {Z Y : World} {lo hi : Nat} {ai : Option Addr} {il ci : Nat} {af : Option Addr} {fl cf : Nat} {ims : List (List UInt8)} {fs : List Rt} {xs : List RV}
theorem Pv15.below (h : Pv15 Z lo hi ai il ci af fl cf ims fs xs) (hb : Below Z.heap.size Z Y) : Pv15 Y lo hi ai il ci af fl cf ims fs xs := ⟨own_below h.oi hb, h.of.below hb, h.xm, h.li, h.lf, h.at_⟩
theorem Pv15.wrote (h : Pv15 Z lo hi ai il ci af fl cf ims fs xs) {S : Nat → Prop} (hw : WroteR Z Y S) (hs : ∀ k, S k → k < lo ∨ hi ≤ k) : Pv15 Y lo hi ai il ci af fl cf ims fs xs :=
  ⟨own_wroteR h.oi hw (fun k e hk => by have := h.at_ k (Or.inl e); have := hs k hk; omega), ⟨own_wroteR h.of.row hw (fun k e hk => by have := h.at_ k (Or.inr (Or.inl e)); have := hs k hk; omega), fun x hx => own_wroteR (h.of.trees x hx) hw (fun k e hk => by have := h.at_ k (Or.inr (Or.inr ⟨x, hx, e⟩)); have := hs k hk; omega)⟩, h.xm, h.li, h.lf, h.at_⟩
theorem Pv15.none (h : Pv15 Z lo hi ai il ci af fl cf ims fs xs) (hg : Z.grownBy Y none) : Pv15 Y lo hi ai il ci af fl cf ims fs xs := h.wrote (S := fun _ => False) (WroteR.of_grown hg (fun k e => by cases e)) (fun k e => e.elim)
theorem Pv15.drew (h : Pv15 Z lo hi ai il ci af fl cf ims fs xs) : Pv15 Z.drew lo hi ai il ci af fl cf ims fs xs := h.below ⟨rfl, rfl, rfl, Nat.le_refl _, fun _ _ => rfl⟩
theorem Pv15.in (h : Pv15 Z lo hi ai il ci af fl cf ims fs xs) : TextsIn Z ai il ims ∧ RtsIn Z af fl fs := by
  have hoi := h.oi
  rw [← h.li] at hoi
  obtain ⟨_, _, _, _, e1, e2, _, _, h1, h2⟩ := own_ob hoi h.of h.xm
  injection e1 with a1 _ a3
  injection e2 with b1 _ b3
  subst a1 a3 b1 b3
  rw [← h.li, ← h.lf]
  exact ⟨h1, h2⟩
theorem Pv15.cap (h : Pv15 Z lo hi ai il ci af fl cf ims fs xs) : RtsCap Z af fl cf fs := h.of.cap h.xm h.lf
theorem Pv15.len (h : Pv15 Z lo hi ai il ci af fl cf ims fs xs) : xs.length = fl := by rw [← h.lf, ← h.xm, List.length_map]
theorem Pv15.new {vi vf : Value} (hoi : Z.ownsRow lo 9 1 vi ims.length (strV ims)) (hof : RtsOwn Z lo vf xs) (hxs : xs.map (·.1) = fs) : ∃ ai ci af cf, vi = .slice ai ims.length ci ∧ vf = .slice af fs.length cf ∧ ((af = Option.none → cf = 0) ∧ fs.length ≤ cf) ∧ (ai = Option.none → ci = 0) ∧ Pv15 Z lo Z.heap.size ai ims.length ci af fs.length cf ims fs xs := by
  obtain ⟨ai, ci, af, cf, rfl, rfl, h0, h1, _, _⟩ := own_ob hoi hof hxs
  refine ⟨ai, ci, af, cf, rfl, rfl, h1, h0, hoi, hof, hxs, rfl, rfl, fun k hk => ?_⟩
  rcases hk with e | e | ⟨x, hx, e⟩
  · exact hoi.lt k e
  · exact hof.row.lt k e
  · exact (hof.trees x hx).lt k e
end

end Go.Proofs.YteolfnceobjonaaGreat

/-! A list of objects that a call has made; the laws' own helper toObjectS. -/
namespace Go.Proofs.YteolfnceobjonaaGreat
open Go.RowKit

/-- A package, where its lists lie, and between which blocks. -/
structure OV where
  nm : List UInt8
  ims : List (List UInt8)
  xs : List RV
  ia : Option Addr
  ic : Nat
  fa : Option Addr
  fc : Nat
  lo : Nat
  hi : Nat
def ovI (y : OV) : Value := .slice y.ia y.ims.length y.ic
def ovF (y : OV) : Value := .slice y.fa y.xs.length y.fc
def ovP (y : OV) : Ob := (y.nm, y.ims, y.xs.map (·.1))
def ov0 : OV := ⟨[], [], [], none, 0, none, 0, 0, 0⟩
def ovsV : List OV → List Value
  | [] => []
  | y :: r => .string ⟨y.nm.toArray⟩ :: ovI y :: ovF y :: ovsV r
theorem ovsV_len (ys : List OV) : (ovsV ys).length = ys.length * 3 := by
  induction ys with
  | nil => rfl
  | cons n r ih => simp only [ovsV, List.length_cons, ih]; omega
theorem ovsV_at (ys : List OV) (j : Nat) (hj : j < ys.length) : (ovsV ys)[j * 3]? = some (.string ⟨(ys.getD j ov0).nm.toArray⟩) ∧ (ovsV ys)[j * 3 + 1]? = some (ovI (ys.getD j ov0)) ∧ (ovsV ys)[j * 3 + 2]? = some (ovF (ys.getD j ov0)) := by
  induction ys generalizing j with
  | nil => simp at hj
  | cons n r ih =>
    cases j with
    | zero => simp [ovsV]
    | succ j =>
      obtain ⟨h0, h1, h2⟩ := ih j (by simpa using hj)
      refine ⟨?_, ?_, ?_⟩
      · rw [show (j + 1) * 3 = j * 3 + 1 + 1 + 1 by omega]; simpa [ovsV] using h0
      · rw [show (j + 1) * 3 + 1 = j * 3 + 1 + 1 + 1 + 1 by omega]; simpa [ovsV] using h1
      · rw [show (j + 1) * 3 + 2 = j * 3 + 2 + 1 + 1 + 1 by omega]; simpa [ovsV] using h2
theorem ovsV_set (ys : List OV) (j : Nat) (y : OV) : (((ovsV ys).set (j * 3) (.string ⟨y.nm.toArray⟩)).set (j * 3 + 1) (ovI y)).set (j * 3 + 2) (ovF y) = ovsV (ys.set j y) := by
  induction ys generalizing j with
  | nil => simp [ovsV]
  | cons b r ih =>
    cases j with
    | zero => simp [ovsV]
    | succ j => rw [show (j + 1) * 3 = j * 3 + 1 + 1 + 1 by omega]; simp [ovsV, ih]
theorem fill_ov (ys : List OV) (len k : Nat) (y : OV) (hy : ys.length = k) (hk : k < len) : (ys ++ List.replicate (len - k) ov0).set k y = (ys ++ [y]) ++ List.replicate (len - (k + 1)) ov0 := by
  rw [List.set_append_right _ _ (by omega), hy, Nat.sub_self, show len - k = (len - (k + 1)) + 1 by omega, List.replicate_succ, List.set_cons_zero, List.append_assoc]
  rfl
theorem made_ovs (n : Nat) : (madeCells (Value.agg #[.string ⟨#[]⟩, .slice none 0 0, .slice none 0 0]).cells (n * 3)).toList = ovsV (List.replicate n ov0) := by
  have hc : (Value.agg #[.string ⟨#[]⟩, .slice none 0 0, .slice none 0 0]).cells = #[.string ⟨#[]⟩, .slice none 0 0, .slice none 0 0] := rfl
  rw [hc]
  apply List.ext_getElem?
  intro j
  by_cases hj : j < n * 3
  · obtain ⟨v0, v1, v2⟩ := ovsV_at (List.replicate n ov0) (j / 3) (by simp; omega)
    have hg : (List.replicate n ov0).getD (j / 3) ov0 = ov0 := by simp [List.getD, List.getElem?_replicate]; split <;> rfl
    rw [hg] at v0 v1 v2
    have h3 : j % 3 = 0 ∨ j % 3 = 1 ∨ j % 3 = 2 := by omega
    rcases h3 with h' | h' | h'
    · have ej : j = j / 3 * 3 := by omega
      rw [← ej] at v0
      rw [v0]
      simp [madeCells, hj, h', ov0]
    · have ej : j = j / 3 * 3 + 1 := by omega
      rw [← ej] at v1
      rw [v1]
      simp [madeCells, hj, h', ov0, ovI]
    · have ej : j = j / 3 * 3 + 2 := by omega
      rw [← ej] at v2
      rw [v2]
      simp [madeCells, hj, h', ov0, ovF]
  · rw [List.getElem?_eq_none (by simp [madeCells]; omega), List.getElem?_eq_none (by rw [ovsV_len]; simp; omega)]

/-- A package whose rows lie between two blocks. -/
structure OvOk (w : World) (y : OV) : Prop where
  im : w.ownsRow y.lo 9 1 (ovI y) y.ims.length (strV y.ims)
  fo : RtsOwn w y.lo (ovF y) y.xs
  ap : ApartR (y.xs.map rvT)
  top : ∀ k, ObBlocks (ovI y) (ovF y) y.xs k → k < y.hi
theorem OvOk.wrote {w w' : World} {y : OV} (h : OvOk w y) {S : Nat → Prop} (hw : WroteR w w' S) (hs : ∀ k, S k → k < y.lo ∨ y.hi ≤ k) : OvOk w' y := by
  have hoff : ∀ {e size n : Nat} {v : Value} {zs : List Value}, w.ownsRow y.lo e size v n zs → (∀ k, v.ownBlock = some k → k < y.hi) → w'.ownsRow y.lo e size v n zs := fun ho ht => own_wroteR ho hw (fun k hk hS => by
    have h1 := (ho.lt k hk).1
    have h2 := ht k hk
    rcases hs k hS with h3 | h3 <;> omega)
  exact ⟨hoff h.im (fun k e => h.top k (Or.inl e)), ⟨hoff h.fo.row (fun k e => h.top k (Or.inr (Or.inl e))), fun x hx => hoff (h.fo.trees x hx) (fun k e => h.top k (Or.inr (Or.inr ⟨x, hx, e⟩)))⟩, h.ap, h.top⟩
theorem OvOk.below {w w' : World} {y : OV} (h : OvOk w y) (hb : Below w.heap.size w w') : OvOk w' y := h.wrote (S := fun _ => False) (WroteR.of_below hb) (fun _ e => e.elim)

/-- A project that a call owns: its row, and its packages' lists between B and T. -/
structure OjOwn (w : World) (B T : Nat) (v : Value) (ys : List OV) : Prop where
  row : w.ownsRow B 45 3 v ys.length (ovsV ys)
  each : ∀ y ∈ ys, OvOk w y ∧ B ≤ y.lo ∧ y.hi ≤ T
  seq : ys.Pairwise (fun a b => a.hi ≤ b.lo)
  off : ∀ k, v.ownBlock = some k → k < T ∧ ∀ y ∈ ys, k < y.lo ∨ y.hi ≤ k
  sz : T ≤ w.heap.size
theorem OjOwn.below {w w' : World} {B T : Nat} {v : Value} {ys : List OV} (h : OjOwn w B T v ys) (hb : Below w.heap.size w w') : OjOwn w' B T v ys :=
  ⟨own_below h.row hb, fun y hy => ⟨(h.each y hy).1.below hb, (h.each y hy).2⟩, h.seq, h.off, Nat.le_trans h.sz hb.size⟩
theorem getD_map_ov (ys : List OV) (j : Nat) : (ys.map ovP).getD j ob0 = ovP (ys.getD j ov0) := by
  rw [List.getD_eq_getElem?_getD, List.getD_eq_getElem?_getD, List.getElem?_map]
  cases ys[j]? <;> rfl
/-- What is owned can be read. -/
theorem OjOwn.in {w : World} {B T : Nat} {v : Value} {ys : List OV} (h : OjOwn w B T v ys) : ∃ a cap, v = .slice a ys.length cap ∧ (a = none → cap = 0) ∧ ObjsIn w a ys.length (ys.map ovP) := by
  rcases own_forms h.row with ⟨rfl, h0, _⟩ | ⟨g, cp, rfl⟩
  · exact ⟨none, 0, by rw [h0], fun _ => rfl, by simp, fun j hj => by omega⟩
  · refine ⟨some ⟨g, 0, none⟩, cp, rfl, fun e => (by cases e), by simp, fun j hj => ?_⟩
    obtain ⟨v0, v1, v2⟩ := ovsV_at ys j hj
    have hc := fun k (hk : k < ys.length * 3) => World.ownsRow.cellAt h.row k hk
    have hmem : ys.getD j ov0 ∈ ys := by rw [List.getD_eq_getElem?_getD, List.getElem?_eq_getElem hj]; exact List.getElem_mem hj
    have hy := (h.each _ hmem).1
    obtain ⟨ai, ci, af, cf, e1, e2, _, _, hti, hfi⟩ := own_ob hy.im hy.fo rfl
    refine ⟨g, 0, rfl, (h.row.lt g rfl).2, ?_, ai, (ys.getD j ov0).ims.length, ci, af, ((ys.getD j ov0).xs.map (·.1)).length, cf, ?_, ?_, ?_, ?_⟩
    · rw [Nat.zero_add, hc _ (by omega), v0, getD_map_ov]; rfl
    · rw [Nat.zero_add, hc _ (by omega), v1, e1]
    · rw [Nat.zero_add, hc _ (by omega), v2, e2]
    · rw [getD_map_ov]; exact hti
    · rw [getD_map_ov]; exact hfi

theorem infoObject : (Tryz.prog.info? 45).map (fun i => (i.zero, i.size, i.bytes)) = some (some (.agg #[.string ⟨#[]⟩, .slice none 0 0, .slice none 0 0]), 3, 64) := by kernel_rfl

set_option maxHeartbeats 4000000 in
set_option maxRecDepth 100000 in
theorem toObjectSC (a : Option Addr) (len cap : Nat) (os : List Ob) (w : World) (hin : ObjsIn w a len os) (hlen : len ≤ 1048576) (hsh : ShortOs os) :
    Calls Tryz.prog 9 #[.slice a len cap] w fun e w' => e = .returned (.slice (some ⟨w.heap.size, 0, none⟩) len len) ∧ ∃ ys, ys.map ovP = os ∧ OjOwn w' w.heap.size w'.heap.size (.slice (some ⟨w.heap.size, 0, none⟩) len len) ys ∧ Below w.heap.size w w' := by
  obtain ⟨i0, hi, hz0, hz1, hz2⟩ := info_parts infoObject
  have hlb := hin.1
  have HI : Hid (ObjsIn w a len os) := hin
  have HSH : Hid (ShortOs os) := hsh
  clear hin hsh
  go_enter Tryz.func9, Tryz.ntmps9
  go_wp2_with (at_make; refine wpList_make_full _ rfl _ _ 26 rfl w.heap.size 45 i0 _ 3 Tryz.underlying26 hi hz0 hz1 .i64 .i64 _ _ len rfl rfl rfl rfl (by rw [hz2]; omega) (by unfold maxLen; omega) (Nat.le_refl _) ?_; intro w1 hown1 hgrow1)
  rw [made_ovs] at hown1
  have hB1 : Below w.heap.size w w1 := (Below.refl _ _).grown hgrow1 (Nat.le_refl _) (by simp)
  clear hgrow1
  go_loopw [4] (fun i wr => ∃ (k : Nat) (ys : List OV), k ≤ len ∧ i = .int .i64 k ∧ ys.length = k ∧ Hid (ys.map ovP = os.take k) ∧ Hid (wr.ownsRow w.heap.size 45 3 (.slice (some ⟨w.heap.size, 0, none⟩) len len) len (ovsV (ys ++ List.replicate (len - k) ov0))) ∧ Hid ((∀ y ∈ ys, OvOk wr y ∧ w.heap.size < y.lo ∧ y.hi ≤ wr.heap.size) ∧ ys.Pairwise (fun a b => a.hi ≤ b.lo)) ∧ Hid (Below w.heap.size w wr)) (fun i _ => len - (intOf i).toNat)
  case atStart => exact ⟨0, [], Nat.zero_le _, rfl, rfl, (by simp : ([] : List OV).map ovP = os.take 0), (by simpa using hown1 : w1.ownsRow w.heap.size 45 3 (.slice (some ⟨w.heap.size, 0, none⟩) len len) len (ovsV ([] ++ List.replicate (len - 0) ov0))), (⟨fun y hy => (by cases hy), List.Pairwise.nil⟩ : (∀ y ∈ ([] : List OV), _) ∧ _), hB1⟩
  case round =>
    obtain ⟨k, ys, hk, rfl, hyl, HM, HR, HE, HB⟩ := hrel
    clear hown1 hB1
    by_cases hkl : (k : Int) < (len : Int)
    · obtain ⟨b, off, rfl, hbl, c0, ia, il, ic, fa, fl, fc, c1, c2, hii, hff⟩ := (HI.out.below HB.out).2 k (by omega)
      have hts := HSH.out k
      have hmk : os.take (k + 1) = os.take k ++ [os.getD k ob0] := by
        have hg : os.getD k ob0 = os[k]'(by omega) := by simp [List.getD, show k < os.length by omega]
        rw [hg, List.take_succ_eq_append_getElem]
      obtain ⟨p, hp⟩ : ∃ p, os.getD k ob0 = p := ⟨_, rfl⟩
      rw [hp] at c0 hii hff hts hmk
      obtain ⟨nm, ims, fs⟩ := p
      simp only at c0 hii hff hts
      obtain rfl : ims.length = il := hii.1
      obtain rfl : fs.length = fl := hff.1
      have HMK : Hid (os.take (k + 1) = os.take k ++ [(nm, ims, fs)]) := hmk
      have HC := toObjectC nm ia ims.length ic fa fs.length fc ims fs wr hii hff hts.2.1 hts.2.2.2.1 (fun j => (hts.2.2.2.2 j).2.1)
      have hwsz : w.heap.size < wr.heap.size := (HR.out.lt w.heap.size rfl).2
      clear hp hii hff hmk hts
      go_wp2_with fail
      refine HC.mono ?_
      rintro e w2 ⟨a1, c1', g2, xs, rfl, hxs, hoi, hof, hap, hb2⟩
      have hxl : xs.length = fs.length := by rw [← hxs, List.length_map]
      obtain ⟨y, hy⟩ : ∃ y : OV, y = ⟨nm, ims, xs, a1, c1', some ⟨g2, 0, none⟩, fs.length, wr.heap.size, w2.heap.size⟩ := ⟨_, rfl⟩
      have hyI : ovI y = .slice a1 ims.length c1' := by rw [hy]; rfl
      have hyF : ovF y = .slice (some ⟨g2, 0, none⟩) fs.length fs.length := by rw [hy]; unfold ovF; simp only; rw [hxl]
      have hyN : y.nm = nm := by rw [hy]
      have hyok : OvOk w2 y := by
        refine ⟨?_, ?_, ?_, fun q hq => ?_⟩
        · rw [hyI, hy]; exact hoi
        · rw [hyF, hy]; exact hof
        · rw [hy]; exact hap
        · rw [hyI, hyF] at hq
          rw [hy] at hq ⊢
          simp only at hq ⊢
          rcases hq with e | e | ⟨x, hx, e⟩
          · exact (hoi.lt q e).2
          · exact (hof.row.lt q e).2
          · exact ((hof.trees x hx).lt q e).2
      have hyP : ovP y = (nm, ims, fs) := by rw [hy]; unfold ovP; simp only; rw [hxs]
      have hylo : y.lo = wr.heap.size ∧ y.hi = w2.heap.size := by rw [hy]; exact ⟨rfl, rfl⟩
      clear hy
      have hown2 := own_below HR.out hb2
      have hE2 : ∀ z ∈ ys, OvOk w2 z ∧ w.heap.size < z.lo ∧ z.hi ≤ wr.heap.size := fun z hz => ⟨(HE.out.1 z hz).1.below hb2, (HE.out.1 z hz).2⟩
      have hl2 : (ys ++ List.replicate (len - k) ov0).length = len := by rw [List.length_append, List.length_replicate]; omega
      obtain ⟨v0, v1, v2⟩ := ovsV_at (ys ++ List.replicate (len - k) ov0) k (by omega)
      obtain ⟨u0, d0⟩ : ∃ u, w2.cell? ⟨w.heap.size, k * 3, none⟩ = some u := by
        rw [hown2.cellAt (k * 3) (by omega), v0]; exact ⟨_, rfl⟩
      obtain ⟨u1, d1⟩ : ∃ u, w2.cell? ⟨w.heap.size, k * 3 + 1, none⟩ = some u := by
        rw [hown2.cellAt (k * 3 + 1) (by omega), v1]; exact ⟨_, rfl⟩
      obtain ⟨u2, d2⟩ : ∃ u, w2.cell? ⟨w.heap.size, k * 3 + 2, none⟩ = some u := by
        rw [hown2.cellAt (k * 3 + 2) (by omega), v2]; exact ⟨_, rfl⟩
      have e0 := hown2.frozenAt (k * 3)
      have e1 := hown2.frozenAt (k * 3 + 1)
      have e2 := hown2.frozenAt (k * 3 + 2)
      have hs1 := hown2.stored (k * 3) (.string ⟨nm.toArray⟩)
      have hs2 := hs1.1.stored (k * 3 + 1) (.slice a1 ims.length c1')
      have hs3 := hs2.1.stored (k * 3 + 2) (.slice (some ⟨g2, 0, none⟩) fs.length fs.length)
      have hnew := hs3.1
      have hset := ovsV_set (ys ++ List.replicate (len - k) ov0) k y
      rw [fill_ov ys len k _ hyl (by omega), hyI, hyF, hyN] at hset
      rw [hset] at hnew
      have hgr : w2.grownBy (((w2.setCell ⟨w.heap.size, k * 3, none⟩ (.string ⟨nm.toArray⟩)).setCell ⟨w.heap.size, k * 3 + 1, none⟩ (.slice a1 ims.length c1')).setCell ⟨w.heap.size, k * 3 + 2, none⟩ (.slice (some ⟨g2, 0, none⟩) fs.length fs.length)) (some w.heap.size) := ((grown_set _ _ _ _).trans (grown_set _ _ _ _)).trans (grown_set _ _ _ _)
      have hB2 : Below w.heap.size w w2 := HB.out.trans (hb2.mono HB.out.size)
      obtain ⟨Z, hZ⟩ : ∃ Z, (((w2.setCell ⟨w.heap.size, k * 3, none⟩ (.string ⟨nm.toArray⟩)).setCell ⟨w.heap.size, k * 3 + 1, none⟩ (.slice a1 ims.length c1')).setCell ⟨w.heap.size, k * 3 + 2, none⟩ (.slice (some ⟨g2, 0, none⟩) fs.length fs.length)) = Z := ⟨_, rfl⟩
      rw [hZ] at hnew hgr
      have hszZ : Z.heap.size = w2.heap.size := by rw [← hZ]; simp
      have hwr : WroteR w2 Z (fun q => q = w.heap.size) := WroteR.of_grown hgr (fun q e => by injection e with e; exact e.symm)
      have HN : Hid (Below w.heap.size w Z) := hB2.grown hgr hB2.size (fun q e => by injection e with e; omega)
      have HR2 : Hid (Z.ownsRow w.heap.size 45 3 (.slice (some ⟨w.heap.size, 0, none⟩) len len) len (ovsV ((ys ++ [y]) ++ List.replicate (len - (k + 1)) ov0))) := hnew
      have HE2 : Hid ((∀ z ∈ ys ++ [y], OvOk Z z ∧ w.heap.size < z.lo ∧ z.hi ≤ Z.heap.size) ∧ (ys ++ [y]).Pairwise (fun a b => a.hi ≤ b.lo)) := by
        refine ⟨fun z hz => ?_, List.pairwise_append.2 ⟨HE.out.2, List.pairwise_singleton _ _, fun z hz q hq => ?_⟩⟩
        · rw [List.mem_append, List.mem_singleton] at hz
          have h2s := hb2.size
          rcases hz with hz | rfl
          · have h3 := hE2 z hz
            exact ⟨h3.1.wrote hwr (fun q e => by omega), h3.2.1, by omega⟩
          · exact ⟨hyok.wrote hwr (fun q e => by omega), by omega, by omega⟩
        · rw [List.mem_singleton] at hq
          subst hq
          have := (hE2 z hz).2.2
          omega
      have HM2 : Hid ((ys ++ [y]).map ovP = os.take (k + 1)) := by exact (by rw [List.map_append, HM.out, HMK.out]; simp [hyP] : (ys ++ [y]).map ovP = os.take (k + 1))
      clear hown2 hs1 hs2 hs3 hl2 v0 v1 v2 hnew hset hgr hB2 HC HR HE HM hE2 HMK hyok hyP hyI hyF hyN hylo hwr hszZ hoi hof hap hb2 hxs
      go_wp2
      go_roundw
      case rel => exact ⟨k + 1, ys ++ [y], by omega, by go_num, by simp [hyl], HM2, HR2, HE2, HN⟩
      case measure => simp [intOf]; omega
    · have hd : ys ++ List.replicate (len - k) ov0 = ys := by rw [show len - k = 0 by omega]; simp
      have hrow := HR.out
      rw [hd] at hrow
      have HM2 : Hid (ys.map ovP = os) := by exact (by rw [HM.out]; exact List.take_of_length_le (by omega) : ys.map ovP = os)
      have HF : Hid (OjOwn wr w.heap.size wr.heap.size (.slice (some ⟨w.heap.size, 0, none⟩) len len) ys) := by
        refine (⟨by rw [show ys.length = len by omega]; exact hrow, fun y hy => ⟨(HE.out.1 y hy).1, by have := (HE.out.1 y hy).2.1; omega, (HE.out.1 y hy).2.2⟩, HE.out.2, fun q e => ?_, Nat.le_refl _⟩ : OjOwn wr w.heap.size wr.heap.size (.slice (some ⟨w.heap.size, 0, none⟩) len len) ys)
        have e2 : w.heap.size = q := by simpa [Value.ownBlock] using e
        subst e2
        exact ⟨(hrow.lt _ rfl).2, fun y hy => Or.inl (HE.out.1 y hy).2.1⟩
      clear hd hrow HR HE HM
      go_wp2
      go_ret
      exact ⟨rfl, ys, HM2.out, HF.out, HB.out⟩

end Go.Proofs.YteolfnceobjonaaGreat
