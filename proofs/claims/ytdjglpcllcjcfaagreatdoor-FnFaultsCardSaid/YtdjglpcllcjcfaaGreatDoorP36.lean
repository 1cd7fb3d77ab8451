/-
  Parts of one proof, one behind the other: Math8L, LawO, PackL, Codes.
-/
import Derived.Test.YtdjglpcllcjcfaaGreatDoorP35
import Derived.Test.YtdjglpcllcjcfaaGreatDoorP13
import Derived.Test.YtdjglpcllcjcfaaGreatDoorP6
import Derived.Test.YtdjglpcllcjcfaaGreatDoorP12
import Derived.Test.YtdjglpcllcjcfaaGreatDoorP8
import Derived.Test.YtdjglpcllcjcfaaGreatDoorP10
import Derived.Test.YtdjglpcllcjcfaaGreatDoorP3

/-! Plain facts of chapter 8: what FnOrder and FnReaches test. -/
namespace Go.Proofs.YtdjglpcllcjcfaaGreatDoor
open Go.RowKit

/-- A package is in the order just where what it needs stands ahead of it. -/
theorem order8_law {ps : List Pk} (h : projB ps = true) {p : Pk} (hp : p ∈ ps) : p.1 ∈ order8 ps ↔ ∀ m ∈ p.2.1, m ∈ names8 ps → m ∈ (order8 ps).takeWhile (fun x => decide (x ≠ p.1)) := by
  obtain ⟨ho, hn⟩ := order8_end h
  refine ⟨fun h1 => ho.need p hp h1, fun h1 => ?_⟩
  rcases Decidable.em (p.1 ∈ order8 ps) with h2 | h2
  · exact h2
  · rw [takeW_no h2] at h1
    exact absurd ⟨h2, h1⟩ (next8_none hn p hp)
theorem nodup_take8 {out : List (List UInt8)} (h : out.Nodup) {i : Nat} (hi : i < out.length) : ¬ out.getD i [] ∈ out.take i := by
  have e : out.getD i [] = out[i] := by simp [List.getD, hi]
  rw [e]
  intro hm
  obtain ⟨k, hk, he⟩ := List.mem_iff_getElem.1 hm
  rw [List.length_take] at hk
  rw [List.getElem_take] at he
  have := (List.getElem_inj h).1 he
  omega
theorem takeW_at {x : List UInt8} : ∀ (out : List (List UInt8)) (k : Nat), k ≤ out.length → (∀ i, i < k → out.getD i [] ≠ x) → (k = out.length ∨ out.getD k [] = x) → out.takeWhile (fun y => decide (y ≠ x)) = out.take k
  | [], k, hk, _, _ => by simp
  | a :: r, 0, _, _, he => by
    rcases he with he | he
    · simp at he
    · have : a = x := by simpa using he
      simp [this]
  | a :: r, k + 1, hk, h, he => by
    have h0 : a ≠ x := by simpa using h 0 (by omega)
    have ih := takeW_at (x := x) r k (by simpa using hk) (fun i hi => by simpa using h (i + 1) (by omega)) (by
      rcases he with he | he
      · left; simpa using he
      · right; simpa using he)
    rw [List.takeWhile_cons, if_pos (by simpa using h0), ih, List.take_succ_cons]

/-- What FnReaches looks for in the answer. -/
def Seed8 (ps : List Pk) (o : List (List UInt8)) (s x : List UInt8) : Prop := x = s ∨ ∃ p ∈ ps, p.1 ∈ o ∧ x ∈ p.2.1 ∧ x ∈ names8 ps
theorem seed8_law {ps : List Pk} {s : List UInt8} (h : s ∈ names8 ps) (x : List UInt8) : Seed8 ps (reach8 ps s) s x ↔ x ∈ reach8 ps s := by
  obtain ⟨hr, hs⟩ := reach8_end h
  constructor
  · rintro (rfl | ⟨p, hp, h1, h2, h3⟩)
    · exact hr.self
    · exact hs p hp h1 x h2 h3
  · intro hx
    rcases hr.why x hx with rfl | ⟨p, hp, h1, h2⟩
    · exact Or.inl rfl
    · exact Or.inr ⟨p, hp, h1, h2, hr.sub x hx⟩
theorem filter8_take (ts : List (List UInt8)) (f : List UInt8 → Bool) (k : Nat) (hk : k < ts.length) : (ts.take (k + 1)).filter f = (ts.take k).filter f ++ if f (ts.getD k []) = true then [ts.getD k []] else [] := by
  have e : ts.getD k [] = ts[k] := by simp [List.getD, hk]
  rw [List.take_succ_eq_append_getElem hk, List.filter_append, e]
  by_cases hf : f ts[k] = true
  · rw [if_pos hf]; simp [hf]
  · rw [if_neg hf]; simp [hf]

end Go.Proofs.YtdjglpcllcjcfaaGreatDoor

/-! The laws' own helpers for chapter 8: has, rises. -/
namespace Go.Proofs.YtdjglpcllcjcfaaGreatDoor
open Go.RowKit



set_option maxHeartbeats 1000000 in
set_option maxRecDepth 100000 in
theorem likeTexts8 (a b : Option Addr) (len ca cb : Nat) (ts : List (List UInt8)) (w : World) (ha : TextsIn w a len ts) (hb : TextsIn w b len ts) (hlen : len ≤ 4194304) :
    Calls Tryz.prog 11 #[.slice a len ca, .slice b len cb] w fun e w' => e = .returned (.bool true) ∧ Below w.heap.size w w' := by
  have hne : ((len : Int) != (len : Int)) = false := by simp
  have hself : ∀ l : List UInt8, (l != l) = false := by simp
  have HA : Hid (TextsIn w a len ts) := ha
  have HB : Hid (TextsIn w b len ts) := hb
  clear ha hb
  go_enter Tryz.func11, Tryz.ntmps11
  go_wp2
  go_loopw [5] (fun i wr => ∃ k : Nat, k ≤ len ∧ i = .int .i64 k ∧ Below w.heap.size w wr) (fun i _ => len - (intOf i).toNat)
  case atStart => exact ⟨0, Nat.zero_le _, rfl, Below.refl _ _⟩
  case round =>
    obtain ⟨k, hk, rfl, hB⟩ := hrel
    by_cases hkl : (k : Int) < (len : Int)
    · obtain ⟨b1, o1, rfl, hb1, hca⟩ := (HA.out.below hB).2 k (by omega)
      obtain ⟨b2, o2, rfl, hb2, hcb⟩ := (HB.out.below hB).2 k (by omega)
      obtain ⟨t, ht⟩ : ∃ t, ts.getD k [] = t := ⟨_, rfl⟩
      rw [ht] at hca hcb
      clear ht
      go_wp2
      go_region
      all_goals (try go_wp2)
      go_roundw
      case rel => exact ⟨k + 1, by omega, by go_num, hB.drew⟩
      case measure => simp [intOf]; omega
    · go_wp2
      go_ret
      exact ⟨rfl, hB⟩

end Go.Proofs.YtdjglpcllcjcfaaGreatDoor

/-! Plain facts for FnPackages. -/
namespace Go.Proofs.YtdjglpcllcjcfaaGreatDoor
open Go.RowKit

/-- A function of a good package is found by its name. -/
theorem found_each {p : Pk} (h : pkgB p = true) {i : Nat} (hi : i < p.2.2.length) : foundB p (p.2.2.getD i fn0).1 = true ∧ foundV p (p.2.2.getD i fn0).1 = p.2.2.getD i fn0 := by
  have h1 := h
  unfold pkgB at h1
  rw [Bool.and_eq_true, decide_eq_true_eq] at h1
  have h2 := (h1.2 i hi).2
  have h3 := found_yes (s := (p.2.2.getD i fn0).1) h (by rw [h2]; omega)
  refine ⟨h3.1, ?_⟩
  rw [h3.2, h2]
  rfl
/-- What is found bears the name. -/
theorem found_name {p : Pk} {q : List UInt8} (h : foundB p q = true) : (foundV p q).1 = q := by
  have h1 := h
  unfold foundB at h1
  rw [Bool.and_eq_true, decide_eq_true_eq] at h1
  rw [(found_yes h1.1 h1.2).2]
  have h2 := ((atGo_lt q p.2.2 0).2 h1.2).2
  rw [show atGo q p.2.2 0 - ((0 : Nat) : Int) = atV p.2.2 q by unfold atV; omega] at h2
  exact h2

theorem xs_int {xs : List FV} (h : SmallXs xs) : IntF (xs.map (·.1)) := fun j =>
  have hs := xs_fn h j
  ⟨⟨by have := hs.2.1; omega, by have := hs.2.1; omega⟩, hs.2.2.2.int⟩

/-- A drawn package, as the landed functions are told of it. -/
theorem Drawn7.ok {w wx : World} {v : Value} {nm : List UInt8} {ims : List (List UInt8)} {xs : List FV} (h : Drawn7 w wx v nm ims xs) :
    ∃ ia ic fa fc, v = .agg #[.string ⟨nm.toArray⟩, .slice ia ims.length ic, .slice fa (xs.map (·.1)).length fc] ∧ PkOk wx nm ia ims.length ic fa (xs.map (·.1)).length fc ims (xs.map (·.1)) := by
  obtain ⟨ia, ic, fa, fc, rfl, h1, h2, h3, h4, ho, hf⟩ := h
  obtain ⟨ai, ci, af, cf, e1, e2, hi, hc, hti, hfi⟩ := own_pk ho hf rfl
  rw [e1, e2]
  exact ⟨ai, ci, af, cf, rfl, hti, hfi, hi, hc, xs_int h4, by omega, by rw [List.length_map]; omega, by omega, ims_short h2.2, xs_short h4⟩

theorem nodeB_small7 {n : Nd} (h : nodeB n = true) : SmallN n := by
  obtain ⟨k, a, p, f⟩ := n
  have hp := nodeB_iff.1 h
  unfold nodeP at hp
  simp only at hp
  unfold SmallN IntN
  simp only
  rcases hp with ⟨rfl, ⟨h0, h1⟩, rfl, rfl⟩ | ⟨rfl, ⟨h0, h1⟩, rfl, rfl⟩ | ⟨hk, rfl, rfl, rfl⟩ | ⟨rfl, ⟨h0, h1⟩, hpn, hfn⟩
  · exact ⟨⟨⟨by omega, by omega⟩, by omega, by omega⟩, by simp, by simp⟩
  · exact ⟨⟨⟨by omega, by omega⟩, by omega, by omega⟩, by simp, by simp⟩
  · exact ⟨⟨⟨by omega, by omega⟩, by omega, by omega⟩, by simp, by simp⟩
  · have := (name_letters hpn).1
    have := (name_letters hfn).1
    exact ⟨⟨⟨by omega, by omega⟩, by omega, by omega⟩, by omega, by omega⟩

theorem tree_small7 {ns : List Nd} (h : treeB ns = true) : SmallT ns := fun n hn => nodeB_small7 (tree_nodes h n hn)

/-- A good package is small. -/
theorem pkgB_fn {p : Pk} (h : pkgB p = true) (j : Nat) : SmallFn (p.2.2.getD j fn0) := by
  rw [List.getD_eq_getElem?_getD]
  cases hj : p.2.2[j]? with
  | none => exact ⟨by decide, ⟨by decide, by decide⟩, by decide, fun n hn => by cases hn⟩
  | some f =>
    have hb := (pkgB_parts h).2.2.2.2 f (List.mem_of_getElem? hj)
    unfold funcB at hb
    rw [Bool.and_eq_true, Bool.and_eq_true] at hb
    have h1 := (name_letters hb.1).1.2
    have h2 : 0 ≤ f.2.1 ∧ f.2.1 ≤ 3 := by have := hb.2.1; unfold inB at this; simpa using this
    have h3 := (tree_end hb.2.2).1.2
    show SmallFn f
    exact ⟨by omega, by omega, by omega, tree_small7 hb.2.2⟩
theorem pkgB_ok {nm : List UInt8} {ims : List (List UInt8)} {fs : List Fn} (h : pkgB (nm, ims, fs) = true) : IntF fs ∧ ShortF fs ∧ ims.length ≤ 6 ∧ fs.length ≤ 8 ∧ nm.length ≤ 8 ∧ ∀ t ∈ ims, t.length ≤ 9 := by
  obtain ⟨h1, h2, h3, h4, _⟩ := pkgB_parts h
  have hn := (name_letters h1).1.2
  refine ⟨fun j => ?_, fun j => ?_, h3, h4.2, hn, fun t ht => Nat.le_trans (name_letters (h2 t ht)).1.2 (by omega)⟩
  · have hs : SmallFn (fs.getD j fn0) := pkgB_fn h j
    exact ⟨⟨by have := hs.2.1; omega, by have := hs.2.1; omega⟩, hs.2.2.2.int⟩
  · have hs : SmallFn (fs.getD j fn0) := pkgB_fn h j
    exact ⟨Nat.le_trans hs.1 (by omega), Nat.le_trans hs.2.2.1 (by omega), hs.2.2.2.short⟩
/-- What was read, as the landed functions are told of it. -/
theorem read_ok (l : List UInt8) : IntF (readPV l).2.2 ∧ ShortF (readPV l).2.2 ∧ (readPV l).2.1.length ≤ 6 ∧ (readPV l).2.2.length ≤ 8 ∧ (readPV l).1.length ≤ 8 ∧ ∀ t ∈ (readPV l).2.1, t.length ≤ 9 := by
  rcases read_pv l with ⟨_, h, _⟩ | ⟨_, h⟩
  · exact pkgB_ok h
  · rw [h]
    exact ⟨fun j => by simp [pk0, fn0, IntT, IntN, nd0], fun j => by simp [pk0, fn0, ShortT, nd0], by decide, by decide, by decide, fun t ht => by cases ht⟩

end Go.Proofs.YtdjglpcllcjcfaaGreatDoor

/-! A code that came in, as the laws' walks take it. -/
namespace Go.Proofs.YtdjglpcllcjcfaaGreatDoor
open Go.RowKit

theorem code_nil (w : World) : Code w w.heap.size none 0 := fun j hj => by omega

theorem code_of (w : World) (x : Addr) (len : Nat) (zs : List Int) (h : ∀ i, i < zs.length → w.cell? (x.add i) = some (.int .u8 (zs.getD i 0))) (hl : len ≤ zs.length) (hw : ∀ n ∈ zs, (Lit.int .u8 n).wf = true) : Code w w.heap.size (some x) len := by
  intro j hj
  obtain ⟨b, off, spot⟩ := x
  have hc := h j (by omega)
  have hspot : spot = none := by simpa [Addr.add] using World.cell?_spot (h 0 (by omega))
  subst hspot
  have e : (⟨b, off, none⟩ : Addr).add j = ⟨b, off + j, none⟩ := by unfold Addr.add; split <;> simp_all
  rw [e] at hc
  have hb := bounds_u8 (hw (zs.getD j 0) (by rw [List.getD_eq_getElem?_getD, List.getElem?_eq_getElem (by omega)]; exact List.getElem_mem _))
  exact ⟨b, off, _, rfl, World.block_lt_of_cell? w ⟨b, off + j, none⟩ hc, hc, hb⟩

theorem Code.later {w w' : World} {a : Option Addr} {len : Nat} (h : Code w w.heap.size a len) (hb : Below w.heap.size w w') : Code w' w'.heap.size a len := by
  intro j hj
  obtain ⟨b, off, x, e1, e2, e3, e0⟩ := h j hj
  exact ⟨b, off, x, e1, Nat.lt_of_lt_of_le e2 hb.size, (hb.cell (p := ⟨b, off + j, none⟩) e2).trans e3, e0⟩

theorem Code.kept {w w' : World} {a : Option Addr} {len : Nat} (h : Code w w.heap.size a len) (hg : w.grownBy w' none) : Code w' w'.heap.size a len :=
  h.later ⟨hg.os, hg.tape, hg.output, hg.size, fun k hk => hg.block k hk (by simp)⟩

set_option maxHeartbeats 400000 in
set_option maxRecDepth 100000 in
theorem bigB (w : World) (a : Option Addr) (len cap : Nat) :
    Calls Tryz.prog 5 #[.slice a len cap] w fun e w' => e = .returned (.bool (decide (4096 < (len : Int)))) ∧ w' = w := by
  go_enter Tryz.func5, Tryz.ntmps5
  go_wp2
  go_ret
  exact ⟨rfl, rfl⟩

theorem code_some {w : World} {B : Nat} {a : Option Addr} {len : Nat} (h : Code w B a len) (hz : len ≠ 0) : ∃ b off, a = some ⟨b, off, none⟩ ∧ ∀ j, j < len → ∃ x : Int, w.cell? ⟨b, off + j, none⟩ = some (.int .u8 x) ∧ 0 ≤ x ∧ x ≤ 255 := by
  obtain ⟨b, off, x, rfl, _, _⟩ := h 0 (by omega)
  refine ⟨b, off, rfl, fun j hj => ?_⟩
  obtain ⟨b', off', x', e1, _, e3, e4⟩ := h j hj
  injection e1 with e1
  injection e1 with e5 e6
  subst e5 e6
  exact ⟨x', e3, e4⟩


end Go.Proofs.YtdjglpcllcjcfaaGreatDoor
