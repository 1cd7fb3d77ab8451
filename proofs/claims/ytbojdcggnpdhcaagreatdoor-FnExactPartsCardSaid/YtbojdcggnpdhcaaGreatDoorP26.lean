/-
  Parts of one proof, one behind the other: ProjK, HasI, PlcI, ProjJ.
-/
import Derived.Test.YtbojdcggnpdhcaaGreatDoorP25
import Derived.Test.YtbojdcggnpdhcaaGreatDoorP3
import Derived.Test.YtbojdcggnpdhcaaGreatDoorP22
import Derived.Test.YtbojdcggnpdhcaaGreatDoorP21
import Derived.Test.YtbojdcggnpdhcaaGreatDoorP18
import Derived.Test.YtbojdcggnpdhcaaGreatDoorP10

/-! What the landed functions of chapter 8 are told of a project. -/
namespace Go.Proofs.YtbojdcggnpdhcaaGreatDoor
open Go.RowKit

/-- What the landed functions are told of a project that they are handed. -/
structure PkgsOk (w : World) (a : Option Addr) (len cap : Nat) (ps : List Pk) : Prop where
  hlen : ps.length = len
  nil : a = none → cap = 0
  hcap : len ≤ cap
  small : len ≤ 1048576
  each : ∀ j, j < len → ∃ b off, a = some ⟨b, off, none⟩ ∧ b < w.heap.size ∧ w.cell? ⟨b, off + j * 3, none⟩ = some (.string ⟨(ps.getD j pk0).1.toArray⟩) ∧
    ∃ ia il ic fa fl fc, w.cell? ⟨b, off + j * 3 + 1, none⟩ = some (.slice ia il ic) ∧ w.cell? ⟨b, off + j * 3 + 2, none⟩ = some (.slice fa fl fc) ∧ PkOk w (ps.getD j pk0).1 ia il ic fa fl fc (ps.getD j pk0).2.1 (ps.getD j pk0).2.2
theorem PkgsOk.below {w w' : World} {a : Option Addr} {len cap : Nat} {ps : List Pk} (h : PkgsOk w a len cap ps) (hb : Below w.heap.size w w') : PkgsOk w' a len cap ps :=
  ⟨h.hlen, h.nil, h.hcap, h.small, fun j hj => by
    obtain ⟨b, off, e, hlt, c0, ia, il, ic, fa, fl, fc, c1, c2, hk⟩ := h.each j hj
    exact ⟨b, off, e, Nat.lt_of_lt_of_le hlt hb.size, (hb.cell (p := ⟨b, off + j * 3, none⟩) hlt).trans c0, ia, il, ic, fa, fl, fc, (hb.cell (p := ⟨b, off + j * 3 + 1, none⟩) hlt).trans c1, (hb.cell (p := ⟨b, off + j * 3 + 2, none⟩) hlt).trans c2, hk.below hb⟩⟩
theorem PkgsOk.in {w : World} {a : Option Addr} {len cap : Nat} {ps : List Pk} (h : PkgsOk w a len cap ps) : PkgsIn w a len ps :=
  ⟨h.hlen, fun j hj => by
    obtain ⟨b, off, e, hlt, c0, ia, il, ic, fa, fl, fc, c1, c2, hk⟩ := h.each j hj
    exact ⟨b, off, e, hlt, c0, ia, il, ic, fa, fl, fc, c1, c2, hk.i, hk.f⟩⟩
theorem PkgsOk.short {w : World} {a : Option Addr} {len cap : Nat} {ps : List Pk} (h : PkgsOk w a len cap ps) : ShortPs ps := fun j => by
  by_cases hj : j < len
  · obtain ⟨b, off, e, hlt, c0, ia, il, ic, fa, fl, fc, c1, c2, hk⟩ := h.each j hj
    exact ⟨hk.nm, by rw [hk.i.1]; exact hk.il, hk.is, by rw [hk.f.1]; exact hk.fl, hk.fs⟩
  · have : ps.getD j pk0 = pk0 := by rw [List.getD, List.getElem?_eq_none (by rw [h.hlen]; omega)]; rfl
    rw [this]
    exact ⟨by simp [pk0], by simp [pk0], fun i => by simp [pk0], by simp [pk0], fun i => by simp [pk0, fn0, ShortT, nd0]⟩
/-- A project that a call owns, as they are told of it. -/
theorem PjOwn.ok {w : World} {B T : Nat} {g len cap : Nat} {ys : List PV} {ps : List Pk} (h : PjOwn w B T (.slice (some ⟨g, 0, none⟩) len cap) ys) (hp : ys.map pvP = ps) (hi : IntPs ps) (hs : ShortPs ps) (hl : ps.length = len) (hlen : len ≤ 1048576) : PkgsOk w (some ⟨g, 0, none⟩) len cap ps := by
  have hyl : ys.length = len := by rw [← hl, ← hp, List.length_map]
  have hrow := h.row
  rw [hyl] at hrow
  have hcap : len ≤ cap := by
    rcases hrow.2 with ⟨e, _⟩ | ⟨g', cap', cur, e, _, _, hc, _⟩
    · cases e
    · injection e with _ _ e3; rw [e3]; exact hc
  refine ⟨hl, (fun e => (by cases e)), hcap, hlen, fun j hj => ?_⟩
  obtain ⟨v0, v1, v2⟩ := pvsV_at ys j (by omega)
  have hc := fun k (hk : k < len * 3) => World.ownsRow.cellAt hrow k hk
  have hmem : ys.getD j pv0 ∈ ys := by simp [List.getD, show j < ys.length by omega]
  have hy := (h.each _ hmem).1
  obtain ⟨ai, ci, af, cf, e1, e2, h3, h4, hti, hfi⟩ := own_pk hy.im hy.fo rfl
  have hpj : ps.getD j pk0 = pvP (ys.getD j pv0) := by rw [← hp]; exact getD_map_pv ys j
  have hsj := hs j
  have hij := hi j
  rw [hpj] at hsj hij ⊢
  refine ⟨g, 0, rfl, (hrow.lt g rfl).2, ?_, ai, (ys.getD j pv0).ims.length, ci, af, ((ys.getD j pv0).xs.map (fun x : FV => x.1)).length, cf, ?_, ?_, ⟨hti, hfi, h3, h4, hij, hsj.2.1, hsj.2.2.2.1, hsj.1, hsj.2.2.1, hsj.2.2.2.2⟩⟩
  · rw [Nat.zero_add, hc _ (by omega), v0]; rfl
  · rw [Nat.zero_add, hc _ (by omega), v1, e1]
  · rw [Nat.zero_add, hc _ (by omega), v2, e2]

theorem fend_le8 (k : Nat) (xs : List FV) : fend k xs ≤ k + 4 * (xs.length + fnsSz (xs.map (·.1))) := by
  induction xs generalizing k with
  | nil => simp [fend, fnsSz]
  | cons x r ih =>
    have h1 := ih (k + 2 + 4 * x.1.2.2.length)
    have h2 : x.1.2.2.length ≤ fnSz x.1 := by unfold fnSz; omega
    simp only [fend, List.length_cons, List.map_cons, fnsSz]
    omega
theorem mend_le8 (k : Nat) (ys : List PV) : mend k ys ≤ k + ys.length + 4 * psSz (ys.map pvP) := by
  induction ys generalizing k with
  | nil => simp [mend, psSz]
  | cons y r ih =>
    have h1 := ih (fend (k + 1 + y.ims.length) y.xs)
    have h2 := fend_le8 (k + 1 + y.ims.length) y.xs
    have h3 : pkZ (pvP y) = y.nm.length + (y.ims.length + joinN y.ims) + (y.xs.length + fnsSz (y.xs.map (·.1))) := by unfold pkZ pkSz pvP; simp
    simp only [mend, List.length_cons, List.map_cons, psSz]
    omega
/-- How much the marks of a project may be. -/
theorem pj_small {ys : List PV} {ps : List Pk} (hp : ys.map pvP = ps) (hz : ps.length + psSz ps ≤ 1048576) : (∀ y ∈ ys, y.ims.length ≤ 1100000 ∧ y.xs.length ≤ 1100000 ∧ ∀ x ∈ y.xs, x.1.2.2.length ≤ 1100000) ∧ mend 1 ys ≤ 30000000 := by
  have hyl : ys.length = ps.length := by rw [← hp, List.length_map]
  refine ⟨fun y hy => ?_, ?_⟩
  · obtain ⟨i, hi, rfl⟩ := List.mem_iff_getElem.1 hy
    have h1 := psSz_at ps i
    have h2 : ps.getD i pk0 = pvP ys[i] := by rw [← hp, getD_map_pv]; simp [List.getD, hi]
    rw [h2] at h1
    have h3 : pkZ (pvP ys[i]) = ys[i].nm.length + (ys[i].ims.length + joinN ys[i].ims) + (ys[i].xs.length + fnsSz (ys[i].xs.map (·.1))) := by unfold pkZ pkSz pvP; simp
    refine ⟨by omega, by omega, fun x hx => ?_⟩
    obtain ⟨j, hj, rfl⟩ := List.mem_iff_getElem.1 hx
    have h4 := fnsSz_at (ys[i].xs.map (·.1)) j
    have h5 : (ys[i].xs.map (·.1)).getD j fn0 = (ys[i].xs[j]).1 := by simp [List.getD, hj]
    rw [h5] at h4
    unfold fnSz at h4
    omega
  · have := mend_le8 1 ys
    rw [hp] at this
    omega
theorem orderV_len (ps : List Pk) : (orderV ps).length ≤ 8 := by
  unfold orderV
  split
  · rename_i h
    have h1 := (order8_end h).1.len
    have h2 := (projB_parts h).2.1
    omega
  · simp
theorem here_parts {ps : List Pk} {s : List UInt8} (h : hereB ps s = true) : projB ps = true ∧ s ∈ names8 ps := by
  unfold hereB at h
  rw [Bool.and_eq_true, decide_eq_true_eq] at h
  exact ⟨h.1, (at8_mem ps s).1 h.2⟩
theorem reachV_len (ps : List Pk) (s : List UInt8) : (reachV ps s).length ≤ 8 := by
  unfold reachV
  split
  · rename_i h
    have h0 := here_parts h
    have h1 := (reach8_end h0.2).1.len
    have h2 := (projB_parts h0.1).2.1
    omega
  · simp
theorem needV_len (ps : List Pk) (s : List UInt8) : (needV ps s).length ≤ 8 := by
  unfold needV
  split
  · rename_i h
    have h0 := here_parts h
    have h1 := (order8_end h0.1).1.len
    have h2 := (projB_parts h0.1).2.1
    have h3 : (need8 ps s).length ≤ (order8 ps).length := List.length_filter_le _ _
    omega
  · simp

end Go.Proofs.YtbojdcggnpdhcaaGreatDoor

/-! The contract of slices.Contains at texts. -/
namespace Go.Proofs.YtbojdcggnpdhcaaGreatDoor
open Go.RowKit

theorem not_mem_s {l : List (List UInt8)} {x : List UInt8} (h : ∀ i, i < l.length → l.getD i [] ≠ x) : ¬ x ∈ l := fun hm => by
  obtain ⟨i, hi, e⟩ := List.mem_iff_getElem.1 hm
  exact h i hi (by simp [List.getD, hi, e])

set_option maxHeartbeats 1000000 in
set_option maxRecDepth 100000 in
theorem indexStr (a : Option Addr) (n c : Nat) (l : List (List UInt8)) (x : List UInt8) (w : World) (hin : TextsIn w a n l) (hn : n ≤ 1048576) :
    Calls Tryz.prog 86 #[.slice a n c, .string ⟨x.toArray⟩] w fun e w' => ∃ y : Int, e = .returned (.int .i64 y) ∧ Hid (0 ≤ y ↔ x ∈ l) ∧ w' = w := by
  obtain rfl : l.length = n := hin.1
  have HI : Hid (TextsIn w a l.length l) := hin
  clear hin
  go_enter Tryz.func86, Tryz.ntmps86
  go_wp2
  go_loopw [8] (fun iv wr => ∃ k : Nat, iv = .int .i64 (k : Int) ∧ k ≤ l.length ∧ Hid (∀ i, i < k → l.getD i [] ≠ x) ∧ wr = w) (fun iv _ => l.length - (intOf iv).toNat)
  case atStart => exact ⟨0, rfl, by omega, (fun i hi => by omega), rfl⟩
  case round =>
    obtain ⟨k, rfl, hk, HA, hwr⟩ := hrel
    obtain rfl := hwr.symm
    by_cases hlt : (k : Int) < (l.length : Int)
    · have hk2 : k < l.length := by omega
      obtain ⟨b, off, rfl, hbl, c0⟩ := HI.out.2 k hk2
      have hmem : l.getD k [] ∈ l := by simp [List.getD, hk2]
      obtain ⟨y, hy⟩ : ∃ y, l.getD k [] = y := ⟨_, rfl⟩
      rw [hy] at c0 hmem
      by_cases hxy : x = y
      · subst hxy
        have HM : Hid (0 ≤ (k : Int) ↔ x ∈ l) := ⟨fun _ => hmem, fun _ => by omega⟩
        have hself : (x == x) = true := by simp
        clear HA hy hmem
        go_wp2
        go_ret
        exact ⟨_, rfl, HM, rfl⟩
      · have HA2 : Hid (∀ i, i < k + 1 → l.getD i [] ≠ x) := fun i hi => by
          rcases Nat.lt_or_ge i k with h | h
          · exact HA.out i h
          · obtain rfl : i = k := by omega
            rw [hy]; exact fun e => hxy e.symm
        have hne : (x == y) = false := beq_eq_false_iff_ne.2 hxy
        clear HA hy hmem
        go_wp2
        go_roundw
        case rel => exact ⟨k + 1, by go_num, by omega, HA2, trivial⟩
        case measure => simp [intOf]; omega
    · have HM : Hid (0 ≤ (-1 : Int) ↔ x ∈ l) := ⟨fun h => by omega, fun h => absurd h (not_mem_s (fun i hi => HA.out i (by omega)))⟩
      go_wp2
      go_ret
      exact ⟨_, rfl, HM, rfl⟩
theorem containsStr (a : Option Addr) (n c : Nat) (l : List (List UInt8)) (x : List UInt8) (w : World) (hin : TextsIn w a n l) (hn : n ≤ 1048576) :
    Calls Tryz.prog 66 #[.slice a n c, .string ⟨x.toArray⟩] w fun e w' => e = .returned (.bool (decide (x ∈ l))) ∧ w' = w := by
  have hI := indexStr a n c l x w hin hn
  go_enter Tryz.func66, Tryz.ntmps66
  go_wp2_with fail
  refine hI.mono ?_
  rintro e w1 ⟨y, rfl, HM, hw⟩
  obtain rfl := hw.symm
  clear hI
  go_wp2
  go_ret
  exact ⟨by rw [decide_eq_decide.2 HM.out.symm]; rfl, rfl⟩

end Go.Proofs.YtbojdcggnpdhcaaGreatDoor

/-! The contracts of the landed code of chapter 8: places of packages, names at places, ProjectOk; slices.Contains. -/
namespace Go.Proofs.YtbojdcggnpdhcaaGreatDoor
open Go.RowKit

/-- Numbers that can be read. -/
def NatsIn (w : World) (a : Option Addr) (n : Nat) (l : List Nat) : Prop := l.length = n ∧ ∀ j, j < n → ∃ b off, a = some ⟨b, off, none⟩ ∧ b < w.heap.size ∧ w.cell? ⟨b, off + j, none⟩ = some (.int .i64 ((l.getD j 0 : Nat) : Int))
theorem NatsIn.below {w w' : World} {a : Option Addr} {n : Nat} {l : List Nat} (h : NatsIn w a n l) (hb : Below w.heap.size w w') : NatsIn w' a n l :=
  ⟨h.1, fun j hj => by
    obtain ⟨b, off, e, hlt, c⟩ := h.2 j hj
    exact ⟨b, off, e, Nat.lt_of_lt_of_le hlt hb.size, (hb.cell (p := ⟨b, off + j, none⟩) hlt).trans c⟩⟩
theorem own_nats {w : World} {B n : Nat} {v : Value} {l : List Nat} (h : w.ownsRow B 3 1 v n (natV l)) (hn : l.length = n) : ∃ a c, v = .slice a n c ∧ NatsIn w a n l := by
  rcases own_forms h with ⟨rfl, rfl, _⟩ | ⟨g, c, rfl⟩
  · exact ⟨none, 0, rfl, hn, fun j hj => by omega⟩
  · exact ⟨_, c, rfl, hn, fun j hj => ⟨g, 0, rfl, (h.lt g rfl).2, by rw [Nat.zero_add]; exact nat_cell h hn j hj⟩⟩
theorem getD_mem_n {l : List Nat} {k : Nat} (hk : k < l.length) : l.getD k 0 ∈ l := by simp [List.getD, hk]
theorem not_mem_n {l : List Nat} {x : Nat} (h : ∀ i, i < l.length → l.getD i 0 ≠ x) : ¬ x ∈ l := fun hm => by
  obtain ⟨i, hi, e⟩ := List.mem_iff_getElem.1 hm
  exact h i hi (by simp [List.getD, hi, e])

set_option maxHeartbeats 1000000 in
set_option maxRecDepth 100000 in
theorem indexNat (a : Option Addr) (n c : Nat) (l : List Nat) (x : Nat) (w : World) (hin : NatsIn w a n l) (hn : n ≤ 1048576) :
    Calls Tryz.prog 67 #[.slice a n c, .int .i64 (x : Int)] w fun e w' => ∃ y : Int, e = .returned (.int .i64 y) ∧ Hid (0 ≤ y ↔ x ∈ l) ∧ w' = w := by
  obtain rfl : l.length = n := hin.1
  have HI : Hid (NatsIn w a l.length l) := hin
  clear hin
  go_enter Tryz.func67, Tryz.ntmps67
  go_wp2
  go_loopw [8] (fun iv wr => ∃ k : Nat, iv = .int .i64 (k : Int) ∧ k ≤ l.length ∧ Hid (∀ i, i < k → l.getD i 0 ≠ x) ∧ wr = w) (fun iv _ => l.length - (intOf iv).toNat)
  case atStart => exact ⟨0, rfl, by omega, (fun i hi => by omega), rfl⟩
  case round =>
    obtain ⟨k, rfl, hk, HA, hwr⟩ := hrel
    obtain rfl := hwr.symm
    by_cases hlt : (k : Int) < (l.length : Int)
    · have hk2 : k < l.length := by omega
      obtain ⟨b, off, rfl, hbl, c0⟩ := HI.out.2 k hk2
      have hmem := getD_mem_n hk2
      obtain ⟨y, hy⟩ : ∃ y, l.getD k 0 = y := ⟨_, rfl⟩
      rw [hy] at c0 hmem
      by_cases hxy : x = y
      · subst hxy
        have HM : Hid (0 ≤ (k : Int) ↔ x ∈ l) := ⟨fun _ => hmem, fun _ => by omega⟩
        clear HA hy hmem
        go_wp2
        go_ret
        exact ⟨_, rfl, HM, rfl⟩
      · have HA2 : Hid (∀ i, i < k + 1 → l.getD i 0 ≠ x) := fun i hi => by
          rcases Nat.lt_or_ge i k with h | h
          · exact HA.out i h
          · obtain rfl : i = k := by omega
            rw [hy]; exact fun e => hxy e.symm
        have hne : ¬ (x : Int) = (y : Int) := by omega
        have hne2 : ((x : Int) == (y : Int)) = false := beq_eq_false_iff_ne.2 hne
        clear HA hy hmem
        go_wp2
        go_roundw
        case rel => exact ⟨k + 1, by go_num, by omega, HA2, trivial⟩
        case measure => simp [intOf]; omega
    · have HM : Hid (0 ≤ (-1 : Int) ↔ x ∈ l) := ⟨fun h => by omega, fun h => absurd h (not_mem_n (fun i hi => HA.out i (by omega)))⟩
      go_wp2
      go_ret
      exact ⟨_, rfl, HM, rfl⟩
theorem containsNat (a : Option Addr) (n c : Nat) (l : List Nat) (x : Nat) (w : World) (hin : NatsIn w a n l) (hn : n ≤ 1048576) :
    Calls Tryz.prog 36 #[.slice a n c, .int .i64 (x : Int)] w fun e w' => e = .returned (.bool (decide (x ∈ l))) ∧ w' = w := by
  have hI := indexNat a n c l x w hin hn
  go_enter Tryz.func36, Tryz.ntmps36
  go_wp2_with fail
  refine hI.mono ?_
  rintro e w1 ⟨y, rfl, HM, hw⟩
  obtain rfl := hw.symm
  clear hI
  go_wp2
  go_ret
  exact ⟨by rw [decide_eq_decide.2 HM.out.symm]; rfl, rfl⟩


set_option maxHeartbeats 2000000 in
set_option maxRecDepth 100000 in
theorem implPlacePk (a : Option Addr) (len cap : Nat) (ps : List Pk) (s : List UInt8) (w : World) (hin : PkgsIn w a len ps) (hlen : len ≤ 1048576) :
    Calls Tryz.prog 61 #[.slice a len cap, .string ⟨s.toArray⟩] w fun e w' => e = .returned (.int .i64 (at8 ps s)) ∧ Below w.heap.size w w' := by
  obtain rfl : ps.length = len := hin.1
  have HI : Hid (PkgsIn w a ps.length ps) := hin
  clear hin
  go_enter Tryz.func61, Tryz.ntmps61
  go_wp2
  go_loopw [9] (fun iv wr => ∃ j : Nat, iv = .int .i64 (j : Int) ∧ j ≤ ps.length ∧ Hid (at8 ps s = at8Go s (ps.drop j) j) ∧ Hid (Below w.heap.size w wr)) (fun iv _ => ps.length - (intOf iv).toNat)
  case atStart => exact ⟨0, rfl, by omega, (rfl : at8 ps s = at8Go s (ps.drop 0) 0), Below.refl _ _⟩
  case round =>
    obtain ⟨j, rfl, hj, HA, HB⟩ := hrel
    by_cases hlt : (j : Int) < (ps.length : Int)
    · obtain ⟨b, off, rfl, hbl, c0, ia, il, ic, fa, fl, fc, c1, c2, _, _⟩ := (HI.out.below HB.out).2 j (by omega)
      have hg := at8Go_drop (ps := ps) (k := j) (by omega) s
      obtain ⟨x, hx⟩ : ∃ x, (ps.getD j pk0).1 = x := ⟨_, rfl⟩
      rw [hx] at c0 hg
      obtain ⟨bx, hbx⟩ := Box3.new wr (.string ⟨x.toArray⟩) (.slice ia il ic) (.slice fa fl fc) 42
      obtain ⟨X, hX⟩ : ∃ X, wr.alloc (.cells #[.string ⟨x.toArray⟩, .slice ia il ic, .slice fa fl fc] 42) = X := ⟨_, rfl⟩
      rw [hX] at bx hbx
      have d0 := bx.c0
      have d1 := bx.c1
      have d2 := bx.c2
      have HB2 : Hid (Below w.heap.size w X) := HB.out.trans (hbx.mono HB.out.size)
      clear bx hbx
      by_cases hxs : x = s
      · subst hxs
        have HR : Hid (at8 ps x = (j : Int)) := by exact (by rw [HA.out, hg, if_pos rfl] : at8 ps x = (j : Int))
        have hself : (x == x) = true := by simp
        clear HA hg hx
        go_wp2
        go_ret
        exact ⟨by rw [HR.out]; rfl, HB2.out⟩
      · have HR : Hid (at8 ps s = at8Go s (ps.drop (j + 1)) (j + 1)) := by exact (by rw [HA.out, hg, if_neg hxs] : at8 ps s = at8Go s (ps.drop (j + 1)) (j + 1))
        have hne : (x == s) = false := by rw [beq_eq_false_iff_ne]; exact hxs
        clear HA hg hx
        go_wp2
        go_roundw
        case rel => exact ⟨j + 1, by go_num, by omega, HR, HB2⟩
        case measure => simp [intOf]; omega
    · have HR : Hid (at8 ps s = -1) := by exact (by rw [HA.out, List.drop_of_length_le (by omega)]; rfl : at8 ps s = -1)
      go_wp2
      go_ret
      exact ⟨by rw [HR.out]; rfl, HB.out⟩

set_option maxHeartbeats 2000000 in
set_option maxRecDepth 100000 in
theorem implPlacesOf (a : Option Addr) (len cap : Nat) (ps : List Pk) (i : Nat) (w : World) (hin : PkgsOk w a len cap ps) (hi : i < len) :
    Calls Tryz.prog 62 #[.slice a len cap, .int .i64 (i : Int)] w fun e w' => ∃ v, e = .returned v ∧ w'.ownsRow w.heap.size 3 1 v (plc ps (imsAt ps i)).length (natV (plc ps (imsAt ps i))) ∧ Below w.heap.size w w' := by
  have HI : Hid (PkgsOk w a len cap ps) := hin
  obtain ⟨b, off, rfl, hbl, c0, ia, il, ic, fa, fl, fc, c1, c2, hpk⟩ := hin.each i hi
  have hsm := hin.small
  have hil := hpk.il
  obtain ⟨ims, hims⟩ : ∃ ims, imsAt ps i = ims := ⟨_, rfl⟩
  have hti : TextsIn w ia il ims := by rw [← hims]; exact hpk.i
  rw [hims]
  obtain rfl : ims.length = il := hti.1
  have HT : Hid (TextsIn w ia ims.length ims) := hti
  have hi2 : (i : Int) < (len : Int) := by omega
  have c1a : (w.alloc (.cells #[] 3)).cell? ⟨b, off + i * 3 + 1, none⟩ = some (.slice ia ims.length ic) := (((Below.refl _ w).alloc (Nat.le_refl _) _).cell (p := ⟨b, off + i * 3 + 1, none⟩) hbl).trans c1
  have HO0 : Hid ((w.alloc (.cells #[] 3)).ownsRow w.heap.size 3 1 (.slice (some ⟨w.heap.size, 0, none⟩) 0 0) 0 (natV (plc ps (ims.take 0)))) := World.ownsRow_lit (base := w.heap.size) (e := 3) (size := 1) w #[] 0 (Nat.le_refl _) (by decide) rfl
  have HB0 : Hid (Below w.heap.size w (w.alloc (.cells #[] 3))) := (Below.refl _ _).alloc (Nat.le_refl _) _
  clear hin hpk hims hti c0 c2
  go_enter Tryz.func62, Tryz.ntmps62
  go_wp2
  go_loopw [5, 16] (fun pv iv wr => ∃ (k m : Nat) (pa : Option Addr) (pc : Nat), pv = .slice pa m pc ∧ iv = .int .i64 (k : Int) ∧ k ≤ ims.length ∧ m ≤ k ∧ Hid ((plc ps (ims.take k)).length = m) ∧ Hid (wr.ownsRow w.heap.size 3 1 (.slice pa m pc) m (natV (plc ps (ims.take k)))) ∧ Hid (Below w.heap.size w wr)) (fun _ iv _ => ims.length - (intOf iv).toNat)
  case atStart => exact ⟨0, 0, _, 0, rfl, rfl, by omega, by omega, rfl, HO0, HB0⟩
  case round =>
    obtain ⟨k, m, pa, pc, rfl, rfl, hk, hmk, HLm, HO, HB⟩ := hrel
    clear HO0 HB0
    by_cases hlt : (k : Int) < (ims.length : Int)
    · have hk2 : k < ims.length := by omega
      obtain ⟨b2, off2, rfl, _, d0⟩ := (HT.out.below HB.out).2 k hk2
      have hpt := plc_take ps ims hk2
      obtain ⟨x, hx⟩ : ∃ x, ims.getD k [] = x := ⟨_, rfl⟩
      rw [hx] at d0 hpt
      have HP : Hid (_) := implPlacePk (some ⟨b, off, none⟩) len cap ps x wr (HI.out.below HB.out).in (by omega)
      rcases at8_is ps x with ⟨ea, _⟩ | ⟨q, hq, ea, _, _⟩
      · rw [ea] at HP
        rw [ea, if_neg (by decide)] at hpt
        have HPT : Hid (plc ps (ims.take (k + 1)) = plc ps (ims.take k)) := hpt
        clear hpt hx ea
        go_wp2_with (go_at_call 61; refine Calls.mono HP.out ?_; rintro e w1 ⟨rfl, hb1⟩; have HB1 : Hid (Below w.heap.size w w1) := HB.out.trans (hb1.mono HB.out.size); have HO1 := own_below HO.out hb1; rw [← HPT.out] at HO1; clear hb1)
        go_roundw
        case rel => exact ⟨k + 1, m, pa, pc, rfl, by go_num, by omega, by omega, by exact (by rw [HPT.out]; exact HLm.out : (plc ps (ims.take (k + 1))).length = m), HO1, HB1⟩
        case measure => simp [intOf]; omega
      · rw [ea] at HP
        rw [ea, if_pos (by omega), Int.toNat_natCast] at hpt
        have HPT : Hid (plc ps (ims.take (k + 1)) = plc ps (ims.take k) ++ [q]) := hpt
        have hqn : ¬ (q : Int) = -1 := by omega
        have hqb : ((q : Int) != -1) = true := by rw [bne_iff_ne]; exact hqn
        have hqb2 : ((q : Int) == -1) = false := beq_eq_false_iff_ne.2 hqn
        clear hpt hx ea
        go_wp2_with fail
        refine Calls.mono HP.out ?_
        rintro e w1 ⟨rfl, hb1⟩
        have hB1 : Below w.heap.size w w1 := HB.out.trans (hb1.mono HB.out.size)
        have hO1 := own_below HO.out hb1
        obtain ⟨v', Y, hr, ho, hg, _⟩ := push_nat 62 Tryz.underlying62 q hO1 hB1.size (by omega)
        obtain ⟨g', c', rfl⟩ := own_some ho (by omega)
        rw [← HPT.out] at ho
        have HOY : Hid (Y.ownsRow w.heap.size 3 1 (.slice (some ⟨g', 0, none⟩) (m + 1) c') (m + 1) (natV (plc ps (ims.take (k + 1))))) := ho
        have HBY : Hid (Below w.heap.size w Y) := hB1.grown hg hB1.size (fun q e => (hO1.lt q e).1)
        clear hb1 hO1 hB1 ho hg HP
        go_wp2_with (at_builtin; refine wpList_append_run rfl (.tmp 25) (.tmp 27) 62 rfl _ _ _ rfl rfl hr ?_; clear hr)
        go_roundw
        case rel => exact ⟨k + 1, m + 1, _, c', rfl, by go_num, by omega, by omega, by exact (by rw [HPT.out, List.length_append, List.length_singleton, HLm.out] : (plc ps (ims.take (k + 1))).length = m + 1), HOY, HBY⟩
        case measure => simp [intOf]; omega
    · have HE : Hid (ims.take k = ims) := List.take_of_length_le (by omega)
      go_wp2
      go_ret
      exact ⟨_, rfl, by have h1 := HO.out; have h2 := HLm.out; rw [HE.out] at h1 h2; rw [h2]; exact h1, HB.out⟩

end Go.Proofs.YtbojdcggnpdhcaaGreatDoor

/-! The contracts of the landed code of chapter 8: ProjectOk, a package of a project by its name, names at places. -/
namespace Go.Proofs.YtbojdcggnpdhcaaGreatDoor
open Go.RowKit

/-- What ProjectOk holds ahead of place k. -/
structure PjSt (ps : List Pk) (k : Nat) (z : List UInt8) : Prop where
  ok : ∀ i, i < k → pj8 ps i
  last : (k = 0 ∧ z = []) ∨ (0 < k ∧ z = (ps.getD (k - 1) pk0).1)
theorem PjSt.pk {ps : List Pk} {k : Nat} (hk : k < ps.length) (h : pkgB (ps.getD k pk0) = false) : projB ps = false := projB_no hk (fun e => by have := e.1; rw [h] at this; cases this)
theorem PjSt.low {ps : List Pk} {k : Nat} {z : List UInt8} (s : PjSt ps k z) (hk : k < ps.length) (hp : pkgB (ps.getD k pk0) = true) (h : leT (ps.getD k pk0).1 z = true) : projB ps = false := by
  refine projB_no hk (fun e => ?_)
  rcases s.last with ⟨_, rfl⟩ | ⟨h0, rfl⟩
  · rw [leT_nil (pkgB_parts hp).1] at h; cases h
  · rw [e.2 h0] at h; cases h
theorem PjSt.step {ps : List Pk} {k : Nat} {z : List UInt8} (s : PjSt ps k z) (hp : pkgB (ps.getD k pk0) = true) (h : leT (ps.getD k pk0).1 z = false) : PjSt ps (k + 1) (ps.getD k pk0).1 := by
  refine ⟨fun i hi => ?_, Or.inr ⟨by omega, by simp⟩⟩
  rcases Nat.lt_or_ge i k with hl | hl
  · exact s.ok i hl
  · obtain rfl : i = k := by omega
    refine ⟨hp, fun h0 => ?_⟩
    rcases s.last with ⟨e, _⟩ | ⟨_, e⟩
    · omega
    · rw [← e]; exact h

set_option maxHeartbeats 4000000 in
set_option maxRecDepth 100000 in
theorem implProjectOk (a : Option Addr) (len cap : Nat) (ps : List Pk) (w : World) (h : PkgsOk w a len cap ps) :
    Calls Tryz.prog 51 #[.slice a len cap] w fun e w' => e = .returned (.bool (projB ps)) ∧ Below w.heap.size w w' := by
  obtain rfl : ps.length = len := h.hlen
  have hsm := h.small
  have HI : Hid (PkgsOk w a ps.length cap ps) := h
  clear h
  by_cases h1 : (ps.length : Int) < 1
  · have HR : Hid (projB ps = false) := by exact (by unfold projB; rw [inB_no _ _ _ (Or.inl h1), Bool.and_false] : projB ps = false)
    go_enter Tryz.func51, Tryz.ntmps51
    go_wp2
    go_ret
    exact ⟨by rw [HR.out]; rfl, Below.refl _ _⟩
  by_cases h8 : 8 < (ps.length : Int)
  · have HR : Hid (projB ps = false) := by exact (by unfold projB; rw [inB_no _ _ _ (Or.inr h8), Bool.and_false] : projB ps = false)
    go_enter Tryz.func51, Tryz.ntmps51
    go_wp2
    go_ret
    exact ⟨by rw [HR.out]; rfl, Below.refl _ _⟩
  go_enter Tryz.func51, Tryz.ntmps51
  go_wp2
  go_loopw [3, 16] (fun lv iv wr => ∃ (k : Nat) (z : List UInt8), lv = .string ⟨z.toArray⟩ ∧ iv = .int .i64 (k : Int) ∧ k ≤ ps.length ∧ Hid (PjSt ps k z) ∧ Hid (Below w.heap.size w wr)) (fun _ iv _ => ps.length - (intOf iv).toNat)
  case atStart => exact ⟨0, [], rfl, rfl, by omega, (⟨fun i hi => by omega, Or.inl ⟨rfl, rfl⟩⟩ : PjSt ps 0 []), Below.refl _ _⟩
  case round =>
    obtain ⟨k, z, rfl, rfl, hk, HZ, HB⟩ := hrel
    by_cases hlt : (k : Int) < (ps.length : Int)
    · have hk2 : k < ps.length := by omega
      obtain ⟨b, off, rfl, hbl, c0, ia, il, ic, fa, fl, fc, c1, c2, hpk⟩ := (HI.out.below HB.out).each k hk2
      obtain ⟨p, hp⟩ : ∃ p, ps.getD k pk0 = p := ⟨_, rfl⟩
      have HNo : Hid (pkgB p = false → projB ps = false) := fun e => PjSt.pk hk2 (by rw [hp]; exact e)
      have HLow : Hid (pkgB p = true → leT p.1 z = true → projB ps = false) := fun e1 e2 => HZ.out.low hk2 (by rw [hp]; exact e1) (by rw [hp]; exact e2)
      have HStep : Hid (pkgB p = true → leT p.1 z = false → PjSt ps (k + 1) p.1) := fun e1 e2 => by
        have := HZ.out.step (by rw [hp]; exact e1) (by rw [hp]; exact e2)
        rw [hp] at this
        exact this
      rw [hp] at c0 hpk
      clear hp HZ
      obtain ⟨x, ims, fs⟩ := p
      simp only at c0 hpk
      obtain ⟨bx, hbx⟩ := Box3.new wr (.string ⟨x.toArray⟩) (.slice ia il ic) (.slice fa fl fc) 42
      obtain ⟨X, hX⟩ : ∃ X, wr.alloc (.cells #[.string ⟨x.toArray⟩, .slice ia il ic, .slice fa fl fc] 42) = X := ⟨_, rfl⟩
      obtain ⟨E, hE⟩ : ∃ E, wr.heap.size = E := ⟨_, rfl⟩
      rw [hX] at bx hbx
      rw [hE] at bx
      have d0 := bx.c0
      have d1 := bx.c1
      have d2 := bx.c2
      have HBX : Hid (Box3 X E (.string ⟨x.toArray⟩) (.slice ia il ic) (.slice fa fl fc)) := bx
      have HC : Hid (_) := implPackageOk x ia il ic fa fl fc ims fs X (hpk.below hbx)
      have HB2 : Hid (Below w.heap.size w X) := HB.out.trans (hbx.mono HB.out.size)
      clear bx hbx hpk HB
      rcases hpb : pkgB (x, ims, fs) with _ | _
      · have HR : Hid (projB ps = false) := HNo.out hpb
        rw [hpb] at HC
        clear hpb
        go_wp2_with (go_at_call 76; refine Calls.mono HC.out ?_; rintro e w1 ⟨rfl, hb1⟩; have HB3 : Hid (Below w.heap.size w w1) := HB2.out.trans (hb1.mono HB2.out.size); clear hb1)
        go_ret
        exact ⟨by rw [HR.out]; rfl, HB3.out⟩
      · rcases hle : leT x z with _ | _
        · have HS2 : Hid (PjSt ps (k + 1) x) := HStep.out hpb hle
          rw [hpb] at HC
          unfold leT at hle
          clear hpb HNo HLow HStep
          go_wp2_with (go_at_call 76; refine Calls.mono HC.out ?_; rintro e w1 ⟨rfl, hb1⟩; have HB3 : Hid (Below w.heap.size w w1) := HB2.out.trans (hb1.mono HB2.out.size); have q0 := (HBX.out.below hb1).c0; clear hb1)
          go_roundw
          case rel => exact ⟨k + 1, x, rfl, by go_num, by omega, HS2, HB3⟩
          case measure => simp [intOf]; omega
        · have HR : Hid (projB ps = false) := HLow.out hpb hle
          rw [hpb] at HC
          unfold leT at hle
          clear hpb HNo HLow HStep
          go_wp2_with (go_at_call 76; refine Calls.mono HC.out ?_; rintro e w1 ⟨rfl, hb1⟩; have HB3 : Hid (Below w.heap.size w w1) := HB2.out.trans (hb1.mono HB2.out.size); have q0 := (HBX.out.below hb1).c0; clear hb1)
          go_ret
          exact ⟨by rw [HR.out]; rfl, HB3.out⟩
    · obtain rfl : k = ps.length := by omega
      have HR : Hid (projB ps = true) := by exact (by rw [projB_all HZ.out.ok]; unfold inB; exact decide_eq_true (by omega) : projB ps = true)
      go_wp2
      go_ret
      exact ⟨by rw [HR.out]; rfl, HB.out⟩

theorem implPlaceIn (a : Option Addr) (len cap : Nat) (ps : List Pk) (s : List UInt8) (w : World) (h : PkgsOk w a len cap ps) :
    Calls Tryz.prog 33 #[.slice a len cap, .string ⟨s.toArray⟩] w fun e w' => e = .returned (.int .i64 (if projB ps = true then at8 ps s else -1)) ∧ Below w.heap.size w w' := by
  have HP : Hid (_) := implProjectOk a len cap ps w h
  have HI : Hid (PkgsOk w a len cap ps) := h
  clear h
  rcases hp : projB ps with _ | _
  · rw [hp] at HP
    go_enter Tryz.func33, Tryz.ntmps33
    go_wp2_with (go_at_call 51; refine Calls.mono HP.out ?_; rintro e w1 ⟨rfl, hb1⟩)
    go_ret
    exact ⟨by simp, hb1⟩
  · rw [hp] at HP
    go_enter Tryz.func33, Tryz.ntmps33
    go_wp2_with fail
    refine Calls.mono HP.out ?_
    rintro e w1 ⟨rfl, hb1⟩
    have HI1 : Hid (PkgsOk w1 a len cap ps) := HI.out.below hb1
    go_wp2_with fail
    refine (implPlacePk a len cap ps s w1 HI1.out.in HI1.out.small).mono ?_
    rintro e w2 ⟨rfl, hb2⟩
    have HB : Hid (Below w.heap.size w w2) := hb1.trans (hb2.mono hb1.size)
    clear hb1 hb2
    go_wp2
    go_ret
    exact ⟨by simp, HB.out⟩

set_option maxHeartbeats 2000000 in
set_option maxRecDepth 100000 in
theorem implNamesAt (a : Option Addr) (len cap : Nat) (ps : List Pk) (pa : Option Addr) (n pc : Nat) (l : List Nat) (w : World) (h : PkgsOk w a len cap ps) (hl : NatsIn w pa n l) (hlt : ∀ x ∈ l, x < len) (hn : n ≤ 1000) :
    Calls Tryz.prog 37 #[.slice a len cap, .slice pa n pc] w fun e w' => ∃ v, e = .returned v ∧ w'.ownsRow w.heap.size 9 1 v (nmsAt ps l).length (strV (nmsAt ps l)) ∧ Below w.heap.size w w' := by
  obtain rfl : l.length = n := hl.1
  have HI : Hid (PkgsOk w a len cap ps) := h
  have HL : Hid (NatsIn w pa l.length l) := hl
  have HLt : Hid (∀ x ∈ l, x < len) := hlt
  have hsm := h.small
  have HO0 : Hid ((w.alloc (.cells #[] 9)).ownsRow w.heap.size 9 1 (.slice (some ⟨w.heap.size, 0, none⟩) 0 0) 0 (strV (nmsAt ps (l.take 0)))) := World.ownsRow_lit (base := w.heap.size) (e := 9) (size := 1) w #[] 0 (Nat.le_refl _) (by decide) rfl
  have HB0 : Hid (Below w.heap.size w (w.alloc (.cells #[] 9))) := (Below.refl _ _).alloc (Nat.le_refl _) _
  clear h hl hlt
  go_enter Tryz.func37, Tryz.ntmps37
  go_wp2
  go_loopw [5, 11] (fun nv iv wr => ∃ (k : Nat) (na : Option Addr) (nc : Nat), nv = .slice na k nc ∧ iv = .int .i64 (k : Int) ∧ k ≤ l.length ∧ Hid (wr.ownsRow w.heap.size 9 1 (.slice na k nc) k (strV (nmsAt ps (l.take k)))) ∧ Hid (Below w.heap.size w wr)) (fun _ iv _ => l.length - (intOf iv).toNat)
  case atStart => exact ⟨0, _, 0, rfl, rfl, by omega, HO0, HB0⟩
  case round =>
    obtain ⟨k, na, nc, rfl, rfl, hk, HO, HB⟩ := hrel
    clear HO0 HB0
    by_cases hlt : (k : Int) < (l.length : Int)
    · have hk2 : k < l.length := by omega
      obtain ⟨b2, off2, rfl, hb2l, d0⟩ := (HL.out.below HB.out).2 k hk2
      have hql := HLt.out _ (getD_mem_n hk2)
      have hnt : nmsAt ps (l.take (k + 1)) = nmsAt ps (l.take k) ++ [nmAt ps (l.getD k 0)] := by
        rw [List.take_succ_eq_append_getElem hk2, nms_snoc, show l.getD k 0 = l[k] by simp [List.getD, hk2]]
      obtain ⟨q, hq⟩ : ∃ q, l.getD k 0 = q := ⟨_, rfl⟩
      rw [hq] at d0 hql hnt
      have hok := HI.out.below HB.out
      obtain ⟨b, off, rfl, hbl, c0, _⟩ := hok.each q hql
      have hxl := (hok.short q).1
      have hnm : nmAt ps q = (ps.getD q pk0).1 := rfl
      obtain ⟨x, hx⟩ : ∃ x, (ps.getD q pk0).1 = x := ⟨_, rfl⟩
      rw [hnm, hx] at hnt
      rw [hx] at c0 hxl
      have HNT : Hid (nmsAt ps (l.take (k + 1)) = nmsAt ps (l.take k) ++ [x]) := hnt
      have hqz : (q : Int) < (len : Int) := by omega
      clear hok hnt hnm hx hq
      go_wp2_with fail
      refine (stringsClone x wr hxl).mono ?_
      rintro e w1 ⟨rfl, hb1⟩
      have hB1 : Below w.heap.size w w1 := HB.out.trans (hb1.mono HB.out.size)
      have hO1 := own_below HO.out hb1
      obtain ⟨v', Y, hr, ho, hg⟩ := push_text x hO1 hB1.size (by omega)
      rw [← HNT.out] at ho
      obtain ⟨g', c', rfl⟩ := own_some ho (by omega)
      have HOY : Hid (Y.ownsRow w.heap.size 9 1 (.slice (some ⟨g', 0, none⟩) (k + 1) c') (k + 1) (strV (nmsAt ps (l.take (k + 1))))) := ho
      have HBY : Hid (Below w.heap.size w Y) := hB1.grown hg hB1.size (fun q e => (hO1.lt q e).1)
      clear hb1 hO1 hB1 ho hg
      go_wp2_with (at_builtin; refine wpList_append_run rfl (.tmp 15) (.tmp 22) 24 rfl _ _ _ rfl rfl hr ?_; clear hr)
      go_roundw
      case rel => exact ⟨k + 1, _, c', rfl, by go_num, by omega, HOY, HBY⟩
      case measure => simp [intOf]; omega
    · obtain rfl : k = l.length := by omega
      have HE : Hid (l.take l.length = l) := List.take_length
      go_wp2
      go_ret
      exact ⟨_, rfl, by have h1 := HO.out; rw [HE.out] at h1; rw [show (nmsAt ps l).length = l.length by simp [nmsAt]]; exact h1, HB.out⟩

end Go.Proofs.YtbojdcggnpdhcaaGreatDoor
