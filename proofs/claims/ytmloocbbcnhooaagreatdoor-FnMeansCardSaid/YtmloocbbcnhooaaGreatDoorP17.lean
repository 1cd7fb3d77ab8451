/-
  Parts of one proof, one behind the other: PlcI, ValI2.
-/
import Derived.Test.YtmloocbbcnhooaaGreatDoorP16
import Derived.Test.YtmloocbbcnhooaaGreatDoorP12
import Derived.Test.YtmloocbbcnhooaaGreatDoorP8
import Derived.Test.YtmloocbbcnhooaaGreatDoorP15

/-! The contracts of the landed code of chapter 8: places of packages, names at places, ProjectOk; slices.Contains. -/
namespace Go.Proofs.YtmloocbbcnhooaaGreatDoor
open Go.RowKit

/-- Numbers that can be read. -/
def NatsIn (w : World) (a : Option Addr) (n : Nat) (l : List Nat) : Prop := l.length = n ∧ ∀ j, j < n → ∃ b off, a = some ⟨b, off, none⟩ ∧ b < w.heap.size ∧ w.cell? ⟨b, off + j, none⟩ = some (.int .i64 ((l.getD j 0 : Nat) : Int))
theorem NatsIn.below {w w' : World} {a : Option Addr} {n : Nat} {l : List Nat} (h : NatsIn w a n l) (hb : Below w.heap.size w w') : NatsIn w' a n l :=
  ⟨h.1, fun j hj => by
    obtain ⟨b, off, e, hlt, c⟩ := h.2 j hj
    exact ⟨b, off, e, Nat.lt_of_lt_of_le hlt hb.size, (hb.cell (p := ⟨b, off + j, none⟩) hlt).trans c⟩⟩
theorem own_nats {w : World} {B n : Nat} {v : Value} {l : List Nat} (h : w.ownsRow B 3 1 v n (natV l)) (hn : l.length = n) : ∃ a c, v = .slice a n c ∧ NatsIn w a n l := by
  rcases own_forms h with ⟨rfl, rfl, _⟩ | ⟨g, c, rfl⟩
  · exact ⟨none, 0, rfl, hn, fun j hj => by omega⟩
  · exact ⟨_, c, rfl, hn, fun j hj => ⟨g, 0, rfl, (h.lt g rfl).2, by rw [Nat.zero_add]; exact nat_cell h hn j hj⟩⟩
theorem getD_mem_n {l : List Nat} {k : Nat} (hk : k < l.length) : l.getD k 0 ∈ l := by simp [List.getD, hk]
theorem not_mem_n {l : List Nat} {x : Nat} (h : ∀ i, i < l.length → l.getD i 0 ≠ x) : ¬ x ∈ l := fun hm => by
  obtain ⟨i, hi, e⟩ := List.mem_iff_getElem.1 hm
  exact h i hi (by simp [List.getD, hi, e])
theorem not_mem_s {l : List (List UInt8)} {x : List UInt8} (h : ∀ i, i < l.length → l.getD i [] ≠ x) : ¬ x ∈ l := fun hm => by
  obtain ⟨i, hi, e⟩ := List.mem_iff_getElem.1 hm
  exact h i hi (by simp [List.getD, hi, e])

set_option maxHeartbeats 1000000 in
set_option maxRecDepth 100000 in
theorem indexNat (a : Option Addr) (n c : Nat) (l : List Nat) (x : Nat) (w : World) (hin : NatsIn w a n l) (hn : n ≤ 1048576) :
    Calls Tryz.prog 137 #[.slice a n c, .int .i64 (x : Int)] w fun e w' => ∃ y : Int, e = .returned (.int .i64 y) ∧ Hid (0 ≤ y ↔ x ∈ l) ∧ w' = w := by
  obtain rfl : l.length = n := hin.1
  have HI : Hid (NatsIn w a l.length l) := hin
  clear hin
  go_enter Tryz.func137, Tryz.ntmps137
  go_wp2
  go_loopw [8] (fun iv wr => ∃ k : Nat, iv = .int .i64 (k : Int) ∧ k ≤ l.length ∧ Hid (∀ i, i < k → l.getD i 0 ≠ x) ∧ wr = w) (fun iv _ => l.length - (intOf iv).toNat)
  case atStart => exact ⟨0, rfl, by omega, (fun i hi => by omega), rfl⟩
  case round =>
    obtain ⟨k, rfl, hk, HA, hwr⟩ := hrel
    obtain rfl := hwr.symm
    by_cases hlt : (k : Int) < (l.length : Int)
    · have hk2 : k < l.length := by omega
      obtain ⟨b, off, rfl, hbl, c0⟩ := HI.out.2 k hk2
      have hmem := getD_mem_n hk2
      obtain ⟨y, hy⟩ : ∃ y, l.getD k 0 = y := ⟨_, rfl⟩
      rw [hy] at c0 hmem
      by_cases hxy : x = y
      · subst hxy
        have HM : Hid (0 ≤ (k : Int) ↔ x ∈ l) := ⟨fun _ => hmem, fun _ => by omega⟩
        clear HA hy hmem
        go_wp2
        go_ret
        exact ⟨_, rfl, HM, rfl⟩
      · have HA2 : Hid (∀ i, i < k + 1 → l.getD i 0 ≠ x) := fun i hi => by
          rcases Nat.lt_or_ge i k with h | h
          · exact HA.out i h
          · obtain rfl : i = k := by omega
            rw [hy]; exact fun e => hxy e.symm
        have hne : ¬ (x : Int) = (y : Int) := by omega
        have hne2 : ((x : Int) == (y : Int)) = false := beq_eq_false_iff_ne.2 hne
        clear HA hy hmem
        go_wp2
        go_roundw
        case rel => exact ⟨k + 1, by go_num, by omega, HA2, trivial⟩
        case measure => simp [intOf]; omega
    · have HM : Hid (0 ≤ (-1 : Int) ↔ x ∈ l) := ⟨fun h => by omega, fun h => absurd h (not_mem_n (fun i hi => HA.out i (by omega)))⟩
      go_wp2
      go_ret
      exact ⟨_, rfl, HM, rfl⟩
theorem containsNat (a : Option Addr) (n c : Nat) (l : List Nat) (x : Nat) (w : World) (hin : NatsIn w a n l) (hn : n ≤ 1048576) :
    Calls Tryz.prog 124 #[.slice a n c, .int .i64 (x : Int)] w fun e w' => e = .returned (.bool (decide (x ∈ l))) ∧ w' = w := by
  have hI := indexNat a n c l x w hin hn
  go_enter Tryz.func124, Tryz.ntmps124
  go_wp2_with fail
  refine hI.mono ?_
  rintro e w1 ⟨y, rfl, HM, hw⟩
  obtain rfl := hw.symm
  clear hI
  go_wp2
  go_ret
  exact ⟨by rw [decide_eq_decide.2 HM.out.symm]; rfl, rfl⟩

set_option maxHeartbeats 1000000 in
set_option maxRecDepth 100000 in
theorem indexStr (a : Option Addr) (n c : Nat) (l : List (List UInt8)) (x : List UInt8) (w : World) (hin : TextsIn w a n l) (hn : n ≤ 1048576) :
    Calls Tryz.prog 136 #[.slice a n c, .string ⟨x.toArray⟩] w fun e w' => ∃ y : Int, e = .returned (.int .i64 y) ∧ Hid (0 ≤ y ↔ x ∈ l) ∧ w' = w := by
  obtain rfl : l.length = n := hin.1
  have HI : Hid (TextsIn w a l.length l) := hin
  clear hin
  go_enter Tryz.func136, Tryz.ntmps136
  go_wp2
  go_loopw [8] (fun iv wr => ∃ k : Nat, iv = .int .i64 (k : Int) ∧ k ≤ l.length ∧ Hid (∀ i, i < k → l.getD i [] ≠ x) ∧ wr = w) (fun iv _ => l.length - (intOf iv).toNat)
  case atStart => exact ⟨0, rfl, by omega, (fun i hi => by omega), rfl⟩
  case round =>
    obtain ⟨k, rfl, hk, HA, hwr⟩ := hrel
    obtain rfl := hwr.symm
    by_cases hlt : (k : Int) < (l.length : Int)
    · have hk2 : k < l.length := by omega
      obtain ⟨b, off, rfl, hbl, c0⟩ := HI.out.2 k hk2
      have hmem : l.getD k [] ∈ l := by simp [List.getD, hk2]
      obtain ⟨y, hy⟩ : ∃ y, l.getD k [] = y := ⟨_, rfl⟩
      rw [hy] at c0 hmem
      by_cases hxy : x = y
      · subst hxy
        have HM : Hid (0 ≤ (k : Int) ↔ x ∈ l) := ⟨fun _ => hmem, fun _ => by omega⟩
        have hself : (x == x) = true := by simp
        clear HA hy hmem
        go_wp2
        go_ret
        exact ⟨_, rfl, HM, rfl⟩
      · have HA2 : Hid (∀ i, i < k + 1 → l.getD i [] ≠ x) := fun i hi => by
          rcases Nat.lt_or_ge i k with h | h
          · exact HA.out i h
          · obtain rfl : i = k := by omega
            rw [hy]; exact fun e => hxy e.symm
        have hne : (x == y) = false := beq_eq_false_iff_ne.2 hxy
        clear HA hy hmem
        go_wp2
        go_roundw
        case rel => exact ⟨k + 1, by go_num, by omega, HA2, trivial⟩
        case measure => simp [intOf]; omega
    · have HM : Hid (0 ≤ (-1 : Int) ↔ x ∈ l) := ⟨fun h => by omega, fun h => absurd h (not_mem_s (fun i hi => HA.out i (by omega)))⟩
      go_wp2
      go_ret
      exact ⟨_, rfl, HM, rfl⟩
theorem containsStr (a : Option Addr) (n c : Nat) (l : List (List UInt8)) (x : List UInt8) (w : World) (hin : TextsIn w a n l) (hn : n ≤ 1048576) :
    Calls Tryz.prog 122 #[.slice a n c, .string ⟨x.toArray⟩] w fun e w' => e = .returned (.bool (decide (x ∈ l))) ∧ w' = w := by
  have hI := indexStr a n c l x w hin hn
  go_enter Tryz.func122, Tryz.ntmps122
  go_wp2_with fail
  refine hI.mono ?_
  rintro e w1 ⟨y, rfl, HM, hw⟩
  obtain rfl := hw.symm
  clear hI
  go_wp2
  go_ret
  exact ⟨by rw [decide_eq_decide.2 HM.out.symm]; rfl, rfl⟩

set_option maxHeartbeats 2000000 in
set_option maxRecDepth 100000 in
theorem implPlacePk (a : Option Addr) (len cap : Nat) (ps : List Pk) (s : List UInt8) (w : World) (hin : PkgsIn w a len ps) (hlen : len ≤ 1048576) :
    Calls Tryz.prog 84 #[.slice a len cap, .string ⟨s.toArray⟩] w fun e w' => e = .returned (.int .i64 (at8 ps s)) ∧ Below w.heap.size w w' := by
  obtain rfl : ps.length = len := hin.1
  have HI : Hid (PkgsIn w a ps.length ps) := hin
  clear hin
  go_enter Tryz.func84, Tryz.ntmps84
  go_wp2
  go_loopw [9] (fun iv wr => ∃ j : Nat, iv = .int .i64 (j : Int) ∧ j ≤ ps.length ∧ Hid (at8 ps s = at8Go s (ps.drop j) j) ∧ Hid (Below w.heap.size w wr)) (fun iv _ => ps.length - (intOf iv).toNat)
  case atStart => exact ⟨0, rfl, by omega, (rfl : at8 ps s = at8Go s (ps.drop 0) 0), Below.refl _ _⟩
  case round =>
    obtain ⟨j, rfl, hj, HA, HB⟩ := hrel
    by_cases hlt : (j : Int) < (ps.length : Int)
    · obtain ⟨b, off, rfl, hbl, c0, ia, il, ic, fa, fl, fc, c1, c2, _, _⟩ := (HI.out.below HB.out).2 j (by omega)
      have hg := at8Go_drop (ps := ps) (k := j) (by omega) s
      obtain ⟨x, hx⟩ : ∃ x, (ps.getD j pk0).1 = x := ⟨_, rfl⟩
      rw [hx] at c0 hg
      obtain ⟨bx, hbx⟩ := Box3.new wr (.string ⟨x.toArray⟩) (.slice ia il ic) (.slice fa fl fc) 36
      obtain ⟨X, hX⟩ : ∃ X, wr.alloc (.cells #[.string ⟨x.toArray⟩, .slice ia il ic, .slice fa fl fc] 36) = X := ⟨_, rfl⟩
      rw [hX] at bx hbx
      have d0 := bx.c0
      have d1 := bx.c1
      have d2 := bx.c2
      have HB2 : Hid (Below w.heap.size w X) := HB.out.trans (hbx.mono HB.out.size)
      clear bx hbx
      by_cases hxs : x = s
      · subst hxs
        have HR : Hid (at8 ps x = (j : Int)) := by exact (by rw [HA.out, hg, if_pos rfl] : at8 ps x = (j : Int))
        have hself : (x == x) = true := by simp
        clear HA hg hx
        go_wp2
        go_ret
        exact ⟨by rw [HR.out]; rfl, HB2.out⟩
      · have HR : Hid (at8 ps s = at8Go s (ps.drop (j + 1)) (j + 1)) := by exact (by rw [HA.out, hg, if_neg hxs] : at8 ps s = at8Go s (ps.drop (j + 1)) (j + 1))
        have hne : (x == s) = false := by rw [beq_eq_false_iff_ne]; exact hxs
        clear HA hg hx
        go_wp2
        go_roundw
        case rel => exact ⟨j + 1, by go_num, by omega, HR, HB2⟩
        case measure => simp [intOf]; omega
    · have HR : Hid (at8 ps s = -1) := by exact (by rw [HA.out, List.drop_of_length_le (by omega)]; rfl : at8 ps s = -1)
      go_wp2
      go_ret
      exact ⟨by rw [HR.out]; rfl, HB.out⟩

set_option maxHeartbeats 2000000 in
set_option maxRecDepth 100000 in
theorem implPlacesOf (a : Option Addr) (len cap : Nat) (ps : List Pk) (i : Nat) (w : World) (hin : PkgsOk w a len cap ps) (hi : i < len) :
    Calls Tryz.prog 118 #[.slice a len cap, .int .i64 (i : Int)] w fun e w' => ∃ v, e = .returned v ∧ w'.ownsRow w.heap.size 3 1 v (plc ps (imsAt ps i)).length (natV (plc ps (imsAt ps i))) ∧ Below w.heap.size w w' := by
  have HI : Hid (PkgsOk w a len cap ps) := hin
  obtain ⟨b, off, rfl, hbl, c0, ia, il, ic, fa, fl, fc, c1, c2, hpk⟩ := hin.each i hi
  have hsm := hin.small
  have hil := hpk.il
  obtain ⟨ims, hims⟩ : ∃ ims, imsAt ps i = ims := ⟨_, rfl⟩
  have hti : TextsIn w ia il ims := by rw [← hims]; exact hpk.i
  rw [hims]
  obtain rfl : ims.length = il := hti.1
  have HT : Hid (TextsIn w ia ims.length ims) := hti
  have hi2 : (i : Int) < (len : Int) := by omega
  have c1a : (w.alloc (.cells #[] 3)).cell? ⟨b, off + i * 3 + 1, none⟩ = some (.slice ia ims.length ic) := (((Below.refl _ w).alloc (Nat.le_refl _) _).cell (p := ⟨b, off + i * 3 + 1, none⟩) hbl).trans c1
  have HO0 : Hid ((w.alloc (.cells #[] 3)).ownsRow w.heap.size 3 1 (.slice (some ⟨w.heap.size, 0, none⟩) 0 0) 0 (natV (plc ps (ims.take 0)))) := World.ownsRow_lit (base := w.heap.size) (e := 3) (size := 1) w #[] 0 (Nat.le_refl _) (by decide) rfl
  have HB0 : Hid (Below w.heap.size w (w.alloc (.cells #[] 3))) := (Below.refl _ _).alloc (Nat.le_refl _) _
  clear hin hpk hims hti c0 c2
  go_enter Tryz.func118, Tryz.ntmps118
  go_wp2
  go_loopw [5, 16] (fun pv iv wr => ∃ (k m : Nat) (pa : Option Addr) (pc : Nat), pv = .slice pa m pc ∧ iv = .int .i64 (k : Int) ∧ k ≤ ims.length ∧ m ≤ k ∧ Hid ((plc ps (ims.take k)).length = m) ∧ Hid (wr.ownsRow w.heap.size 3 1 (.slice pa m pc) m (natV (plc ps (ims.take k)))) ∧ Hid (Below w.heap.size w wr)) (fun _ iv _ => ims.length - (intOf iv).toNat)
  case atStart => exact ⟨0, 0, _, 0, rfl, rfl, by omega, by omega, rfl, HO0, HB0⟩
  case round =>
    obtain ⟨k, m, pa, pc, rfl, rfl, hk, hmk, HLm, HO, HB⟩ := hrel
    clear HO0 HB0
    by_cases hlt : (k : Int) < (ims.length : Int)
    · have hk2 : k < ims.length := by omega
      obtain ⟨b2, off2, rfl, _, d0⟩ := (HT.out.below HB.out).2 k hk2
      have hpt := plc_take ps ims hk2
      obtain ⟨x, hx⟩ : ∃ x, ims.getD k [] = x := ⟨_, rfl⟩
      rw [hx] at d0 hpt
      have HP : Hid (_) := implPlacePk (some ⟨b, off, none⟩) len cap ps x wr (HI.out.below HB.out).in (by omega)
      rcases at8_is ps x with ⟨ea, _⟩ | ⟨q, hq, ea, _, _⟩
      · rw [ea] at HP
        rw [ea, if_neg (by decide)] at hpt
        have HPT : Hid (plc ps (ims.take (k + 1)) = plc ps (ims.take k)) := hpt
        clear hpt hx ea
        go_wp2_with (go_at_call 84; refine Calls.mono HP.out ?_; rintro e w1 ⟨rfl, hb1⟩; have HB1 : Hid (Below w.heap.size w w1) := HB.out.trans (hb1.mono HB.out.size); have HO1 := own_below HO.out hb1; rw [← HPT.out] at HO1; clear hb1)
        go_roundw
        case rel => exact ⟨k + 1, m, pa, pc, rfl, by go_num, by omega, by omega, by exact (by rw [HPT.out]; exact HLm.out : (plc ps (ims.take (k + 1))).length = m), HO1, HB1⟩
        case measure => simp [intOf]; omega
      · rw [ea] at HP
        rw [ea, if_pos (by omega), Int.toNat_natCast] at hpt
        have HPT : Hid (plc ps (ims.take (k + 1)) = plc ps (ims.take k) ++ [q]) := hpt
        have hqn : ¬ (q : Int) = -1 := by omega
        have hqb : ((q : Int) != -1) = true := by rw [bne_iff_ne]; exact hqn
        have hqb2 : ((q : Int) == -1) = false := beq_eq_false_iff_ne.2 hqn
        clear hpt hx ea
        go_wp2_with fail
        refine Calls.mono HP.out ?_
        rintro e w1 ⟨rfl, hb1⟩
        have hB1 : Below w.heap.size w w1 := HB.out.trans (hb1.mono HB.out.size)
        have hO1 := own_below HO.out hb1
        obtain ⟨v', Y, hr, ho, hg, _⟩ := push_nat 144 Tryz.underlying144 q hO1 hB1.size (by omega)
        obtain ⟨g', c', rfl⟩ := own_some ho (by omega)
        rw [← HPT.out] at ho
        have HOY : Hid (Y.ownsRow w.heap.size 3 1 (.slice (some ⟨g', 0, none⟩) (m + 1) c') (m + 1) (natV (plc ps (ims.take (k + 1))))) := ho
        have HBY : Hid (Below w.heap.size w Y) := hB1.grown hg hB1.size (fun q e => (hO1.lt q e).1)
        clear hb1 hO1 hB1 ho hg HP
        go_wp2_with (at_builtin; refine wpList_append_run rfl (.tmp 25) (.tmp 27) 144 rfl _ _ _ rfl rfl hr ?_; clear hr)
        go_roundw
        case rel => exact ⟨k + 1, m + 1, _, c', rfl, by go_num, by omega, by omega, by exact (by rw [HPT.out, List.length_append, List.length_singleton, HLm.out] : (plc ps (ims.take (k + 1))).length = m + 1), HOY, HBY⟩
        case measure => simp [intOf]; omega
    · have HE : Hid (ims.take k = ims) := List.take_of_length_le (by omega)
      go_wp2
      go_ret
      exact ⟨_, rfl, by have h1 := HO.out; have h2 := HLm.out; rw [HE.out] at h1 h2; rw [h2]; exact h1, HB.out⟩

end Go.Proofs.YtmloocbbcnhooaaGreatDoor

/-! The contracts of chapter 10's landed code: a Node is taken, a part is passed over. -/
namespace Go.Proofs.YtmloocbbcnhooaaGreatDoor
open Go.RowKit

theorem set4 {X : World} {R : Nat} {a0 a1 a2 a3 : Value} (u0 u1 u2 u3 : Value) (r0 : X.cell? ⟨R, 0, none⟩ = some a0) (r1 : X.cell? ⟨R, 1, none⟩ = some a1) (r2 : X.cell? ⟨R, 2, none⟩ = some a2) (r3 : X.cell? ⟨R, 3, none⟩ = some a3) :
    ∃ Y, (((X.setCell ⟨R, 0, none⟩ u0).setCell ⟨R, 1, none⟩ u1).setCell ⟨R, 2, none⟩ u2).setCell ⟨R, 3, none⟩ u3 = Y ∧ Y.cell? ⟨R, 0, none⟩ = some u0 ∧ Y.cell? ⟨R, 1, none⟩ = some u1 ∧ Y.cell? ⟨R, 2, none⟩ = some u2 ∧ Y.cell? ⟨R, 3, none⟩ = some u3 ∧ X.grownBy Y (some R) := by
  obtain ⟨Y, hY, y0, y1, y2, hg⟩ := set3 u0 u1 u2 r0 r1 r2
  have y3 : Y.cell? ⟨R, 3, none⟩ = some a3 := by
    rw [← hY]
    exact (World.cell?_setCell_other _ _ _ _ (by simp)).trans ((World.cell?_setCell_other _ _ _ _ (by simp)).trans ((World.cell?_setCell_other _ _ _ _ (by simp)).trans r3))
  rw [hY]
  exact ⟨_, rfl, (World.cell?_setCell_other _ _ _ _ (by simp)).trans y0, (World.cell?_setCell_other _ _ _ _ (by simp)).trans y1, (World.cell?_setCell_other _ _ _ _ (by simp)).trans y2, World.cell?_setCell_same _ _ _ y3, hg.trans (grown_setCell _ _ _ _)⟩

set_option maxHeartbeats 4000000 in
set_option maxRecDepth 100000 in
theorem implTaken10 (Z : World) (G : Nat) (ta : Option Addr) (tc : Nat) (t : List Nd) (av : Value) (a : Nat) (hb : Bk Z G (.slice ta t.length tc) av (.int .i64 (a : Int))) (hin : NodesIn Z ta t.length t) (hne : ∀ b off, ta = some ⟨b, off, none⟩ → b ≠ G) (ha : a < t.length) (hl : t.length ≤ 1048576) :
    Calls Tryz.prog 76 #[.pointer (some ⟨G, 0, none⟩)] Z fun e Z' => e = .returned (nodeVal (t.getD a nd0)) ∧ Bk Z' G (.slice ta t.length tc) av (.int .i64 ((a : Int) + 1)) ∧ Wrote Z Z' (fun k => k = G) := by
  obtain ⟨n, hn⟩ : ∃ n, t.getD a nd0 = n := ⟨_, rfl⟩
  obtain ⟨bt, ot, rfl, hbt, q0, q1, q2, q3⟩ := hin.2 a ha
  have hbG := hne bt ot rfl
  rw [hn] at q0 q1 q2 q3 ⊢
  obtain ⟨kd, nA, np, nf⟩ := n
  unfold nodeVal
  simp only at q0 q1 q2 q3 ⊢
  obtain ⟨⟨z0, z1, z2, z3⟩, hb0⟩ := node_new Z (.int .i64 0) (.int .i64 0) (.string ⟨#[]⟩) (.string ⟨#[]⟩) 39
  have zf : ∀ j, (Z.alloc (.cells #[.int .i64 0, .int .i64 0, .string ⟨#[]⟩, .string ⟨#[]⟩] 39)).frozen? ⟨Z.heap.size, j, none⟩ = false := fun j => World.frozen?_alloc_at _ _ _ _ rfl
  have bG := hb.below hb0
  have hGl : G < Z.heap.size := hb.box.lt
  replace q0 := (hb0.cell (p := ⟨bt, ot + a * 4, none⟩) hbt).trans q0
  replace q1 := (hb0.cell (p := ⟨bt, ot + a * 4 + 1, none⟩) hbt).trans q1
  replace q2 := (hb0.cell (p := ⟨bt, ot + a * 4 + 2, none⟩) hbt).trans q2
  replace q3 := (hb0.cell (p := ⟨bt, ot + a * 4 + 3, none⟩) hbt).trans q3
  obtain ⟨Z0, hZ0⟩ : ∃ Z0, Z.alloc (.cells #[.int .i64 0, .int .i64 0, .string ⟨#[]⟩, .string ⟨#[]⟩] 39) = Z0 := ⟨_, rfl⟩
  rw [hZ0] at z0 z1 z2 z3 zf bG hb0 q0 q1 q2 q3
  obtain ⟨N, hN⟩ : ∃ N, Z.heap.size = N := ⟨_, rfl⟩
  rw [hN] at z0 z1 z2 z3 zf hGl
  obtain ⟨⟨n0, n1, n2, n3⟩, hb1⟩ := node_new Z0 (.int .i64 kd) (.int .i64 nA) (.string ⟨np.toArray⟩) (.string ⟨nf.toArray⟩) 39
  have hNl : N < Z0.heap.size := World.block_lt_of_cell? Z0 ⟨N, 0, none⟩ z0
  have bG1 := bG.below hb1
  have hbt0 : bt < Z0.heap.size := Nat.lt_of_lt_of_le hbt hb0.size
  have xq0 := (hb1.cell (p := ⟨bt, ot + a * 4, none⟩) hbt0).trans q0
  have xq1 := (hb1.cell (p := ⟨bt, ot + a * 4 + 1, none⟩) hbt0).trans q1
  have xq2 := (hb1.cell (p := ⟨bt, ot + a * 4 + 2, none⟩) hbt0).trans q2
  have xq3 := (hb1.cell (p := ⟨bt, ot + a * 4 + 3, none⟩) hbt0).trans q3
  replace z0 := (hb1.cell (p := ⟨N, 0, none⟩) hNl).trans z0
  replace z1 := (hb1.cell (p := ⟨N, 1, none⟩) hNl).trans z1
  replace z2 := (hb1.cell (p := ⟨N, 2, none⟩) hNl).trans z2
  replace z3 := (hb1.cell (p := ⟨N, 3, none⟩) hNl).trans z3
  replace zf := fun j => (hb1.frozen (p := ⟨N, j, none⟩) hNl).trans (zf j)
  obtain ⟨X, hX⟩ : ∃ X, Z0.alloc (.cells #[.int .i64 kd, .int .i64 nA, .string ⟨np.toArray⟩, .string ⟨nf.toArray⟩] 39) = X := ⟨_, rfl⟩
  obtain ⟨M, hM⟩ : ∃ M, Z0.heap.size = M := ⟨_, rfl⟩
  rw [hX] at n0 n1 n2 n3 hb1 bG1 z0 z1 z2 z3 zf xq0 xq1 xq2 xq3
  rw [hM] at n0 n1 n2 n3 hNl
  have hGM : G ≠ M := by omega
  have hGN : G ≠ N := by omega
  have far : ∀ (k j : Nat) (v : Value), G ≠ k → X.cell? ⟨k, j, none⟩ = some v → (X.setCell ⟨G, 2, none⟩ (.int .i64 ((a : Int) + 1))).cell? ⟨k, j, none⟩ = some v := fun k j v hk h => (World.cell?_setCell_far X ⟨G, 2, none⟩ ⟨k, j, none⟩ _ hk).trans h
  have bG2 := bG1.s2 (.int .i64 ((a : Int) + 1))
  replace n0 := far M 0 _ hGM n0
  replace n1 := far M 1 _ hGM n1
  replace n2 := far M 2 _ hGM n2
  replace n3 := far M 3 _ hGM n3
  replace z0 := far N 0 _ hGN z0
  replace z1 := far N 1 _ hGN z1
  replace z2 := far N 2 _ hGN z2
  replace z3 := far N 3 _ hGN z3
  have x0 := bG1.box.c0
  have x2 := bG1.box.c2
  have xf := bG1.fr 2
  have hw1 : Wrote X (X.setCell ⟨G, 2, none⟩ (.int .i64 ((a : Int) + 1))) (fun k => k = G) := wr_set X G 2 _
  have zf2 : ∀ j, (X.setCell ⟨G, 2, none⟩ (.int .i64 ((a : Int) + 1))).frozen? ⟨N, j, none⟩ = false := fun j => by simpa using zf j
  obtain ⟨Y, hY⟩ : ∃ Y, X.setCell ⟨G, 2, none⟩ (.int .i64 ((a : Int) + 1)) = Y := ⟨_, rfl⟩
  rw [hY] at n0 n1 n2 n3 z0 z1 z2 z3 bG2 hw1 zf2
  obtain ⟨V, hV, v0, v1, v2, v3, hgV⟩ := set4 (.int .i64 kd) (.int .i64 nA) (.string ⟨np.toArray⟩) (.string ⟨nf.toArray⟩) z0 z1 z2 z3
  have HB : Hid (Bk V G (.slice (some ⟨bt, ot, none⟩) t.length tc) av (.int .i64 ((a : Int) + 1))) := bG2.keep (hgV.block G bG2.box.lt (by simp; omega))
  have hB1 : Below Z0.heap.size Z0 X := by exact hb1
  have HW : Hid (Wrote Z V (fun k => k = G)) := by
    have h1 : Below Z.heap.size Z X := hb0.trans (hB1.mono hb0.size)
    have h2 : Wrote Z Y (fun k => k = G) := (Wrote.of_below h1).trans hw1
    exact ⟨hgV.os.trans h2.os, hgV.tape.trans h2.tape, hgV.output.trans h2.output, Nat.le_trans h2.size hgV.size, fun k hk hn => (hgV.block k (Nat.lt_of_lt_of_le hk h2.size) (by simp; omega)).trans (h2.block k hk hn)⟩
  have g0 := bG.box.c0
  have g2 := bG.box.c2
  have ha2 : (a : Int) < (t.length : Int) := by omega
  have f0 := zf2 0
  have f1 := zf2 1
  have f2 := zf2 2
  have f3 := zf2 3
  clear hb hin hne bG bG1 bG2 hb0 hb1 hB1 hw1 hgV far zf zf2 hbt
  go_enter Tryz.func76, Tryz.ntmps76
  go_upto_region 1 with fail
  go_region_held3 (fun w' => w'.cell? ⟨G, 0, none⟩ = some (.slice (some ⟨bt, ot, none⟩) t.length tc) ∧ w'.cell? ⟨G, 2, none⟩ = some (.int .i64 (a : Int)) ∧ w'.cell? ⟨bt, ot + a * 4, none⟩ = some (.int .i64 kd) ∧ w'.cell? ⟨bt, ot + a * 4 + 1, none⟩ = some (.int .i64 nA) ∧ w'.cell? ⟨bt, ot + a * 4 + 2, none⟩ = some (.string ⟨np.toArray⟩) ∧ w'.cell? ⟨bt, ot + a * 4 + 3, none⟩ = some (.string ⟨nf.toArray⟩)) (go_keep) (fail)
  all_goals
    go_wp2
    refine bodyPost_ret (v := .agg #[.int .i64 kd, .int .i64 nA, .string ⟨np.toArray⟩, .string ⟨nf.toArray⟩]) (by simp [results, Tryz.results76, go_sem, v0, v1, v2, v3]) rfl ?_
    exact ⟨rfl, HB.out.keep rfl, HW.out.trans (Wrote.of_below ⟨rfl, rfl, rfl, Nat.le_refl _, fun _ _ => rfl⟩)⟩

set_option maxHeartbeats 4000000 in
set_option maxRecDepth 100000 in
theorem implPass (Z : World) (G : Nat) (ta : Option Addr) (tc : Nat) (t : List Nd) (av : Value) (q : Int) (hb : Bk Z G (.slice ta t.length tc) av (.int .i64 q)) (hin : NodesIn Z ta t.length t) (hint : IntT t) (hsh : ShortT t) (hl : t.length ≤ 1048576) (hq : 0 ≤ q ∧ q ≤ 1048576) :
    Calls Tryz.prog 96 #[.pointer (some ⟨G, 0, none⟩)] Z fun e Z' => e = .returned (.tuple #[]) ∧ Bk Z' G (.slice ta t.length tc) av (.int .i64 (endV t q)) ∧ Wrote Z Z' (fun k => k = G) := by
  have HE : Hid (∀ Y, Below Z.heap.size Z Y → Calls Tryz.prog 115 #[.slice ta t.length tc, .int .i64 q] Y fun e w' => e = .returned (.int .i64 (endV t q)) ∧ Below Y.heap.size Y w') := fun Y hy => implEndOf ta t.length tc t q Y (hin.below hy) hint hsh hl ⟨by omega, by omega⟩
  have HB : Hid (Bk Z G (.slice ta t.length tc) av (.int .i64 q)) := hb
  have k0 := hb.box.c0
  have k2 := hb.box.c2
  obtain ⟨ev, hev⟩ : ∃ ev, endV t q = ev := ⟨_, rfl⟩
  rw [hev] at HE ⊢
  clear hb hin hint hsh hev
  go_enter Tryz.func96, Tryz.ntmps96
  go_wp2_with fail
  go_region_with (go_at_call 115; refine (HE.out _ (by first | exact Below.refl _ _ | exact ⟨rfl, rfl, rfl, Nat.le_refl _, fun _ _ => rfl⟩)).mono ?_; rintro e w5 ⟨rfl, hb5⟩; have hb6 : Below Z.heap.size Z w5 := ⟨hb5.os, hb5.tape, hb5.output, hb5.size, hb5.block⟩; have p2 := (HB.out.below hb6).box.c2; have pf := (HB.out.below hb6).fr 2; have HP : Hid (Bk (w5.setCell ⟨G, 2, none⟩ (.int .i64 ev)) G (.slice ta t.length tc) av (.int .i64 ev)) := (HB.out.below hb6).s2 _; have HW : Hid (Wrote Z (w5.setCell ⟨G, 2, none⟩ (.int .i64 ev)) (fun k => k = G)) := (Wrote.of_below hb6).trans (wr_set w5 G 2 _); clear hb5 hb6)
  all_goals
    go_wp2
    go_end0
    exact ⟨rfl, HP.out, HW.out⟩

/-- What funcNamed hands back. -/
def Named10 (B : World) (ps : List Pk) (nm fn : List UInt8) (e : Ending) : Prop :=
  (0 ≤ at8 ps nm ∧ 0 ≤ atV (pkOf ps nm).2.2 fn ∧ ∃ ta tc, e = .returned (.tuple #[.agg #[.string ⟨(fnOf10 ps nm fn).1.toArray⟩, .int .i64 (fnOf10 ps nm fn).2.1, .slice ta (fnOf10 ps nm fn).2.2.length tc], .bool true]) ∧ NodesIn B ta (fnOf10 ps nm fn).2.2.length (fnOf10 ps nm fn).2.2 ∧ IntT (fnOf10 ps nm fn).2.2 ∧ ShortT (fnOf10 ps nm fn).2.2 ∧ (fnOf10 ps nm fn).2.2.length ≤ 1048576) ∨
  (¬ (0 ≤ at8 ps nm ∧ 0 ≤ atV (pkOf ps nm).2.2 fn) ∧ e = .returned (.tuple #[.agg #[.string ⟨#[]⟩, .int .i64 0, .slice none 0 0], .bool false]))

set_option maxHeartbeats 4000000 in
set_option maxRecDepth 100000 in
theorem implNamed (B w : World) (a : Option Addr) (len cap : Nat) (ps : List Pk) (nm fn : List UInt8) (hB : Below B.heap.size B w) (h : PkgsOk B a len cap ps) :
    Calls Tryz.prog 62 #[.slice a len cap, .string ⟨nm.toArray⟩, .string ⟨fn.toArray⟩] w fun e w' => Named10 B ps nm fn e ∧ Below w.heap.size w w' := by
  obtain rfl : ps.length = len := h.hlen
  have hsm := h.small
  obtain ⟨bD, hb0⟩ := Bk.new w (.string ⟨#[]⟩) (.int .i64 0) (.slice none 0 0) 42
  obtain ⟨W0, hW0⟩ : ∃ W0, w.alloc (.cells #[.string ⟨#[]⟩, .int .i64 0, .slice none 0 0] 42) = W0 := ⟨_, rfl⟩
  obtain ⟨D, hD⟩ : ∃ D, w.heap.size = D := ⟨_, rfl⟩
  rw [hW0] at bD hb0
  rw [hD] at bD
  have hB0 : Below B.heap.size B W0 := hB.trans (hb0.mono hB.size)
  have HP : Hid (_) := implPlacePk a ps.length cap ps nm W0 (h.in.below hB0) hsm
  have HD : Hid (∀ Y, Below W0.heap.size W0 Y → Bk Y D (.string ⟨#[]⟩) (.int .i64 0) (.slice none 0 0) ∧ Below D w Y ∧ Below B.heap.size B Y) := fun Y hy => ⟨bD.below hy, by rw [← hD]; exact hb0.trans (hy.mono hb0.size), hB0.trans (hy.mono hB0.size)⟩
  have HEnd : Hid (∀ (X Y : World), Below D w X → X.grownBy Y (some D) → Below w.heap.size w Y) := fun X Y hx hg => by
    have hx2 : Below w.heap.size w X := by rw [hD]; exact hx
    exact hx2.grown hg hx2.size (fun k e => by injection e with e; omega)
  have HK : Hid (PkgsOk B a ps.length cap ps) := h
  clear bD hb0 hB0 hB h
  rcases at8_is ps nm with ⟨e8, _⟩ | ⟨q, hq, e8, hnq, _⟩
  · rw [e8] at HP
    have HNo : Hid (¬ (0 ≤ at8 ps nm ∧ 0 ≤ atV (pkOf ps nm).2.2 fn)) := fun h => by have := h.1; omega
    clear e8
    go_enter Tryz.func62, Tryz.ntmps62
    go_wp2_with fail
    refine Calls.mono HP.out ?_
    rintro e w1 ⟨rfl, hb1⟩
    obtain ⟨bD, hD1, _⟩ := HD.out w1 hb1
    have r0 := bD.box.c0
    have r1 := bD.box.c1
    have r2 := bD.box.c2
    have f0 := bD.fr 0
    have f1 := bD.fr 1
    have f2 := bD.fr 2
    have HD1 : Hid (Below D w w1) := hD1
    clear bD hb1 hD1 HD HP
    go_wp2
    obtain ⟨Y, hY, y0, y1, y2, hg⟩ := set3 (.string ⟨#[]⟩) (.int .i64 0) (.slice none 0 0) r0 r1 r2
    rw [hY]
    refine bodyPost_ret (v := .tuple #[.agg #[.string ⟨#[]⟩, .int .i64 0, .slice none 0 0], .bool false]) (by simp [results, Tryz.results62, go_sem, y0, y1, y2]) rfl ?_
    exact ⟨Or.inr ⟨HNo.out, rfl⟩, HEnd.out _ _ HD1.out hg⟩
  · rw [e8] at HP
    have hpq : pkOf ps nm = ps.getD q pk0 := by unfold pkOf; rw [e8, Int.toNat_natCast]
    obtain ⟨lb, lo, rfl, hlb, l0, ia, il, ic, fa, fl, fcp, l1, l2, hpk⟩ := HK.out.each q hq
    rw [← hpq] at l0 hpk
    have hq2 : (q : Int) < (ps.length : Int) := by omega
    have hqn : ((q : Int) == -1) = false := beq_eq_false_iff_ne.2 (by omega)
    have HA7 : Hid (∀ Y, Below B.heap.size B Y → Calls Tryz.prog 85 #[.slice fa fl fcp, .string ⟨fn.toArray⟩] Y fun e w' => e = .returned (.int .i64 (atV (pkOf ps nm).2.2 fn)) ∧ Below Y.heap.size Y w') := fun Y hy => implPlaceOf fa fl fcp (pkOf ps nm).2.2 fn Y (hpk.f.below hy) hpk.fl
    have HL : Hid (∀ Y, Below B.heap.size B Y → Y.cell? ⟨lb, lo + q * 3 + 2, none⟩ = some (.slice fa fl fcp)) := fun Y hy => (hy.cell (p := ⟨lb, lo + q * 3 + 2, none⟩) hlb).trans l2
    have hflN : (pkOf ps nm).2.2.length = fl := hpk.f.1
    rcases at7_is (pkOf ps nm).2.2 fn with e7 | ⟨kf, hkf, e7, _⟩
    · rw [e7] at HA7
      have HNo : Hid (¬ (0 ≤ at8 ps nm ∧ 0 ≤ atV (pkOf ps nm).2.2 fn)) := fun h => by have := h.2; omega
      clear e7 e8 hpk l0 l1 l2 hpq
      go_enter Tryz.func62, Tryz.ntmps62
      go_wp2_with fail
      refine Calls.mono HP.out ?_
      rintro e w1 ⟨rfl, hb1⟩
      obtain ⟨_, _, hB1⟩ := HD.out w1 hb1
      have l2 := HL.out w1 hB1
      have HC : Hid (_) := HA7.out w1 hB1
      have HB1 : Hid (Below W0.heap.size W0 w1) := hb1
      clear HP hB1 hb1
      go_wp2_with fail
      refine Calls.mono HC.out ?_
      rintro e w2 ⟨rfl, hb2⟩
      obtain ⟨bD, hD1, _⟩ := HD.out w2 (HB1.out.trans (hb2.mono HB1.out.size))
      have r0 := bD.box.c0
      have r1 := bD.box.c1
      have r2 := bD.box.c2
      have f0 := bD.fr 0
      have f1 := bD.fr 1
      have f2 := bD.fr 2
      have HD1 : Hid (Below D w w2) := hD1
      clear bD hb2 hD1 HD HC l2
      go_wp2
      obtain ⟨Y, hY, y0, y1, y2, hg⟩ := set3 (.string ⟨#[]⟩) (.int .i64 0) (.slice none 0 0) r0 r1 r2
      rw [hY]
      refine bodyPost_ret (v := .tuple #[.agg #[.string ⟨#[]⟩, .int .i64 0, .slice none 0 0], .bool false]) (by simp [results, Tryz.results62, go_sem, y0, y1, y2]) rfl ?_
      exact ⟨Or.inr ⟨HNo.out, rfl⟩, HEnd.out _ _ HD1.out hg⟩
    · rw [e7] at HA7
      have hfo : fnOf10 ps nm fn = (pkOf ps nm).2.2.getD kf fn0 := by unfold fnOf10; rw [e7, Int.toNat_natCast]
      obtain ⟨fb, fo, rfl, hfb, u0, u1, ua, ul, uc, u2, _, hNB⟩ := hpk.f.2 kf (by omega)
      rw [← hfo] at u0 u1 hNB
      obtain rfl : (fnOf10 ps nm fn).2.2.length = ul := hNB.1
      have hst := hpk.fs kf
      have hit := hpk.int kf
      rw [← hfo] at hst hit
      have HY : Hid (∃ ta tc, (Ending.returned (.tuple #[.agg #[.string ⟨(fnOf10 ps nm fn).1.toArray⟩, .int .i64 (fnOf10 ps nm fn).2.1, .slice ua (fnOf10 ps nm fn).2.2.length uc], .bool true])) = .returned (.tuple #[.agg #[.string ⟨(fnOf10 ps nm fn).1.toArray⟩, .int .i64 (fnOf10 ps nm fn).2.1, .slice ta (fnOf10 ps nm fn).2.2.length tc], .bool true]) ∧ NodesIn B ta (fnOf10 ps nm fn).2.2.length (fnOf10 ps nm fn).2.2 ∧ IntT (fnOf10 ps nm fn).2.2 ∧ ShortT (fnOf10 ps nm fn).2.2 ∧ (fnOf10 ps nm fn).2.2.length ≤ 1048576) := ⟨ua, uc, rfl, hNB, hit.2, hst.2.2, hst.2.1⟩
      have HYes : Hid (0 ≤ at8 ps nm ∧ 0 ≤ atV (pkOf ps nm).2.2 fn) := by exact (⟨by omega, by omega⟩ : 0 ≤ at8 ps nm ∧ 0 ≤ atV (pkOf ps nm).2.2 fn)
      have HU : Hid (∀ Y, Below B.heap.size B Y → Y.cell? ⟨fb, fo + kf * 3, none⟩ = some (.string ⟨(fnOf10 ps nm fn).1.toArray⟩) ∧ Y.cell? ⟨fb, fo + kf * 3 + 1, none⟩ = some (.int .i64 (fnOf10 ps nm fn).2.1) ∧ Y.cell? ⟨fb, fo + kf * 3 + 2, none⟩ = some (.slice ua (fnOf10 ps nm fn).2.2.length uc)) := fun Y hy => ⟨(hy.cell (p := ⟨fb, fo + kf * 3, none⟩) hfb).trans u0, (hy.cell (p := ⟨fb, fo + kf * 3 + 1, none⟩) hfb).trans u1, (hy.cell (p := ⟨fb, fo + kf * 3 + 2, none⟩) hfb).trans u2⟩
      have hk2 : (kf : Int) < (fl : Int) := by omega
      have hkn : ((kf : Int) == -1) = false := beq_eq_false_iff_ne.2 (by omega)
      obtain ⟨F, hF⟩ : ∃ F, fnOf10 ps nm fn = F := ⟨_, rfl⟩
      have HF : Hid (fnOf10 ps nm fn = F) := hF
      rw [hF] at HY HU
      obtain ⟨Fl, hFl⟩ : ∃ Fl, F.2.2.length = Fl := ⟨_, rfl⟩
      have HFl : Hid (F.2.2.length = Fl) := hFl
      rw [hFl] at HU
      obtain ⟨Fn, Fa, Ft⟩ := F
      simp only at HU
      clear e7 e8 hpk l0 l1 l2 hpq u0 u1 u2 hNB hst hit hfo hF hFl hkf hflN
      go_enter Tryz.func62, Tryz.ntmps62
      go_wp2_with fail
      refine Calls.mono HP.out ?_
      rintro e w1 ⟨rfl, hb1⟩
      obtain ⟨_, _, hB1⟩ := HD.out w1 hb1
      have l2 := HL.out w1 hB1
      have HC : Hid (_) := HA7.out w1 hB1
      have HB1 : Hid (Below W0.heap.size W0 w1) := hb1
      clear HP hB1 hb1
      go_wp2_with fail
      refine Calls.mono HC.out ?_
      rintro e w2 ⟨rfl, hb2⟩
      obtain ⟨bD, hD1, hB2⟩ := HD.out w2 (HB1.out.trans (hb2.mono HB1.out.size))
      obtain ⟨u0, u1, u2⟩ := HU.out w2 hB2
      replace l2 := HL.out w2 hB2
      have r0 := bD.box.c0
      have r1 := bD.box.c1
      have r2 := bD.box.c2
      have f0 := bD.fr 0
      have f1 := bD.fr 1
      have f2 := bD.fr 2
      have HD1 : Hid (Below D w w2) := hD1
      clear bD hb2 hD1 HD HC hB2
      go_wp2
      obtain ⟨Y, hY, y0, y1, y2, hg⟩ := set3 (.string ⟨Fn.toArray⟩) (.int .i64 Fa) (.slice ua Fl uc) r0 r1 r2
      rw [hY]
      refine bodyPost_ret (v := .tuple #[.agg #[.string ⟨Fn.toArray⟩, .int .i64 Fa, .slice ua Fl uc], .bool true]) (by simp [results, Tryz.results62, go_sem, y0, y1, y2]) rfl ?_
      refine ⟨Or.inl ⟨HYes.out.1, HYes.out.2, ?_⟩, HEnd.out _ _ HD1.out hg⟩
      rw [HF.out]
      have h := HY.out
      simp only at h ⊢
      rw [show Fl = Ft.length from HFl.out.symm]
      exact h

/-- What argsOk hands back. -/
def ArgsE (xs : List Int) (many : Int) (e : Ending) : Prop := ∃ b : Bool, e = .returned (.bool b) ∧ (b = true ↔ ((xs.length : Int) = many ∧ ∀ x ∈ xs, Word10 x))
set_option maxHeartbeats 4000000 in
set_option maxRecDepth 100000 in
theorem implArgsOk (aa : Option Addr) (ac : Nat) (xs : List Int) (many : Int) (w : World) (hx : ∀ j, j < xs.length → ∃ b off, aa = some ⟨b, off, none⟩ ∧ b < w.heap.size ∧ w.cell? ⟨b, off + j, none⟩ = some (.int .i64 (xs.getD j 0))) (hxl : xs.length ≤ 1048576) :
    Calls Tryz.prog 63 #[.slice aa xs.length ac, .int .i64 many] w fun e w' => ArgsE xs many e ∧ Below w.heap.size w w' := by
  by_cases hm : (xs.length : Int) = many
  rotate_left
  · have hmb : ((xs.length : Int) != many) = true := by rw [bne_iff_ne]; exact hm
    have HN : Hid (¬ (xs.length : Int) = many) := hm
    clear hx hm
    go_enter Tryz.func63, Tryz.ntmps63
    go_wp2
    go_ret
    exact ⟨⟨false, rfl, ⟨(fun h => (by cases h)), (fun h => absurd h.1 HN.out)⟩⟩, Below.refl _ _⟩
  · have hmb : ((xs.length : Int) != many) = false := by rw [hm]; simp
    have HM : Hid ((xs.length : Int) = many) := hm
    have HX : Hid (_) := hx
    clear hx hm
    go_enter Tryz.func63, Tryz.ntmps63
    go_wp2
    go_loopw [13] (fun iv wr => ∃ i : Nat, iv = .int .i64 (i : Int) ∧ i ≤ xs.length ∧ Hid (∀ j, j < i → Word10 (xs.getD j 0)) ∧ Hid (Below w.heap.size w wr)) (fun iv _ => xs.length - (intOf iv).toNat)
    case atStart => exact ⟨0, rfl, by omega, (fun j hj => absurd hj (Nat.not_lt_zero _)), Below.refl _ _⟩
    case round =>
      obtain ⟨i, rfl, hi, HWs, HBr⟩ := hrel
      by_cases hlt : (i : Int) < (xs.length : Int)
      · have hi2 : i < xs.length := by omega
        obtain ⟨b, off, rfl, hb, hc0⟩ := HX.out i hi2
        have hc := (HBr.out.cell (p := ⟨b, off + i, none⟩) hb).trans hc0
        clear hc0
        have hmem : xs.getD i 0 ∈ xs := by simp [List.getD, hi2]
        have HNx : Hid (Word10 (xs.getD i 0) → ∀ j, j < i + 1 → Word10 (xs.getD j 0)) := fun h j hj => by
          rcases Nat.lt_or_ge j i with h1 | h1
          · exact HWs.out j h1
          · obtain rfl : j = i := by omega
            exact h
        generalize xs.getD i 0 = xv at hc hmem HNx
        have HC : Hid (_) := implWordOkS xv wr
        by_cases hwd : Word10 xv
        · have hib : inB xv (-2147483648) 2147483647 = true := decide_eq_true hwd
          rw [hib] at HC
          have HW2 : Hid (_) := HNx.out hwd
          clear hib hwd HNx hmem hb
          go_wp2_with fail
          refine Calls.mono HC.out ?_
          rintro e w4 ⟨rfl, hw4⟩
          obtain rfl := hw4.symm
          go_wp2
          go_roundw
          case rel => exact ⟨i + 1, by go_num, by omega, HW2, HBr⟩
          case measure => simp [intOf]; omega
        · have hib : inB xv (-2147483648) 2147483647 = false := decide_eq_false hwd
          rw [hib] at HC
          have HNo : Hid (¬ ∀ x ∈ xs, Word10 x) := fun h => hwd (h xv hmem)
          clear hib hwd HNx hmem hb
          go_wp2_with fail
          refine Calls.mono HC.out ?_
          rintro e w4 ⟨rfl, hw4⟩
          obtain rfl := hw4.symm
          go_wp2
          go_ret
          exact ⟨⟨false, rfl, ⟨(fun h => (by cases h)), (fun h => absurd h.2 HNo.out)⟩⟩, HBr.out⟩
      · have HAll : Hid (∀ x ∈ xs, Word10 x) := fun x hx => by
          obtain ⟨j, hj, rfl⟩ := List.mem_iff_getElem.1 hx
          have := HWs.out j (by omega)
          simpa [List.getD, hj] using this
        go_wp2
        go_ret
        exact ⟨⟨true, rfl, ⟨(fun _ => ⟨HM.out, HAll.out⟩), (fun _ => rfl)⟩⟩, HBr.out⟩


end Go.Proofs.YtmloocbbcnhooaaGreatDoor
