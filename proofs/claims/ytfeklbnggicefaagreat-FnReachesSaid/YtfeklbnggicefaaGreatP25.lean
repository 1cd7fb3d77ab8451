/-
  Parts of one proof, one behind the other: PlcI, OrdI, OrdJ.
-/
import Derived.Test.YtfeklbnggicefaaGreatP24
import Derived.Test.YtfeklbnggicefaaGreatP20
import Derived.Test.YtfeklbnggicefaaGreatP13
import Derived.Test.YtfeklbnggicefaaGreatP21
import Derived.Test.YtfeklbnggicefaaGreatP8
import Derived.Laws.MakeOwn

/-! The contracts of the landed code of chapter 8: places of packages, names at places, ProjectOk; slices.Contains. -/
namespace Go.Proofs.YtfeklbnggicefaaGreat
open Go.RowKit

/-- Numbers that can be read. -/
def NatsIn (w : World) (a : Option Addr) (n : Nat) (l : List Nat) : Prop := l.length = n ∧ ∀ j, j < n → ∃ b off, a = some ⟨b, off, none⟩ ∧ b < w.heap.size ∧ w.cell? ⟨b, off + j, none⟩ = some (.int .i64 ((l.getD j 0 : Nat) : Int))
theorem NatsIn.below {w w' : World} {a : Option Addr} {n : Nat} {l : List Nat} (h : NatsIn w a n l) (hb : Below w.heap.size w w') : NatsIn w' a n l :=
  ⟨h.1, fun j hj => by
    obtain ⟨b, off, e, hlt, c⟩ := h.2 j hj
    exact ⟨b, off, e, Nat.lt_of_lt_of_le hlt hb.size, (hb.cell (p := ⟨b, off + j, none⟩) hlt).trans c⟩⟩
theorem own_nats {w : World} {B n : Nat} {v : Value} {l : List Nat} (h : w.ownsRow B 3 1 v n (natV l)) (hn : l.length = n) : ∃ a c, v = .slice a n c ∧ NatsIn w a n l := by
  rcases own_forms h with ⟨rfl, rfl, _⟩ | ⟨g, c, rfl⟩
  · exact ⟨none, 0, rfl, hn, fun j hj => by omega⟩
  · exact ⟨_, c, rfl, hn, fun j hj => ⟨g, 0, rfl, (h.lt g rfl).2, by rw [Nat.zero_add]; exact nat_cell h hn j hj⟩⟩
theorem getD_mem_n {l : List Nat} {k : Nat} (hk : k < l.length) : l.getD k 0 ∈ l := by simp [List.getD, hk]
theorem not_mem_n {l : List Nat} {x : Nat} (h : ∀ i, i < l.length → l.getD i 0 ≠ x) : ¬ x ∈ l := fun hm => by
  obtain ⟨i, hi, e⟩ := List.mem_iff_getElem.1 hm
  exact h i hi (by simp [List.getD, hi, e])
theorem not_mem_s {l : List (List UInt8)} {x : List UInt8} (h : ∀ i, i < l.length → l.getD i [] ≠ x) : ¬ x ∈ l := fun hm => by
  obtain ⟨i, hi, e⟩ := List.mem_iff_getElem.1 hm
  exact h i hi (by simp [List.getD, hi, e])

set_option maxHeartbeats 1000000 in
set_option maxRecDepth 100000 in
theorem indexNat (a : Option Addr) (n c : Nat) (l : List Nat) (x : Nat) (w : World) (hin : NatsIn w a n l) (hn : n ≤ 1048576) :
    Calls Tryz.prog 44 #[.slice a n c, .int .i64 (x : Int)] w fun e w' => ∃ y : Int, e = .returned (.int .i64 y) ∧ Hid (0 ≤ y ↔ x ∈ l) ∧ w' = w := by
  obtain rfl : l.length = n := hin.1
  have HI : Hid (NatsIn w a l.length l) := hin
  clear hin
  go_enter Tryz.func44, Tryz.ntmps44
  go_wp2
  go_loopw [8] (fun iv wr => ∃ k : Nat, iv = .int .i64 (k : Int) ∧ k ≤ l.length ∧ Hid (∀ i, i < k → l.getD i 0 ≠ x) ∧ wr = w) (fun iv _ => l.length - (intOf iv).toNat)
  case atStart => exact ⟨0, rfl, by omega, (fun i hi => by omega), rfl⟩
  case round =>
    obtain ⟨k, rfl, hk, HA, hwr⟩ := hrel
    obtain rfl := hwr.symm
    by_cases hlt : (k : Int) < (l.length : Int)
    · have hk2 : k < l.length := by omega
      obtain ⟨b, off, rfl, hbl, c0⟩ := HI.out.2 k hk2
      have hmem := getD_mem_n hk2
      obtain ⟨y, hy⟩ : ∃ y, l.getD k 0 = y := ⟨_, rfl⟩
      rw [hy] at c0 hmem
      by_cases hxy : x = y
      · subst hxy
        have HM : Hid (0 ≤ (k : Int) ↔ x ∈ l) := ⟨fun _ => hmem, fun _ => by omega⟩
        clear HA hy hmem
        go_wp2
        go_ret
        exact ⟨_, rfl, HM, rfl⟩
      · have HA2 : Hid (∀ i, i < k + 1 → l.getD i 0 ≠ x) := fun i hi => by
          rcases Nat.lt_or_ge i k with h | h
          · exact HA.out i h
          · obtain rfl : i = k := by omega
            rw [hy]; exact fun e => hxy e.symm
        have hne : ¬ (x : Int) = (y : Int) := by omega
        have hne2 : ((x : Int) == (y : Int)) = false := beq_eq_false_iff_ne.2 hne
        clear HA hy hmem
        go_wp2
        go_roundw
        case rel => exact ⟨k + 1, by go_num, by omega, HA2, trivial⟩
        case measure => simp [intOf]; omega
    · have HM : Hid (0 ≤ (-1 : Int) ↔ x ∈ l) := ⟨fun h => by omega, fun h => absurd h (not_mem_n (fun i hi => HA.out i (by omega)))⟩
      go_wp2
      go_ret
      exact ⟨_, rfl, HM, rfl⟩
theorem containsNat (a : Option Addr) (n c : Nat) (l : List Nat) (x : Nat) (w : World) (hin : NatsIn w a n l) (hn : n ≤ 1048576) :
    Calls Tryz.prog 22 #[.slice a n c, .int .i64 (x : Int)] w fun e w' => e = .returned (.bool (decide (x ∈ l))) ∧ w' = w := by
  have hI := indexNat a n c l x w hin hn
  go_enter Tryz.func22, Tryz.ntmps22
  go_wp2_with fail
  refine hI.mono ?_
  rintro e w1 ⟨y, rfl, HM, hw⟩
  obtain rfl := hw.symm
  clear hI
  go_wp2
  go_ret
  exact ⟨by rw [decide_eq_decide.2 HM.out.symm]; rfl, rfl⟩

set_option maxHeartbeats 1000000 in
set_option maxRecDepth 100000 in
theorem indexStr (a : Option Addr) (n c : Nat) (l : List (List UInt8)) (x : List UInt8) (w : World) (hin : TextsIn w a n l) (hn : n ≤ 1048576) :
    Calls Tryz.prog 67 #[.slice a n c, .string ⟨x.toArray⟩] w fun e w' => ∃ y : Int, e = .returned (.int .i64 y) ∧ Hid (0 ≤ y ↔ x ∈ l) ∧ w' = w := by
  obtain rfl : l.length = n := hin.1
  have HI : Hid (TextsIn w a l.length l) := hin
  clear hin
  go_enter Tryz.func67, Tryz.ntmps67
  go_wp2
  go_loopw [8] (fun iv wr => ∃ k : Nat, iv = .int .i64 (k : Int) ∧ k ≤ l.length ∧ Hid (∀ i, i < k → l.getD i [] ≠ x) ∧ wr = w) (fun iv _ => l.length - (intOf iv).toNat)
  case atStart => exact ⟨0, rfl, by omega, (fun i hi => by omega), rfl⟩
  case round =>
    obtain ⟨k, rfl, hk, HA, hwr⟩ := hrel
    obtain rfl := hwr.symm
    by_cases hlt : (k : Int) < (l.length : Int)
    · have hk2 : k < l.length := by omega
      obtain ⟨b, off, rfl, hbl, c0⟩ := HI.out.2 k hk2
      have hmem : l.getD k [] ∈ l := by simp [List.getD, hk2]
      obtain ⟨y, hy⟩ : ∃ y, l.getD k [] = y := ⟨_, rfl⟩
      rw [hy] at c0 hmem
      by_cases hxy : x = y
      · subst hxy
        have HM : Hid (0 ≤ (k : Int) ↔ x ∈ l) := ⟨fun _ => hmem, fun _ => by omega⟩
        have hself : (x == x) = true := by simp
        clear HA hy hmem
        go_wp2
        go_ret
        exact ⟨_, rfl, HM, rfl⟩
      · have HA2 : Hid (∀ i, i < k + 1 → l.getD i [] ≠ x) := fun i hi => by
          rcases Nat.lt_or_ge i k with h | h
          · exact HA.out i h
          · obtain rfl : i = k := by omega
            rw [hy]; exact fun e => hxy e.symm
        have hne : (x == y) = false := beq_eq_false_iff_ne.2 hxy
        clear HA hy hmem
        go_wp2
        go_roundw
        case rel => exact ⟨k + 1, by go_num, by omega, HA2, trivial⟩
        case measure => simp [intOf]; omega
    · have HM : Hid (0 ≤ (-1 : Int) ↔ x ∈ l) := ⟨fun h => by omega, fun h => absurd h (not_mem_s (fun i hi => HA.out i (by omega)))⟩
      go_wp2
      go_ret
      exact ⟨_, rfl, HM, rfl⟩
theorem containsStr (a : Option Addr) (n c : Nat) (l : List (List UInt8)) (x : List UInt8) (w : World) (hin : TextsIn w a n l) (hn : n ≤ 1048576) :
    Calls Tryz.prog 43 #[.slice a n c, .string ⟨x.toArray⟩] w fun e w' => e = .returned (.bool (decide (x ∈ l))) ∧ w' = w := by
  have hI := indexStr a n c l x w hin hn
  go_enter Tryz.func43, Tryz.ntmps43
  go_wp2_with fail
  refine hI.mono ?_
  rintro e w1 ⟨y, rfl, HM, hw⟩
  obtain rfl := hw.symm
  clear hI
  go_wp2
  go_ret
  exact ⟨by rw [decide_eq_decide.2 HM.out.symm]; rfl, rfl⟩

set_option maxHeartbeats 2000000 in
set_option maxRecDepth 100000 in
theorem implPlacePk (a : Option Addr) (len cap : Nat) (ps : List Pk) (s : List UInt8) (w : World) (hin : PkgsIn w a len ps) (hlen : len ≤ 1048576) :
    Calls Tryz.prog 35 #[.slice a len cap, .string ⟨s.toArray⟩] w fun e w' => e = .returned (.int .i64 (at8 ps s)) ∧ Below w.heap.size w w' := by
  obtain rfl : ps.length = len := hin.1
  have HI : Hid (PkgsIn w a ps.length ps) := hin
  clear hin
  go_enter Tryz.func35, Tryz.ntmps35
  go_wp2
  go_loopw [9] (fun iv wr => ∃ j : Nat, iv = .int .i64 (j : Int) ∧ j ≤ ps.length ∧ Hid (at8 ps s = at8Go s (ps.drop j) j) ∧ Hid (Below w.heap.size w wr)) (fun iv _ => ps.length - (intOf iv).toNat)
  case atStart => exact ⟨0, rfl, by omega, (rfl : at8 ps s = at8Go s (ps.drop 0) 0), Below.refl _ _⟩
  case round =>
    obtain ⟨j, rfl, hj, HA, HB⟩ := hrel
    by_cases hlt : (j : Int) < (ps.length : Int)
    · obtain ⟨b, off, rfl, hbl, c0, ia, il, ic, fa, fl, fc, c1, c2, _, _⟩ := (HI.out.below HB.out).2 j (by omega)
      have hg := at8Go_drop (ps := ps) (k := j) (by omega) s
      obtain ⟨x, hx⟩ : ∃ x, (ps.getD j pk0).1 = x := ⟨_, rfl⟩
      rw [hx] at c0 hg
      obtain ⟨bx, hbx⟩ := Box3.new wr (.string ⟨x.toArray⟩) (.slice ia il ic) (.slice fa fl fc) 34
      obtain ⟨X, hX⟩ : ∃ X, wr.alloc (.cells #[.string ⟨x.toArray⟩, .slice ia il ic, .slice fa fl fc] 34) = X := ⟨_, rfl⟩
      rw [hX] at bx hbx
      have d0 := bx.c0
      have d1 := bx.c1
      have d2 := bx.c2
      have HB2 : Hid (Below w.heap.size w X) := HB.out.trans (hbx.mono HB.out.size)
      clear bx hbx
      by_cases hxs : x = s
      · subst hxs
        have HR : Hid (at8 ps x = (j : Int)) := by exact (by rw [HA.out, hg, if_pos rfl] : at8 ps x = (j : Int))
        have hself : (x == x) = true := by simp
        clear HA hg hx
        go_wp2
        go_ret
        exact ⟨by rw [HR.out]; rfl, HB2.out⟩
      · have HR : Hid (at8 ps s = at8Go s (ps.drop (j + 1)) (j + 1)) := by exact (by rw [HA.out, hg, if_neg hxs] : at8 ps s = at8Go s (ps.drop (j + 1)) (j + 1))
        have hne : (x == s) = false := by rw [beq_eq_false_iff_ne]; exact hxs
        clear HA hg hx
        go_wp2
        go_roundw
        case rel => exact ⟨j + 1, by go_num, by omega, HR, HB2⟩
        case measure => simp [intOf]; omega
    · have HR : Hid (at8 ps s = -1) := by exact (by rw [HA.out, List.drop_of_length_le (by omega)]; rfl : at8 ps s = -1)
      go_wp2
      go_ret
      exact ⟨by rw [HR.out]; rfl, HB.out⟩

set_option maxHeartbeats 2000000 in
set_option maxRecDepth 100000 in
theorem implPlacesOf (a : Option Addr) (len cap : Nat) (ps : List Pk) (i : Nat) (w : World) (hin : PkgsOk w a len cap ps) (hi : i < len) :
    Calls Tryz.prog 36 #[.slice a len cap, .int .i64 (i : Int)] w fun e w' => ∃ v, e = .returned v ∧ w'.ownsRow w.heap.size 3 1 v (plc ps (imsAt ps i)).length (natV (plc ps (imsAt ps i))) ∧ Below w.heap.size w w' := by
  have HI : Hid (PkgsOk w a len cap ps) := hin
  obtain ⟨b, off, rfl, hbl, c0, ia, il, ic, fa, fl, fc, c1, c2, hpk⟩ := hin.each i hi
  have hsm := hin.small
  have hil := hpk.il
  obtain ⟨ims, hims⟩ : ∃ ims, imsAt ps i = ims := ⟨_, rfl⟩
  have hti : TextsIn w ia il ims := by rw [← hims]; exact hpk.i
  rw [hims]
  obtain rfl : ims.length = il := hti.1
  have HT : Hid (TextsIn w ia ims.length ims) := hti
  have hi2 : (i : Int) < (len : Int) := by omega
  have c1a : (w.alloc (.cells #[] 3)).cell? ⟨b, off + i * 3 + 1, none⟩ = some (.slice ia ims.length ic) := (((Below.refl _ w).alloc (Nat.le_refl _) _).cell (p := ⟨b, off + i * 3 + 1, none⟩) hbl).trans c1
  have HO0 : Hid ((w.alloc (.cells #[] 3)).ownsRow w.heap.size 3 1 (.slice (some ⟨w.heap.size, 0, none⟩) 0 0) 0 (natV (plc ps (ims.take 0)))) := World.ownsRow_lit (base := w.heap.size) (e := 3) (size := 1) w #[] 0 (Nat.le_refl _) (by decide) rfl
  have HB0 : Hid (Below w.heap.size w (w.alloc (.cells #[] 3))) := (Below.refl _ _).alloc (Nat.le_refl _) _
  clear hin hpk hims hti c0 c2
  go_enter Tryz.func36, Tryz.ntmps36
  go_wp2
  go_loopw [5, 16] (fun pv iv wr => ∃ (k m : Nat) (pa : Option Addr) (pc : Nat), pv = .slice pa m pc ∧ iv = .int .i64 (k : Int) ∧ k ≤ ims.length ∧ m ≤ k ∧ Hid ((plc ps (ims.take k)).length = m) ∧ Hid (wr.ownsRow w.heap.size 3 1 (.slice pa m pc) m (natV (plc ps (ims.take k)))) ∧ Hid (Below w.heap.size w wr)) (fun _ iv _ => ims.length - (intOf iv).toNat)
  case atStart => exact ⟨0, 0, _, 0, rfl, rfl, by omega, by omega, rfl, HO0, HB0⟩
  case round =>
    obtain ⟨k, m, pa, pc, rfl, rfl, hk, hmk, HLm, HO, HB⟩ := hrel
    clear HO0 HB0
    by_cases hlt : (k : Int) < (ims.length : Int)
    · have hk2 : k < ims.length := by omega
      obtain ⟨b2, off2, rfl, _, d0⟩ := (HT.out.below HB.out).2 k hk2
      have hpt := plc_take ps ims hk2
      obtain ⟨x, hx⟩ : ∃ x, ims.getD k [] = x := ⟨_, rfl⟩
      rw [hx] at d0 hpt
      have HP : Hid (_) := implPlacePk (some ⟨b, off, none⟩) len cap ps x wr (HI.out.below HB.out).in (by omega)
      rcases at8_is ps x with ⟨ea, _⟩ | ⟨q, hq, ea, _, _⟩
      · rw [ea] at HP
        rw [ea, if_neg (by decide)] at hpt
        have HPT : Hid (plc ps (ims.take (k + 1)) = plc ps (ims.take k)) := hpt
        clear hpt hx ea
        go_wp2_with (go_at_call 35; refine Calls.mono HP.out ?_; rintro e w1 ⟨rfl, hb1⟩; have HB1 : Hid (Below w.heap.size w w1) := HB.out.trans (hb1.mono HB.out.size); have HO1 := own_below HO.out hb1; rw [← HPT.out] at HO1; clear hb1)
        go_roundw
        case rel => exact ⟨k + 1, m, pa, pc, rfl, by go_num, by omega, by omega, by exact (by rw [HPT.out]; exact HLm.out : (plc ps (ims.take (k + 1))).length = m), HO1, HB1⟩
        case measure => simp [intOf]; omega
      · rw [ea] at HP
        rw [ea, if_pos (by omega), Int.toNat_natCast] at hpt
        have HPT : Hid (plc ps (ims.take (k + 1)) = plc ps (ims.take k) ++ [q]) := hpt
        have hqn : ¬ (q : Int) = -1 := by omega
        have hqb : ((q : Int) != -1) = true := by rw [bne_iff_ne]; exact hqn
        have hqb2 : ((q : Int) == -1) = false := beq_eq_false_iff_ne.2 hqn
        clear hpt hx ea
        go_wp2_with fail
        refine Calls.mono HP.out ?_
        rintro e w1 ⟨rfl, hb1⟩
        have hB1 : Below w.heap.size w w1 := HB.out.trans (hb1.mono HB.out.size)
        have hO1 := own_below HO.out hb1
        obtain ⟨v', Y, hr, ho, hg, _⟩ := push_nat 41 Tryz.underlying41 q hO1 hB1.size (by omega)
        obtain ⟨g', c', rfl⟩ := own_some ho (by omega)
        rw [← HPT.out] at ho
        have HOY : Hid (Y.ownsRow w.heap.size 3 1 (.slice (some ⟨g', 0, none⟩) (m + 1) c') (m + 1) (natV (plc ps (ims.take (k + 1))))) := ho
        have HBY : Hid (Below w.heap.size w Y) := hB1.grown hg hB1.size (fun q e => (hO1.lt q e).1)
        clear hb1 hO1 hB1 ho hg HP
        go_wp2_with (at_builtin; refine wpList_append_run rfl (.tmp 25) (.tmp 27) 41 rfl _ _ _ rfl rfl hr ?_; clear hr)
        go_roundw
        case rel => exact ⟨k + 1, m + 1, _, c', rfl, by go_num, by omega, by omega, by exact (by rw [HPT.out, List.length_append, List.length_singleton, HLm.out] : (plc ps (ims.take (k + 1))).length = m + 1), HOY, HBY⟩
        case measure => simp [intOf]; omega
    · have HE : Hid (ims.take k = ims) := List.take_of_length_le (by omega)
      go_wp2
      go_ret
      exact ⟨_, rfl, by have h1 := HO.out; have h2 := HLm.out; rw [HE.out] at h1 h2; rw [h2]; exact h1, HB.out⟩

end Go.Proofs.YtfeklbnggicefaaGreat

/-! The contract of the landed placesInOrder: the places in their order. -/
namespace Go.Proofs.YtfeklbnggicefaaGreat
open Go.RowKit

def lenS8 : Value → Nat
  | .slice _ n _ => n
  | _ => 0
theorem made_nats (n : Nat) : (madeCells (Value.int .i64 0).cells n).toList = natV (List.replicate n 0) := by
  apply List.ext_getElem
  · simp [madeCells, natV]
  · intro i h1 h2
    simp [madeCells, natV, Value.cells, Nat.mod_one]

/-- What placesInOrder holds: how many each waits for, who is up next, who is in order. -/
structure Po8 (X : World) (B wb nb n : Nat) (hv ov : Value) (ws hl out : List Nat) : Prop where
  hp : HpIn X B nb hv hl
  hn : HpN hl hl.length
  ow : X.ownsRow B 3 1 (.slice (some ⟨wb, 0, none⟩) n n) n (natV ws)
  wl : ws.length = n
  nw : hv.ownBlock ≠ some wb
  oo : X.ownsRow B 3 1 ov out.length (natV out)
  n1 : ov.ownBlock ≠ some wb
  n2 : ∀ k, ov.ownBlock = some k → hv.ownBlock ≠ some k

section
variable {X Y : World} {B wb nb n : Nat} {hv ov : Value} {ws hl out : List Nat}

theorem Po8.wn (s : Po8 X B wb nb n hv ov ws hl out) : wb ≠ nb := by
  rcases own_types s.ow s.hp.box (by decide) with e | e
  · cases e
  · exact fun e2 => e (by rw [e2]; rfl)
theorem Po8.on (s : Po8 X B wb nb n hv ov ws hl out) : ov.ownBlock ≠ some nb := by
  rcases own_types s.oo s.hp.box (by decide) with e | e
  · rw [e]; simp
  · exact fun e2 => e (by rw [e2]; rfl)
theorem Po8.below (s : Po8 X B wb nb n hv ov ws hl out) (hb : Below X.heap.size X Y) : Po8 Y B wb nb n hv ov ws hl out :=
  ⟨s.hp.below hb, s.hn, own_below s.ow hb, s.wl, s.nw, own_below s.oo hb, s.n1, s.n2⟩
theorem Po8.setw (s : Po8 X B wb nb n hv ov ws hl out) (hB : B ≤ X.heap.size) (i x : Nat) : Po8 (X.setCell ⟨wb, i, none⟩ (.int .i64 (x : Int))) B wb nb n hv ov (ws.set i x) hl out ∧ Below B X (X.setCell ⟨wb, i, none⟩ (.int .i64 (x : Int))) := by
  obtain ⟨h1, hg⟩ := s.ow.stored i (.int .i64 (x : Int))
  rw [natV_set] at h1
  have hw : Wrote X (X.setCell ⟨wb, i, none⟩ (.int .i64 (x : Int))) (fun k => k = wb) := Wrote.of_grown hg (fun k e => by injection e with e; exact e.symm)
  refine ⟨⟨s.hp.wrote hw s.wn.symm (fun k e e2 => s.nw (by rw [e, e2])), s.hn, h1, by rw [List.length_set]; exact s.wl, s.nw, own_wrote s.oo hw (fun k e e2 => s.n1 (by rw [e, e2])), s.n1, s.n2⟩, hw.below hB (fun k e => by rw [e]; exact (s.ow.lt wb rfl).1)⟩
theorem Po8.push (s : Po8 X B wb nb n hv ov ws hl out) (hB : B ≤ X.heap.size) {v' : Value} {l' : List Nat} (h1 : HpIn Y B nb v' l') (h2 : HpN l' l'.length) (hw : Wrote X Y (fun k => k = nb ∨ hv.ownBlock = some k)) (hn : NewAt X hv v') :
    Po8 Y B wb nb n v' ov ws l' out ∧ Below B X Y := by
  have hwl := (s.ow.lt wb rfl).2
  refine ⟨⟨h1, h2, own_wrote s.ow hw (fun k e e2 => ?_), s.wl, fun e => ?_, own_wrote s.oo hw (fun k e e2 => ?_), s.n1, fun k e e2 => ?_⟩, hw.below hB (fun k e => ?_)⟩
  · injection e with e
    subst e
    rcases e2 with e2 | e2
    · exact s.wn e2
    · exact s.nw e2
  · rcases hn wb e with e | e
    · exact s.nw e
    · omega
  · rcases e2 with e2 | e2
    · exact s.on (by rw [e, e2])
    · exact s.n2 k e e2
  · rcases hn k e2 with e2 | e2
    · exact s.n2 k e e2
    · have := (s.oo.lt k e).2; omega
  · rcases e with e | e
    · rw [e]; exact s.hp.lt.1
    · exact (s.hp.row.lt k e).1
theorem Po8.app (s : Po8 X B wb nb n hv ov ws hl out) (hB : B ≤ X.heap.size) (hl8 : out.length ≤ 1000) (x : Nat) :
    ∃ g' c' Y, (Builtin.append_ #[41, 41] 41 #[ov, .slice (some ⟨X.heap.size, 0, none⟩) 1 1]).run Tryz.prog (X.alloc (.cells #[.int .i64 (x : Int)] 3)) = .ok (.slice (some ⟨g', 0, none⟩) (out.length + 1) c') Y ∧
      Po8 Y B wb nb n hv (.slice (some ⟨g', 0, none⟩) (out.length + 1) c') ws hl (out ++ [x]) ∧ Below B X Y := by
  obtain ⟨v', Y, hr, ho, hg, hat⟩ := push_nat 41 Tryz.underlying41 x s.oo hB (by omega)
  obtain ⟨g', c', rfl⟩ := own_some ho (by omega)
  have hwl := (s.ow.lt wb rfl).2
  have hw : Wrote X Y (fun k => ov.ownBlock = some k) := Wrote.of_grown hg (fun k e => e)
  refine ⟨g', c', Y, hr, ⟨s.hp.wrote hw s.on (fun k e e2 => s.n2 k e2 e), s.hn, own_wrote s.ow hw (fun k e e2 => ?_), s.wl, s.nw, by rw [List.length_append, List.length_singleton]; exact ho, fun e => ?_, fun k e e2 => ?_⟩, hw.below hB (fun k e => (s.oo.lt k e).1)⟩
  · injection e with e
    subst e
    exact s.n1 e2
  · rcases hat with h | h
    · exact s.n1 (by rw [← h]; exact e)
    · rw [h] at e; injection e with e; omega
  · rcases hat with h | h
    · exact s.n2 k (by rw [← h]; exact e) e2
    · rw [h] at e; injection e with e
      have := (s.hp.row.lt k e2).2
      omega
theorem Po8.newo (s : Po8 X B wb nb n hv (.slice none 0 0) ws hl []) (hB : B ≤ X.heap.size) : Po8 (X.alloc (.cells #[] 3)) B wb nb n hv (.slice (some ⟨X.heap.size, 0, none⟩) 0 0) ws hl [] := by
  have hb : Below X.heap.size X (X.alloc (.cells #[] 3)) := (Below.refl _ _).alloc (Nat.le_refl _) _
  have s2 := s.below hb
  refine ⟨s2.hp, s2.hn, s2.ow, s2.wl, s2.nw, World.ownsRow_lit (base := B) (e := 3) (size := 1) X #[] 0 hB (by decide) rfl, fun e => ?_, fun k e e2 => ?_⟩
  · injection e with e
    have e3 : X.heap.size = wb := e
    have := (s.ow.lt wb rfl).2
    omega
  · injection e with e
    have e3 : X.heap.size = k := e
    have := (s.hp.row.lt k e2).2
    omega
end

theorem po8_start (w : World) (n : Nat) (hn : n ≤ 1000) : Po8 (((w.alloc (.cells (madeCells (Value.int .i64 0).cells n) 3)).alloc (.cells #[] 3)).alloc (.cells #[.slice (some ⟨w.heap.size + 1, 0, none⟩) 0 0] 64)) w.heap.size w.heap.size (w.heap.size + 2) n (.slice (some ⟨w.heap.size + 1, 0, none⟩) 0 0) (.slice none 0 0) (List.replicate n 0) [] [] := by
  obtain ⟨W1, hW1⟩ : ∃ W1, w.alloc (.cells (madeCells (Value.int .i64 0).cells n) 3) = W1 := ⟨_, rfl⟩
  have h1 := World.ownsRow_lit (base := w.heap.size) (e := 3) (size := 1) w (madeCells (Value.int .i64 0).cells n) n (Nat.le_refl _) (by unfold maxLen; omega) (by rw [size_madeCells]; omega)
  rw [made_nats, hW1] at h1
  have s1 : W1.heap.size = w.heap.size + 1 := by rw [← hW1]; simp
  have h2 := World.ownsRow_lit (base := w.heap.size) (e := 3) (size := 1) W1 #[] 0 (by omega) (by decide) rfl
  rw [hW1]
  obtain ⟨W2, hW2⟩ : ∃ W2, W1.alloc (.cells #[] 3) = W2 := ⟨_, rfl⟩
  have h1b : W2.ownsRow w.heap.size 3 1 (.slice (some ⟨w.heap.size, 0, none⟩) n n) n (natV (List.replicate n 0)) := by rw [← hW2]; exact h1.alloc _
  rw [hW2] at h2 ⊢
  have s2 : W2.heap.size = w.heap.size + 2 := by rw [← hW2]; simp; omega
  rw [s1] at h2
  have h3 := World.ownsRow_lit (base := w.heap.size) (e := 64) (size := 1) W2 #[.slice (some ⟨w.heap.size + 1, 0, none⟩) 0 0] 1 (by omega) (by decide) rfl
  rw [s2] at h3
  exact ⟨⟨h3, h2.alloc _⟩, (fun k h1 h2 => by simp at h2), h1b.alloc _, List.length_replicate, (fun e => by injection e with e; have e2 : w.heap.size + 1 = w.heap.size := e; omega), World.ownsRow_nil _ _ _ _, (fun e => by cases e), (fun k e => by cases e)⟩

end Go.Proofs.YtfeklbnggicefaaGreat

/-! The contract of the landed placesInOrder, walked. -/
namespace Go.Proofs.YtfeklbnggicefaaGreat
open Go.RowKit

theorem g_len8 {ps : List Pk} {out : List Nat} {f : Nat} (g : Kf8 ps out f) : out.length + 1 ≤ 8 := by
  have h1 := (g.or.step (projB_parts g.pj).1.nodup g.nx).len
  have h2 := (projB_parts g.pj).2.1.2
  simp [nmsAt] at h1
  omega

set_option maxHeartbeats 8000000 in
set_option maxRecDepth 100000 in
theorem implPlacesInOrder (a : Option Addr) (len cap : Nat) (ps : List Pk) (w : World) (h : PkgsOk w a len cap ps) (hpj : projB ps = true) :
    Calls Tryz.prog 21 #[.slice a len cap] w fun e w' => ∃ v, e = .returned v ∧ ∃ out, w'.ownsRow w.heap.size 3 1 v out.length (natV out) ∧ nmsAt ps out = order8 ps ∧ (∀ x ∈ out, x < len) ∧ out.length ≤ 8 ∧ Below w.heap.size w w' := by
  obtain rfl : ps.length = len := h.hlen
  have hn8 : ps.length ≤ 8 := (projB_parts hpj).2.1.2
  have HI : Hid (PkgsOk w a ps.length cap ps) := h
  have HP : Hid (projB ps = true) := hpj
  clear h hpj
  obtain ⟨i0, hi, hz0, hz1, hz2⟩ := info_parts info3
  have hmk : ∀ W : World, (Instr.makeSlice 41 (.int .i64 (ps.length : Int)) (.int .i64 (ps.length : Int))).run Tryz.prog W = .ok (.slice (some ⟨W.heap.size, 0, none⟩) ps.length ps.length) (W.alloc (.cells (madeCells (Value.int .i64 0).cells ps.length) 3)) := fun W => by
    have h := run_make (P := Tryz.prog) W 41 3 i0 (.int .i64 0) Tryz.underlying41 hi hz0 .i64 .i64 (ps.length : Int) (ps.length : Int) (by omega) (by omega) (by rw [hz2]; omega) (by omega)
    rw [hz1] at h
    simpa using h
  clear hi hz0 hz1 hz2
  have HS0 : Hid (_) := po8_start w ps.length (by omega)
  have HB0 : Hid (Below w.heap.size w (((w.alloc (.cells (madeCells (Value.int .i64 0).cells ps.length) 3)).alloc (.cells #[] 3)).alloc (.cells #[.slice (some ⟨w.heap.size + 1, 0, none⟩) 0 0] 64))) := (((Below.refl _ _).alloc (Nat.le_refl _) _).alloc (by simp) _).alloc (by simp; omega) _
  have HK0 : Hid (Ks8 ps 0 (List.replicate ps.length 0) []) := Ks8.zero ps List.length_replicate
  obtain ⟨nb, hnb⟩ : ∃ nb, w.heap.size + 1 + 1 = nb := ⟨_, rfl⟩
  rw [show w.heap.size + 2 = w.heap.size + 1 + 1 from rfl, hnb] at HS0
  go_enter Tryz.func21, Tryz.ntmps21
  go_wp2
  go_loopw [17] (fun iv wr => ∃ (k : Nat) (hv : Value) (ws hl : List Nat), iv = .int .i64 (k : Int) ∧ k ≤ ps.length ∧ Hid (Po8 wr w.heap.size w.heap.size nb ps.length hv (.slice none 0 0) ws hl []) ∧ Hid (Ks8 ps k ws hl) ∧ Hid (Below w.heap.size w wr)) (fun iv _ => ps.length - (intOf iv).toNat)
  case atStart => exact ⟨0, _, _, _, rfl, by omega, HS0, HK0, HB0⟩
  case round =>
    obtain ⟨k, hv, ws, hl, rfl, hk, HS, HK, HB⟩ := hrel
    clear HS0 HB0 HK0 hmk
    by_cases hlt : (k : Int) < (ps.length : Int)
    · have hk2 : k < ps.length := by omega
      have HPo : Hid (_) := implPlacesOf a ps.length cap ps k wr (HI.out.below HB.out) hk2
      obtain ⟨m, hm⟩ : ∃ m, wt8 ps [] k = m := ⟨_, rfl⟩
      have hlm : (plc ps (imsAt ps k)).length = m := by rw [← wt8_nil]; exact hm
      have hhl := HK.out.hlen (by omega)
      go_wp2_with fail
      refine Calls.mono HPo.out ?_
      rintro e w1 ⟨v1, rfl, ho1, hb1⟩
      rw [hlm] at ho1
      obtain ⟨pa, pc, rfl, _⟩ := own_nats ho1 hlm
      have s1 := HS.out.below hb1
      have hB1 : Below w.heap.size w w1 := HB.out.trans (hb1.mono HB.out.size)
      obtain ⟨s2, hB2⟩ := s1.setw hB1.size k m
      have c1 := nat_cell s1.ow s1.wl k hk2
      have f1 := s1.ow.frozenAt k
      have c2 := nat_cell s2.ow s2.wl k hk2
      rw [getD_set (by rw [s1.wl]; exact hk2), if_pos rfl] at c2
      obtain ⟨W2, hW2⟩ : ∃ W2, w1.setCell ⟨w.heap.size, k, none⟩ (.int .i64 (m : Int)) = W2 := ⟨_, rfl⟩
      rw [hW2] at s2 hB2 c2
      have HS2 : Hid (Po8 W2 w.heap.size w.heap.size nb ps.length hv (.slice none 0 0) (ws.set k m) hl []) := s2
      have HB2 : Hid (Below w.heap.size w W2) := hB1.trans hB2
      have HM : Hid (wt8 ps [] k = m) := hm
      clear HPo ho1 hb1 s1 hB1 s2 hB2 hlm hm HS HB
      by_cases hm0 : m = 0
      · subst hm0
        have hW3 : w1.setCell ⟨w.heap.size, k, none⟩ (.int .i64 0) = W2 := hW2
        have c3 : W2.cell? ⟨w.heap.size, k, none⟩ = some (.int .i64 0) := c2
        go_wp2_with fail
        refine (heapPush w.heap.size nb hv hl k W2 HS2.out.hp HS2.out.hn (by omega)).mono ?_
        rintro e w3 ⟨rfl, v3, l3, h3, hn3, hp3, hw3, hat3⟩
        obtain ⟨s3, hB3⟩ := HS2.out.push HB2.out.size h3 hn3 hw3 hat3
        have HS3 : Hid (Po8 w3 w.heap.size w.heap.size nb ps.length v3 (.slice none 0 0) (ws.set k 0) l3 []) := s3
        have HB3 : Hid (Below w.heap.size w w3) := HB2.out.trans hB3
        have HK3 : Hid (Ks8 ps (k + 1) (ws.set k 0) l3) := by
          have := HK.out.push hk2 HM.out hp3
          rw [HM.out] at this
          exact this
        clear h3 hn3 hp3 hw3 hat3 s3 hB3
        go_wp2
        go_roundw
        case rel => exact ⟨k + 1, v3, _, l3, by go_num, by omega, HS3, HK3, HB3⟩
        case measure => simp [intOf]; omega
      · have hmz : ¬ (m : Int) = 0 := by omega
        have HK3 : Hid (Ks8 ps (k + 1) (ws.set k m) hl) := by
          have := HK.out.pass hk2 (by rw [HM.out]; exact hm0)
          rw [HM.out] at this
          exact this
        go_wp2
        go_roundw
        case rel => exact ⟨k + 1, hv, _, hl, by go_num, by omega, HS2, HK3, HB2⟩
        case measure => simp [intOf]; omega
    · obtain rfl : k = ps.length := by omega
      obtain ⟨V, hV⟩ : ∃ V, V = wr := ⟨_, rfl⟩
      subst hV
      have HA0 : Hid (Ka8 ps [] ws hl) := HK.out.start
      have HS0 : Hid (Po8 (V.alloc (.cells #[] 3)) w.heap.size w.heap.size nb ps.length hv (.slice (some ⟨V.heap.size, 0, none⟩) 0 0) ws hl []) := HS.out.newo HB.out.size
      have HB0 : Hid (Below w.heap.size w (V.alloc (.cells #[] 3))) := HB.out.alloc HB.out.size _
      clear HK HS HB
      go_wp2
      go_loopw [6] (fun ov wr => ∃ (m : Nat) (oa : Option Addr) (oc : Nat) (hv : Value) (ws hl out : List Nat), ov = .slice oa m oc ∧ m ≤ 8 ∧ Hid (out.length = m) ∧ Hid (Po8 wr w.heap.size w.heap.size nb ps.length hv (.slice oa m oc) ws hl out) ∧ Hid (Ka8 ps out ws hl) ∧ Hid (Below w.heap.size w wr)) (fun ov _ => 100 - lenS8 ov)
      case atStart => exact ⟨0, _, 0, hv, ws, hl, [], rfl, by omega, rfl, HS0, HA0, HB0⟩
      case round =>
        obtain ⟨m, oa, oc, hv, ws, hl, out, rfl, hm8, HLo, HS, HA, HB⟩ := hrel
        clear HS0 HA0 HB0
        obtain ⟨Z, hZ⟩ : ∃ Z, Z = wr := ⟨_, rfl⟩
        subst hZ
        obtain ⟨q, hq⟩ : ∃ q, hl.length = q := ⟨_, rfl⟩
        obtain ⟨ha, hc, rfl, _⟩ := own_nats (HS.out.hp.rown hq) hq
        have c0 := HS.out.hp.cell
        rcases Nat.eq_zero_or_pos q with hq0 | hq0
        · subst hq0
          have hnil : hl = [] := List.eq_nil_of_length_eq_zero hq
          subst hnil
          have HE : Hid (nmsAt ps out = order8 ps ∧ (∀ x ∈ out, x < ps.length)) := ⟨HA.out.done, HA.out.lt⟩
          have HO : Hid (Z.ownsRow w.heap.size 3 1 (.slice oa m oc) out.length (natV out)) := HS.out.oo
          clear hq
          go_wp2_with (go_at_call 41; refine (upLen _ _ _ _).mono ?_; rintro e w2 ⟨rfl, hw2⟩; obtain rfl := hw2.symm)
          go_ret
          exact ⟨_, rfl, out, HO.out, HE.out.1, HE.out.2, by rw [HLo.out]; exact hm8, HB.out⟩
        · obtain ⟨q, rfl⟩ : ∃ p, q = p + 1 := ⟨q - 1, by omega⟩
          obtain ⟨g, hc2, hge⟩ := own_some (HS.out.hp.rown hq) (by omega)
          injection hge with e1 _ e3
          subst e1
          subst e3
          have hhl := HA.out.hlen
          have HT : Hid (_) := implTakeFirst w.heap.size nb g q hc hl Z HS.out.hp hq HS.out.hn (by omega)
          have hqz : (0 : Int) < (q : Int) + 1 := by omega
          obtain ⟨f, hf⟩ : ∃ f, hl.getD 0 0 = f := ⟨_, rfl⟩
          rw [hf] at HT
          clear hq hf
          go_wp2_with (go_at_call 41; refine (upLen _ _ _ _).mono ?_; rintro e w2 ⟨rfl, hw2⟩; obtain rfl := hw2.symm)
          refine Calls.mono HT.out ?_
          rintro e w1 ⟨rfl, l1, h1, hn1, _, hp1, hmin1, hw1⟩
          obtain ⟨s1, hB1⟩ := HS.out.push HB.out.size h1 hn1 (hw1.mono (fun k e => e.imp id (fun e => by rw [e]; rfl))) (fun k e => Or.inl e)
          obtain ⟨kf, kb⟩ := HA.out.take HP.out hp1 hmin1
          have hBw1 := HB.out.trans hB1
          obtain ⟨g', c', Y, hr, s2, hB2⟩ := s1.app hBw1.size (by rw [HLo.out]; omega) f
          rw [HLo.out] at hr s2
          have HF : Hid (Kf8 ps out f) := kf
          have HKb0 : Hid (Kb8 ps out f 0 ws l1) := kb
          have HSb0 : Hid (Po8 Y w.heap.size w.heap.size nb ps.length (.slice (some ⟨g, 0, none⟩) q hc) (.slice (some ⟨g', 0, none⟩) (m + 1) c') ws l1 (out ++ [f])) := s2
          have HBb0 : Hid (Below w.heap.size w Y) := hBw1.trans hB2
          have hm7 : m + 1 ≤ 8 := by
            have h1 := (g_len8 kf)
            rw [HLo.out] at h1
            omega
          have hfl := kf.fl
          clear HT h1 hn1 hp1 hmin1 hw1 s1 hB1 kf kb hBw1 s2 hB2 HS HA HB c0 hhl
          go_wp2_with (at_builtin; refine wpList_append_run rfl (.tmp 46) (.tmp 48) 41 rfl _ _ _ rfl rfl hr ?_; clear hr)
          go_loopw [52] (fun iv wx => ∃ (k : Nat) (hv : Value) (ws hl : List Nat), iv = .int .i64 (k : Int) ∧ k ≤ ps.length ∧ Hid (Po8 wx w.heap.size w.heap.size nb ps.length hv (.slice (some ⟨g', 0, none⟩) (m + 1) c') ws hl (out ++ [f])) ∧ Hid (Kb8 ps out f k ws hl) ∧ Hid (Below w.heap.size w wx)) (fun iv _ => ps.length - (intOf iv).toNat)
          case atStart => exact ⟨0, _, ws, l1, rfl, by omega, HSb0, HKb0, HBb0⟩
          case round =>
            obtain ⟨k, hv, ws, hl, rfl, hk, HS, HK, HB⟩ := hrel
            clear HSb0 HKb0 HBb0
            by_cases hlt : (k : Int) < (ps.length : Int)
            · have hk2 : k < ps.length := by omega
              have hok := HI.out.below HB.out
              obtain ⟨b, off, rfl, hbl, c0, ia, il, ic, fa, fl, fc, c1, c2, hpk⟩ := hok.each k hk2
              obtain ⟨b', off', he, hbl', cf, _⟩ := hok.each f hfl
              simp only [Option.some.injEq, Addr.mk.injEq, and_true] at he
              obtain ⟨rfl, rfl⟩ := he
              have hil := hpk.il
              have hti : TextsIn wr ia il (imsAt ps k) := hpk.i
              obtain ⟨x, hx⟩ : ∃ x, (ps.getD k pk0).1 = x := ⟨_, rfl⟩
              obtain ⟨y, hy⟩ : ∃ y, (ps.getD f pk0).1 = y := ⟨_, rfl⟩
              rw [hx] at c0
              rw [hy] at cf
              have HY : Hid (nmAt ps f = y) := hy
              obtain ⟨bx, hbx⟩ := Box3.new wr (.string ⟨x.toArray⟩) (.slice ia il ic) (.slice fa fl fc) 34
              obtain ⟨X, hX⟩ : ∃ X, wr.alloc (.cells #[.string ⟨x.toArray⟩, .slice ia il ic, .slice fa fl fc] 34) = X := ⟨_, rfl⟩
              rw [hX] at bx hbx
              have d0 := bx.c0
              have d1 := bx.c1
              have d2 := bx.c2
              have df : X.cell? ⟨b, off + f * 3, none⟩ = some (.string ⟨y.toArray⟩) := (hbx.cell (p := ⟨b, off + f * 3, none⟩) hbl').trans cf
              have HTi : Hid (TextsIn X ia il (imsAt ps k)) := hti.below hbx
              have HSX : Hid (Po8 X w.heap.size w.heap.size nb ps.length hv (.slice (some ⟨g', 0, none⟩) (m + 1) c') ws hl (out ++ [f])) := HS.out.below hbx
              have HBX : Hid (Below w.heap.size w X) := HB.out.trans (hbx.mono HB.out.size)
              have hfz : (f : Int) < (ps.length : Int) := by omega
              have hhl := HK.out.hlen
              have HC : Hid (∀ W, TextsIn W ia il (imsAt ps k) → Calls Tryz.prog 43 #[.slice ia il ic, .string ⟨y.toArray⟩] W fun e w' => e = .returned (.bool (decide (y ∈ imsAt ps k))) ∧ w' = W) := fun W hW => containsStr ia il ic (imsAt ps k) y W hW hil
              clear hok bx hbx hpk hti hx hy HS HB cf
              by_cases hin : y ∈ imsAt ps k
              · rw [decide_eq_true hin] at HC
                obtain ⟨hd0, hd6, hd7⟩ := HK.out.less HF.out hk2 (by rw [HY.out]; exact hin)
                obtain ⟨d, hd⟩ : ∃ d, ws.getD k 0 = d + 1 := ⟨ws.getD k 0 - 1, by omega⟩
                have HKd : Hid (d ≠ 0 → Kb8 ps out f (k + 1) (ws.set k d) hl) := fun h => by
                  have := HK.out.down HF.out hk2 (by rw [HY.out]; exact hin) (by rw [hd]; simpa using h)
                  rw [hd] at this
                  exact this
                have HKp : Hid (d = 0 → ∀ hl2 : List Nat, hl2.Perm (k :: hl) → Kb8 ps out f (k + 1) (ws.set k d) hl2) := fun h hl2 hp => by
                  have := HK.out.push HF.out hk2 (by rw [HY.out]; exact hin) (by rw [hd]; simpa using h) hp
                  rw [hd] at this
                  exact this
                have HD : Hid (ws.getD k 0 = d + 1) := hd
                have hdb : d ≤ 5 := by omega
                clear hin hd0 hd6 hd7 hd HK
                go_wp2_with fail
                go_quiet (first | (go_at_call 43; refine Calls.quiet_of_same (HC.out _ (HTi.out.below ⟨rfl, rfl, rfl, Nat.le_refl _, fun _ _ => rfl⟩))))
                generalize hX5 : X.drewN _ = X5
                have hb5 : Below X.heap.size X X5 := by rw [← hX5]; exact ⟨rfl, rfl, rfl, Nat.le_refl _, fun _ _ => rfl⟩
                have s5 := HSX.out.below hb5
                have hB5 : Below w.heap.size w X5 := HBX.out.trans (hb5.mono HBX.out.size)
                obtain ⟨s6, hB6⟩ := s5.setw hB5.size k d
                have e1 := nat_cell s5.ow s5.wl k hk2
                rw [HD.out] at e1
                have f1 := s5.ow.frozenAt k
                have e2 := nat_cell s6.ow s6.wl k hk2
                rw [getD_set (by rw [s5.wl]; exact hk2), if_pos rfl] at e2
                obtain ⟨W6, hW6⟩ : ∃ W6, X5.setCell ⟨w.heap.size, k, none⟩ (.int .i64 (d : Int)) = W6 := ⟨_, rfl⟩
                rw [hW6] at s6 hB6 e2
                have HS6 : Hid (Po8 W6 w.heap.size w.heap.size nb ps.length hv (.slice (some ⟨g', 0, none⟩) (m + 1) c') (ws.set k d) hl (out ++ [f])) := s6
                have HB6 : Hid (Below w.heap.size w W6) := hB5.trans hB6
                clear c0 c1 c2 hX5 hb5 s5 hB5 s6 hB6 d0 d1 d2 df HC HSX HBX HD
                by_cases hd0 : d = 0
                · subst hd0
                  have hW7 : X5.setCell ⟨w.heap.size, k, none⟩ (.int .i64 0) = W6 := hW6
                  have e3 : W6.cell? ⟨w.heap.size, k, none⟩ = some (.int .i64 0) := e2
                  have e4 : X5.cell? ⟨w.heap.size, k, none⟩ = some (.int .i64 1) := e1
                  go_wp2_with fail
                  refine (heapPush w.heap.size nb hv hl k W6 HS6.out.hp HS6.out.hn (by omega)).mono ?_
                  rintro e w7 ⟨rfl, v7, l7, h7, hn7, hp7, hw7, hat7⟩
                  obtain ⟨s7, hB7⟩ := HS6.out.push HB6.out.size h7 hn7 hw7 hat7
                  have HS7 : Hid (Po8 w7 w.heap.size w.heap.size nb ps.length v7 (.slice (some ⟨g', 0, none⟩) (m + 1) c') (ws.set k 0) l7 (out ++ [f])) := s7
                  have HB7 : Hid (Below w.heap.size w w7) := HB6.out.trans hB7
                  have HK7 : Hid (Kb8 ps out f (k + 1) (ws.set k 0) l7) := HKp.out (by simp) l7 hp7
                  clear h7 hn7 hp7 hw7 hat7 s7 hB7
                  go_wp2
                  go_roundw
                  case rel => exact ⟨k + 1, v7, _, l7, by go_num, by omega, HS7, HK7, HB7⟩
                  case measure => simp [intOf]; omega
                · have hdz : ¬ (d : Int) = 0 := by omega
                  have HK7 : Hid (Kb8 ps out f (k + 1) (ws.set k d) hl) := HKd.out hd0
                  go_wp2
                  go_roundw
                  case rel => exact ⟨k + 1, hv, _, hl, by go_num, by omega, HS6, HK7, HB6⟩
                  case measure => simp [intOf]; omega
              · rw [decide_eq_false hin] at HC
                have HK2 : Hid (Kb8 ps out f (k + 1) ws hl) := HK.out.skip HF.out hk2 (by rw [HY.out]; exact hin)
                clear hin HK
                go_wp2_with fail
                go_quiet (first | (go_at_call 43; refine Calls.quiet_of_same (HC.out _ (HTi.out.below ⟨rfl, rfl, rfl, Nat.le_refl _, fun _ _ => rfl⟩))))
                generalize hX5 : X.drewN _ = X5
                have hb5 : Below X.heap.size X X5 := by rw [← hX5]; exact ⟨rfl, rfl, rfl, Nat.le_refl _, fun _ _ => rfl⟩
                have HS5 : Hid (Po8 X5 w.heap.size w.heap.size nb ps.length hv (.slice (some ⟨g', 0, none⟩) (m + 1) c') ws hl (out ++ [f])) := HSX.out.below hb5
                have HB5 : Hid (Below w.heap.size w X5) := HBX.out.trans (hb5.mono HBX.out.size)
                clear c0 c1 c2 hX5 hb5 d0 d1 d2 df HC HSX HBX
                go_wp2
                go_roundw
                case rel => exact ⟨k + 1, hv, ws, hl, by go_num, by omega, HS5, HK2, HB5⟩
                case measure => simp [intOf]; omega
            · obtain rfl : k = ps.length := by omega
              have HA2 : Hid (Ka8 ps (out ++ [f]) ws hl) := HK.out.out HF.out
              have HL2 : Hid ((out ++ [f]).length = m + 1) := by exact (by rw [List.length_append, List.length_singleton, HLo.out] : (out ++ [f]).length = m + 1)
              go_wp2
              go_roundw
              case rel => exact ⟨m + 1, _, c', hv, ws, hl, out ++ [f], rfl, by omega, HL2, HS, HA2, HB⟩
              case measure => simp [lenS8]; omega

end Go.Proofs.YtfeklbnggicefaaGreat
