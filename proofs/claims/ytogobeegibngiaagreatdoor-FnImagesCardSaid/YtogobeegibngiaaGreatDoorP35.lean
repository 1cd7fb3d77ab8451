/-
  Parts of one proof, one behind the other: ChunkI, LineI, NmN, ImgJ, ImgJ2.
-/
import Derived.Test.YtogobeegibngiaaGreatDoorP34
import Derived.Test.YtogobeegibngiaaGreatDoorP3
import Derived.Test.YtogobeegibngiaaGreatDoorP2
import Derived.Laws.MakeOwn
import Derived.Lib.BufferWrite
import Derived.Lib.Strings
import Derived.Deep.RegionHeld3
import Derived.Test.YtogobeegibngiaaGreatDoorP14
import Derived.Test.YtogobeegibngiaaGreatDoorP28
import Derived.Test.YtogobeegibngiaaGreatDoorP32
import Derived.Test.YtogobeegibngiaaGreatDoorP20

/-! The contracts of the landed Chunks and Joined. -/
namespace Go.Proofs.YtogobeegibngiaaGreatDoor
open Go.RowKit

theorem bytes_back {w : World} {B off : Nat} {r : List UInt8} (m : Nat) (hm : m ≤ r.length) (hc : ∀ j (hj : j < r.length), w.cell? ⟨B, off + j, none⟩ = some (.int .u8 (r[j].toNat : Int))) (c : Nat) :
    (convert 22 9 (.slice (some ⟨B, off, none⟩) m c)).run Tryz.prog w = .ok (.string ⟨(r.take m).toArray⟩) w := by
  have hl : (r.take m).length = m := by rw [List.length_take]; omega
  have h := run_convert_bytes_back (P := Tryz.prog) w 22 9 5 ⟨B, off, none⟩ c (r.take m) Tryz.underlying22 Tryz.underlying5 Tryz.underlying9 (by
    intro j hj
    have e0 : (⟨B, off, none⟩ : Addr).add j = ⟨B, off + j, none⟩ := by unfold Addr.add; split <;> simp_all
    rw [e0, hc j (by omega)]
    simp)
  rw [hl] at h
  exact h


def flatN (ts : List (List UInt8)) (k : Nat) : Nat := (ts.take k).flatten.length
def flatF (ts : List (List UInt8)) (k : Nat) : List UInt8 := (ts.take k).flatten

theorem flatN_step (ts : List (List UInt8)) (k : Nat) (hk : k < ts.length) : flatN ts (k + 1) = flatN ts k + (ts.getD k []).length ∧ flatF ts (k + 1) = flatF ts k ++ ts.getD k [] := by
  unfold flatN flatF
  rw [flat_snoc ts k hk, List.length_append]
  exact ⟨rfl, rfl⟩

theorem flatN_le (ts : List (List UInt8)) (k : Nat) : flatN ts k ≤ ts.flatten.length := flat_take ts k

/-- Block g is a row of N bytes of the call's own, of which the first hold l. -/
def RowAt (w : World) (g N : Nat) (l : List UInt8) : Prop := ∃ Y : Array Value, w.heap[g]? = some (.cells Y 5 (0, 0)) ∧ Y.size = N ∧ l.length ≤ N ∧ Y.toList.take l.length = bytesV l

theorem byteCells_list (l : List UInt8) : Lib.byteCells l = bytesV l := by simp [Lib.byteCells, bytesV]

/-- A text is copied behind what is there. -/
theorem RowAt.copy {w : World} {g N : Nat} {l t : List UInt8} (h : RowAt w g N l) (hfit : l.length + t.length ≤ N) (ty : TypeId) (off : Nat) (hfo : off + t.length ≤ N) (hoff : t = [] ∨ off = l.length) :
    ∃ w', (Builtin.copy_ #[22, 9] ty #[.slice (some ⟨g, off, none⟩) (N - l.length) (N - l.length), .string ⟨t.toArray⟩]).run Tryz.prog w = .ok (.int .i64 (t.length : Int)) w' ∧ RowAt w' g N (l ++ t) ∧ w.grownBy w' (some g) := by
  obtain ⟨Y, hY, hYs, hlN, htk⟩ := h
  obtain ⟨i0, hi, hz0, hz1, hz2⟩ := info_parts info5
  have hinfo : (Tryz.prog.info? 5).map (·.size) = some 1 := by rw [hi]; simp [hz1]
  have hts : (⟨t.toArray⟩ : ByteArray).size = t.length := List.size_toArray
  have hcp := Lib.run_copy_row_string (P := Tryz.prog) w 22 9 ty 5 g off (N - l.length) (N - l.length) ⟨t.toArray⟩ Y 5 Tryz.underlying22 hinfo hY (by rw [hts]; omega) (by rw [hts]; omega)
  rw [hts] at hcp
  have hYl : Y.toList.length = N := by rw [Array.length_toList]; exact hYs
  have hbl : (Lib.byteCells t).length = t.length := Lib.byteCells_length t
  refine ⟨_, hcp, ⟨_, setRow_heap _ _ Y _ 5 (0, 0) hY, ?_, by rw [List.length_append]; omega, ?_⟩, ⟨rfl, rfl, rfl, by simp, fun k hk hne => setRow_other _ _ _ _ (fun e => hne (by rw [e]))⟩⟩
  · rw [List.size_toArray, List.length_append, List.length_append, List.length_take, List.length_drop, hbl, hYl]
    omega
  · rw [List.toList_toArray]
    rcases hoff with rfl | rfl
    · simp only [Lib.byteCells, List.map_nil, List.append_nil, List.length_nil, Nat.add_zero, List.take_append_drop]
      exact htk
    · rw [htk, byteCells_list, List.length_append]
      have : bytesV (l ++ t) = bytesV l ++ bytesV t := by simp [bytesV]
      rw [← this, List.take_append_of_le_length (by simp [bytesV]), List.take_of_length_le (by simp [bytesV])]

set_option maxHeartbeats 2000000 in
set_option maxRecDepth 100000 in
theorem implJoined (a : Option Addr) (len cap : Nat) (ts : List (List UInt8)) (w : World) (hin : TextsIn w a len ts) (hl : ts.flatten.length ≤ 1048576) (hlen : len ≤ 4194304) :
    Calls Tryz.prog 15 #[.slice a len cap] w fun e w' => e = .returned (.string ⟨ts.flatten.toArray⟩) ∧ Below w.heap.size w w' := by
  have hlb := hin.1
  have HI : Hid (TextsIn w a len ts) := hin
  have HL : Hid (ts.flatten.length ≤ 1048576) := hl
  clear hin hl
  obtain ⟨i0, hi, hz0, hz1, hz2⟩ := info_parts info5
  have hmk : ∀ (N : Nat) (W : World), N ≤ 1048576 → ∃ M, M.size = N ∧ (Instr.makeSlice 22 (.int .i64 (N : Int)) (.int .i64 (N : Int))).run Tryz.prog W = .ok (.slice (some ⟨W.heap.size, 0, none⟩) N N) (W.alloc (.cells M 5)) := fun N W hN => by
    have h := run_make (P := Tryz.prog) W 22 5 i0 (.int .u8 0) Tryz.underlying22 hi hz0 .i64 .i64 (N : Int) (N : Int) (by omega) (by omega) (by rw [hz2]; omega) (by omega)
    refine ⟨madeCells (Value.int .u8 0).cells (((N : Int)).toNat * i0.size), by rw [size_madeCells, hz1]; simp, ?_⟩
    simpa using h
  have HMK := hmk ts.flatten.length w HL.out
  obtain ⟨M, hMs, hmake⟩ := HMK
  have HN : Hid (flatN ts len = ts.flatten.length) := by exact (by unfold flatN; rw [List.take_of_length_le (by omega)] : flatN ts len = ts.flatten.length)
  rw [← HN.out] at hMs hmake
  obtain ⟨N, hNN⟩ : ∃ N, flatN ts len = N := ⟨_, rfl⟩
  rw [hNN] at hMs hmake
  have HNN : Hid (flatN ts len = N) := hNN
  have HMS : Hid (M.size = N) := hMs
  clear hmk hMs hNN
  go_enter Tryz.func15, Tryz.ntmps15
  go_wp2
  go_loop [3, 12] (fun n i => ∃ k : Nat, k ≤ len ∧ i = .int .i64 k ∧ n = .int .i64 (flatN ts k : Nat)) (fun _ i => len - (intOf i).toNat)
  case atStart => exact ⟨0, Nat.zero_le _, rfl, rfl⟩
  case round =>
    obtain ⟨k, hk, rfl, rfl⟩ := hrel
    by_cases hkl : (k : Int) < (len : Int)
    · obtain ⟨b, off, rfl, hbl, hcells⟩ := HI.out.at (by omega)
      have ck := hcells k (by omega)
      have hst := (flatN_step ts k (by omega)).1
      have hft := flatN_le ts (k + 1)
      have hll := HL.out
      obtain ⟨t, ht⟩ : ∃ t, ts.getD k [] = t := ⟨_, rfl⟩
      rw [ht] at ck hst
      have hlen2 : (flatN ts k : Int) + (t.length : Int) ≤ 1048576 := by omega
      have HF : Hid (flatN ts (k + 1) = flatN ts k + t.length) := hst
      clear hcells hst hft ht hll hmake
      go_wp2
      go_round
      case rel => exact ⟨k + 1, by omega, by go_num, by rw [HF.out]; go_num⟩
      case measure => simp [intOf]; omega
    · obtain rfl : k = len := by omega
      have hR0 : RowAt (w.alloc (.cells M 5)) w.heap.size N (flatF ts 0) := ⟨M, heap_alloc_new w _, HMS.out, by simp [flatF], by simp [flatF, bytesV]⟩
      have HR0 : Hid (RowAt (w.alloc (.cells M 5)) w.heap.size N (flatF ts 0)) := hR0
      clear hR0
      rw [HNN.out]
      go_wp2
      go_loopw [7, 25] (fun at_ i wr => ∃ q : Nat, q ≤ k ∧ i = .int .i64 q ∧ at_ = .int .i64 (flatN ts q : Nat) ∧ Hid (RowAt wr w.heap.size N (flatF ts q)) ∧ w.heap.size < wr.heap.size ∧ Below w.heap.size w wr) (fun _ i _ => k - (intOf i).toNat)
      case atStart => exact ⟨0, Nat.zero_le _, rfl, rfl, HR0, by simp, (Below.refl _ _).alloc (Nat.le_refl _) _⟩
      case round =>
        obtain ⟨q, hq, rfl, rfl, HR, hlt, hb⟩ := hrel
        clear hmake HR0
        by_cases hql : (q : Int) < (k : Int)
        · obtain ⟨b, off, rfl, hbl, hcells⟩ := (HI.out.below hb).at (by omega)
          have ck := hcells q (by omega)
          have hst := flatN_step ts q (by omega)
          have hft := flatN_le ts (q + 1)
          have hll := HL.out
          have hn := HN.out
          have hn2 := HNN.out
          obtain ⟨t, ht⟩ : ∃ t, ts.getD q [] = t := ⟨_, rfl⟩
          rw [ht] at ck hst
          have hlen2 : (flatN ts q : Int) + (t.length : Int) ≤ (N : Int) := by omega
          have hlen3 : (N : Int) ≤ 1048576 := by omega
          have hlen4 : (flatN ts q : Int) ≤ (N : Int) := by omega
          have HF : Hid (flatN ts (q + 1) = flatN ts q + t.length) := hst.1
          have HF2 : Hid (flatF ts (q + 1) = flatF ts q ++ t) := hst.2
          have hfl : (flatF ts q).length = flatN ts q := rfl
          have HFL : Hid ((flatF ts q).length = flatN ts q) := hfl
          clear hcells hst hft ht hll hn hn2 hfl
          by_cases hA : flatN ts q = N
          · have ht0 : t = [] := List.eq_nil_of_length_eq_zero (by omega)
            subst ht0
            obtain ⟨w3, hcp, hR3, hg3⟩ := HR.out.copy (t := []) (by simp; rw [HFL.out]; omega) 3 0 (by simp) (Or.inl rfl)
            rw [HFL.out, hA, Nat.sub_self] at hcp
            rw [← HF2.out] at hR3
            have HR3 : Hid (RowAt w3 w.heap.size N (flatF ts (q + 1))) := hR3
            have HA : Hid (flatN ts q = N) := hA
            have hb3 : Below w.heap.size w w3 := hb.grown hg3 hb.size (fun j e => by injection e with e; omega)
            have hlt3 : w.heap.size < w3.heap.size := by have := hg3.size; omega
            rw [hA]
            clear hA hR3 hg3
            go_wp2
            go_roundw
            case rel => exact ⟨q + 1, by omega, by go_num, by rw [HF.out, HA.out]; rfl, HR3, hlt3, hb3⟩
            case measure => simp [intOf]; omega
          · obtain ⟨w3, hcp, hR3, hg3⟩ := HR.out.copy (t := t) (by rw [HFL.out]; omega) 3 (flatN ts q) (by omega) (Or.inr HFL.out.symm)
            rw [HFL.out] at hcp
            rw [← HF2.out] at hR3
            have HR3 : Hid (RowAt w3 w.heap.size N (flatF ts (q + 1))) := hR3
            have hA2 : ¬ N = flatN ts q := fun e => hA e.symm
            have hb3 : Below w.heap.size w w3 := hb.grown hg3 hb.size (fun j e => by injection e with e; omega)
            have hlt3 : w.heap.size < w3.heap.size := by have := hg3.size; omega
            clear hA hR3 hg3
            go_wp2
            go_roundw
            case rel => exact ⟨q + 1, by omega, by go_num, by rw [HF.out]; go_num, HR3, hlt3, hb3⟩
            case measure => simp [intOf]; omega
        · obtain rfl : q = k := by omega
          obtain ⟨Y, hY, hYs, hlN, htk⟩ := HR.out
          have hfl : (flatF ts q).length = N := (rfl : (flatF ts q).length = flatN ts q).trans HNN.out
          rw [hfl] at htk
          have hcells : ∀ j (hj : j < (flatF ts q).length), wr.cell? ⟨w.heap.size, 0 + j, none⟩ = some (.int .u8 ((flatF ts q)[j].toNat : Int)) := fun j hj => by
            have h1 : Y.toList = bytesV (flatF ts q) := by rw [← htk, List.take_of_length_le (by rw [Array.length_toList]; omega)]
            rw [Nat.zero_add]
            simp only [World.cell?, hY]
            simp only [Option.isSome_none, Bool.false_eq_true, if_false]
            rw [← Array.getElem?_toList, h1]
            simp [bytesV, hj]
          have hbk := bytes_back N (by omega) hcells N
          rw [List.take_of_length_le (by omega)] at hbk
          have HT : Hid (flatF ts q = ts.flatten) := by exact (by unfold flatF; rw [List.take_of_length_le (by omega)] : flatF ts q = ts.flatten)
          rw [HT.out] at hbk
          clear hcells hfl htk hlN hYs hY
          go_wp2
          go_ret
          exact ⟨rfl, hb⟩

end Go.Proofs.YtogobeegibngiaaGreatDoor

/-! The contract of the landed code's lineOf; a line put behind others. -/
namespace Go.Proofs.YtogobeegibngiaaGreatDoor
open Go.RowKit

set_option maxHeartbeats 1000000 in
set_option maxRecDepth 100000 in
theorem implLineOf (v : Value) (ts : List (List UInt8)) (base : Nat) (w : World) (h : w.ownsRow base 9 1 v ts.length (strV ts)) (hn : ts.length ≤ 1048576) (hl : (joinBy 32 ts).length ≤ 1048576) :
    Calls Tryz.prog 48 #[v] w fun e w' => e = .returned (.string ⟨(lineT (joinBy 32 ts)).toArray⟩) ∧ Below w.heap.size w w' := by
  have HC : Hid (_) := joinTexts v ts base w h hn hl
  obtain ⟨x, hx⟩ : ∃ x, joinBy 32 ts = x := ⟨_, rfl⟩
  rw [hx] at HC ⊢
  rw [hx] at hl
  have hadd : ∀ X : World, (Op.stringOp .add ⟨x.toArray⟩ ⟨#[10]⟩).run Tryz.prog X = .ok (.string ⟨(lineT x).toArray⟩) X := fun X => run_string_add_lists (P := Tryz.prog) X x [10] (by omega) (by simp)
  clear h hx
  go_enter Tryz.func48, Tryz.ntmps48
  go_wp2_with fail
  refine Calls.mono HC.out ?_
  rintro e w1 ⟨rfl, hb1⟩
  go_wp2
  go_ret
  exact ⟨rfl, hb1⟩

theorem add_plainL (b o j : Nat) : (⟨b, o, none⟩ : Addr).add j = ⟨b, o + j, none⟩ := by rw [Addr.add_mid]
theorem new_strL (w : World) (x : List UInt8) (c : Nat) : Src (w.alloc (.cells #[.string ⟨x.toArray⟩] 9)) (.slice (some ⟨w.heap.size, 0, none⟩) 1 c) 1 1 (strV [x]) := by
  refine ⟨rfl, fun u hu => ?_, Or.inr ⟨_, c, rfl, fun j u hu => ?_⟩⟩
  · simp [strV] at hu; subst hu; rfl
  rw [add_plainL, Nat.zero_add]
  match j, hu with
  | 0, hu => simp [strV] at hu; subst hu; simp
  | j + 1, hu => simp [strV] at hu
end Go.Proofs.YtogobeegibngiaaGreatDoor

/-! The contract of the landed nameOrNone: a name, or - for an empty one. -/
namespace Go.Proofs.YtogobeegibngiaaGreatDoor
open Go.RowKit

set_option maxHeartbeats 1000000 in
set_option maxRecDepth 100000 in
theorem implNameOrNone (s : List UInt8) (w : World) :
    Calls Tryz.prog 71 #[.string ⟨s.toArray⟩] w fun e w' => e = .returned (.string ⟨(nmL s).toArray⟩) ∧ w' = w := by
  rcases s with _ | ⟨c, r⟩
  · go_enter Tryz.func71, Tryz.ntmps71
    go_wp2
    go_ret
    exact ⟨by simp [nmL], rfl⟩
  · go_enter Tryz.func71, Tryz.ntmps71
    go_wp2
    go_ret
    exact ⟨by simp [nmL], rfl⟩

end Go.Proofs.YtogobeegibngiaaGreatDoor

/-! Contracts of chapter 14's landed code: what an instruction is written as (shownIns). -/
namespace Go.Proofs.YtogobeegibngiaaGreatDoor
open Go.RowKit

def wsI (i : In13) : List (List UInt8) := [intL i.1, intL i.2.1, intL i.2.2.1, intL i.2.2.2.1]
theorem insLn_join (i : In13) : joinBy 32 (wsI i ++ [nmL i.2.2.2.2]) = insLn i := by simp [wsI, insLn, joinBy]
def nsI (i : In13) : List Int := [i.1, i.2.1, i.2.2.1, i.2.2.2.1]
theorem wsI_take (i : In13) (k : Nat) (hk : k < 4) : (wsI i).take (k + 1) = (wsI i).take k ++ [intL ((nsI i).getD k 0)] := by
  match k, hk with
  | 0, _ => rfl
  | 1, _ => rfl
  | 2, _ => rfl
  | 3, _ => rfl
theorem nsI_word {i : In13} (h : insP i) (k : Nat) : -2147483648 ≤ (nsI i).getD k 0 ∧ (nsI i).getD k 0 ≤ 2147483647 := by
  obtain ⟨w0, w1, w2, w3⟩ := insP_words h
  match k with
  | 0 => exact w0
  | 1 => exact w1
  | 2 => exact w2
  | 3 => exact w3
  | j + 4 => simp [nsI]
theorem own_srcL {w : World} {base e size n : Nat} {v : Value} {xs : List Value} (h : w.ownsRow base e size v n xs) (h1 : ∀ u ∈ xs, u.oneCell' = true) : Src w v n size xs := by
  refine ⟨h.1, h1, ?_⟩
  rcases own_forms h with ⟨rfl, rfl, _⟩ | ⟨g, cp, rfl⟩
  · exact Or.inl ⟨rfl, rfl⟩
  · exact Or.inr ⟨⟨g, 0, none⟩, cp, rfl, fun j u hu => h.cells rfl j u hu⟩
/-- A text is put behind others. -/
theorem push_str {X : World} {B n : Nat} {v : Value} {ls : List (List UInt8)} (x : List UInt8) (hv : X.ownsRow B 9 1 v n (strV ls)) (hB : B ≤ X.heap.size) (hn : n ≤ 1048576) :
    ∃ v' Y, (Builtin.append_ #[35, 35] 35 #[v, .slice (some ⟨X.heap.size, 0, none⟩) 1 1]).run Tryz.prog (X.alloc (.cells #[.string ⟨x.toArray⟩] 9)) = .ok v' Y ∧ Y.ownsRow B 9 1 v' (n + 1) (strV (ls ++ [x])) ∧ (X.alloc (.cells #[.string ⟨x.toArray⟩] 9)).grownBy Y v.ownBlock := by
  obtain ⟨i0, hi, hz0, hz1, hz2⟩ := info_parts info9
  obtain ⟨v', Y, hrun, hown, hg, _⟩ := run_append_src (P := Tryz.prog) (X.alloc (.cells #[.string ⟨x.toArray⟩] 9)) B 35 35 9 i0 _ 1 16 Tryz.underlying35 hi hz0 hz1 hz2 rfl (by decide) _ _ _ (hv.alloc _) _ 1 (strV [x]) (new_strL X x 1) (by unfold maxLen; omega) (by omega) (by simp; omega)
  exact ⟨v', Y, hrun, by rw [← strV_snoc]; exact hown, hg⟩

/-- What shownIns holds: the instruction (at D), its numbers (at N), the words so far. -/
structure Sj14 (w X : World) (D N : Nat) (i : In13) (v : Value) (n : Nat) (ls : List (List UInt8)) : Prop where
  b : X.ownsRow w.heap.size 56 5 (.slice (some ⟨D, 0, none⟩) 1 1) 1 [.int .i64 i.1, .int .i64 i.2.1, .int .i64 i.2.2.1, .int .i64 i.2.2.2.1, .string ⟨i.2.2.2.2.toArray⟩]
  nn : X.ownsRow w.heap.size 2 1 (.slice (some ⟨N, 0, none⟩) 4 4) 4 (intsV (nsI i))
  vv : X.ownsRow w.heap.size 9 1 v n (strV ls)
  h : Below w.heap.size w X
section
variable {w X Y : World} {D N : Nat} {i : In13} {v v' : Value} {n : Nat} {ls : List (List UInt8)}
theorem Sj14.below (h : Sj14 w X D N i v n ls) (hb : Below X.heap.size X Y) : Sj14 w Y D N i v n ls := ⟨own_below h.b hb, own_below h.nn hb, own_below h.vv hb, h.h.trans (hb.mono h.h.size)⟩
theorem Sj14.push (h : Sj14 w X D N i v n ls) (x : List UInt8) (hn : n ≤ 1000) : ∃ v' Y, (Builtin.append_ #[35, 35] 35 #[v, .slice (some ⟨X.heap.size, 0, none⟩) 1 1]).run Tryz.prog (X.alloc (.cells #[.string ⟨x.toArray⟩] 9)) = .ok v' Y ∧ Sj14 w Y D N i v' (n + 1) (ls ++ [x]) := by
  obtain ⟨v', Y, hrun, hv, hg⟩ := push_str x h.vv h.h.size (by omega)
  have h1 := h.below ((Below.refl _ X).alloc (Nat.le_refl _) (.cells #[.string ⟨x.toArray⟩] 9))
  exact ⟨v', Y, hrun, h1.b.kept hg (own_typesR h1.b h1.vv (by decide)), h1.nn.kept hg (own_typesR h1.nn h1.vv (by decide)), hv, h1.h.grown hg h1.h.size (fun q e => (h1.vv.lt q e).1)⟩
end
theorem itoaInt (n : Int) (w : World) (ht : PowIs w) (h0 : 0 ≤ n) (h1 : n ≤ 1048576) :
    Calls Tryz.prog 47 #[.int .i64 n] w fun e w' => e = .returned (.string ⟨(intL n).toArray⟩) ∧ Below w.heap.size w w' := by
  refine (Tryz.strconv_Itoa n (by omega) (by omega) w ht).mono ?_
  rintro e w' ⟨rfl, k, os, rfl⟩
  exact ⟨by rw [itoa_int], Lib.below_grow _ w (Nat.le_refl _) k os⟩
set_option maxHeartbeats 4000000 in
set_option maxRecDepth 100000 in
theorem implShownIns (i : In13) (w : World) (ht : PowIs w) (hi : insP i) :
    Calls Tryz.prog 49 #[insVal i] w fun e w' => e = .returned (.string ⟨(lineT (insLn i)).toArray⟩) ∧ Below w.heap.size w w' := by
  have hll : (insLn i).length ≤ 1000 := by have := insLn_len hi; omega
  have HW : Hid (∀ k, -2147483648 ≤ (nsI i).getD k 0 ∧ (nsI i).getD k 0 ≤ 2147483647) := fun k => nsI_word hi k
  have HT : Hid (∀ X, Below w.heap.size w X → PowIs X) := fun X hb => ht.below hb
  have HL : Hid (∀ (v : Value) (X : World), X.ownsRow w.heap.size 9 1 v 5 (strV (wsI i ++ [nmL i.2.2.2.2])) → Calls Tryz.prog 48 #[v] X fun e w' => e = .returned (.string ⟨(lineT (insLn i)).toArray⟩) ∧ Below X.heap.size X w') := fun v X hv => by
    have hj := insLn_join i
    have := implLineOf v (wsI i ++ [nmL i.2.2.2.2]) w.heap.size X hv (by simp [wsI]) (by rw [hj]; omega)
    rw [hj] at this
    exact this
  have HTk : Hid (∀ k, k < 4 → (wsI i).take (k + 1) = (wsI i).take k ++ [intL ((nsI i).getD k 0)]) := fun k hk => wsI_take i k hk
  have HNm : Hid (∀ X : World, Calls Tryz.prog 71 #[.string ⟨i.2.2.2.2.toArray⟩] X fun e w' => e = .returned (.string ⟨(nmL i.2.2.2.2).toArray⟩) ∧ w' = X) := fun X => implNameOrNone _ X
  generalize lineT (insLn i) = res at HL ⊢
  have hb0 := World.ownsRow_lit (base := w.heap.size) (e := 56) (size := 5) w #[.int .i64 i.1, .int .i64 i.2.1, .int .i64 i.2.2.1, .int .i64 i.2.2.2.1, .string ⟨i.2.2.2.2.toArray⟩] 1 (Nat.le_refl _) (by decide) rfl
  obtain ⟨W1, hW1⟩ : ∃ W, w.alloc (.cells #[.int .i64 i.1, .int .i64 i.2.1, .int .i64 i.2.2.1, .int .i64 i.2.2.2.1, .string ⟨i.2.2.2.2.toArray⟩] 56) = W := ⟨_, rfl⟩
  rw [hW1] at hb0
  have hB1 : Below w.heap.size w W1 := by rw [← hW1]; exact (Below.refl _ _).alloc (Nat.le_refl _) _
  have hs1 : W1.heap.size = w.heap.size + 1 := by rw [← hW1]; simp
  have hv0 := World.ownsRow_lit (base := w.heap.size) (e := 9) (size := 1) W1 #[] 0 (by omega) (by decide) rfl
  obtain ⟨W2, hW2⟩ : ∃ W, W1.alloc (.cells #[] 9) = W := ⟨_, rfl⟩
  rw [hW2] at hv0
  have hB2 : Below W1.heap.size W1 W2 := by rw [← hW2]; exact (Below.refl _ _).alloc (Nat.le_refl _) _
  have hs2 : W2.heap.size = W1.heap.size + 1 := by rw [← hW2]; simp
  have hn0 := World.ownsRow_lit (base := w.heap.size) (e := 2) (size := 1) W2 #[.int .i64 i.1, .int .i64 i.2.1, .int .i64 i.2.2.1, .int .i64 i.2.2.2.1] 4 (by omega) (by decide) rfl
  obtain ⟨W3, hW3⟩ : ∃ W, W2.alloc (.cells #[.int .i64 i.1, .int .i64 i.2.1, .int .i64 i.2.2.1, .int .i64 i.2.2.2.1] 2) = W := ⟨_, rfl⟩
  rw [hW3] at hn0
  have hB3 : Below W2.heap.size W2 W3 := by rw [← hW3]; exact (Below.refl _ _).alloc (Nat.le_refl _) _
  obtain ⟨D, hD⟩ : ∃ D, w.heap.size = D := ⟨_, rfl⟩
  have hN1 : W1.heap.size = D + 1 := by omega
  have hN2 : W2.heap.size = D + 2 := by omega
  have st : Sj14 w W3 w.heap.size W2.heap.size i (.slice (some ⟨W1.heap.size, 0, none⟩) 0 0) 0 ((wsI i).take 0) :=
    ⟨own_below (own_below hb0 hB2) hB3, hn0, own_below hv0 hB3, (hB1.trans (hB2.mono hB1.size)).trans (hB3.mono (by omega))⟩
  rw [hN1, hN2] at st
  rw [hD] at st
  have q0 : W2.cell? ⟨D, 0, none⟩ = some (.int .i64 i.1) := by rw [← hD]; exact (own_below hb0 hB2).cells rfl 0 _ rfl
  have q1 : W2.cell? ⟨D, 1, none⟩ = some (.int .i64 i.2.1) := by rw [← hD]; exact (own_below hb0 hB2).cells rfl 1 _ rfl
  have q2 : W2.cell? ⟨D, 2, none⟩ = some (.int .i64 i.2.2.1) := by rw [← hD]; exact (own_below hb0 hB2).cells rfl 2 _ rfl
  have q3 : W2.cell? ⟨D, 3, none⟩ = some (.int .i64 i.2.2.2.1) := by rw [← hD]; exact (own_below hb0 hB2).cells rfl 3 _ rfl
  have HS0 : Hid (Sj14 w W3 D (D + 2) i (.slice (some ⟨D + 1, 0, none⟩) 0 0) 0 ((wsI i).take 0)) := st
  clear hb0 hv0 hn0 hB1 hB2 hB3 st ht hll
  unfold insVal
  generalize hnmL : nmL i.2.2.2.2 = nml at HL HNm
  clear hnmL
  generalize hws : wsI i = ws at HS0 HTk HL
  have HWs : Hid (wsI i = ws) := hws
  generalize hns : nsI i = ns at HTk HW
  have HNs : Hid (nsI i = ns) := hns
  clear hws hns
  go_enter Tryz.func49, Tryz.ntmps49
  go_wp2
  go_loopw [3, 17] (fun vv iv wx => ∃ k : Nat, iv = .int .i64 (k : Int) ∧ k ≤ 4 ∧ Hid (Sj14 w wx D (D + 2) i vv k (ws.take k))) (fun _ iv _ => 4 - (intOf iv).toNat)
  case atStart => exact ⟨0, rfl, by omega, HS0⟩
  case round =>
    obtain ⟨k, rfl, hk, sr⟩ := hrel
    clear HS0 q0 q1 q2 q3
    by_cases hlt : (k : Int) < 4
    · have ck := ints_cell sr.out.nn k (by show k < 4; omega)
      have hxw := HW.out k
      have htk := HTk.out k (by omega)
      rw [HNs.out] at ck
      generalize ns.getD k 0 = x at ck hxw htk
      have HC : Hid (_) := fmtInt x wr (HT.out _ sr.out.h) hxw.1 hxw.2
      generalize intL x = sx at HC htk
      have HTK : Hid (ws.take (k + 1) = ws.take k ++ [sx]) := htk
      clear htk hxw
      go_wp2_with fail
      refine Calls.mono HC.out ?_
      rintro e w3 ⟨rfl, hb3⟩
      obtain ⟨v', Y, hrun, s4⟩ := (sr.out.below hb3).push sx (by omega)
      have HS4 : Hid (Sj14 w Y D (D + 2) i v' (k + 1) (ws.take (k + 1))) := by exact (by rw [HTK.out]; exact s4 : Sj14 w Y D (D + 2) i v' (k + 1) (ws.take (k + 1)))
      clear s4 hb3 sr ck HTK
      go_wp2_with (at_builtin; refine wpList_append_run rfl (.tmp 21) (.tmp 24) 35 rfl _ _ _ rfl rfl hrun ?_; clear hrun)
      go_roundw
      case rel => exact ⟨k + 1, by go_num, by omega, HS4⟩
      case measure => simp [intOf]; omega
    · obtain rfl : k = 4 := by omega
      have cn : wr.cell? ⟨D, 4, none⟩ = some (.string ⟨i.2.2.2.2.toArray⟩) := sr.out.b.cells rfl 4 _ rfl
      obtain ⟨v', Y, hrun, s4⟩ := sr.out.push nml (by omega)
      have hsv := s4.vv
      rw [show ws.take 4 = ws by rw [← HWs.out]; rfl] at hsv
      have HC : Hid (_) := HL.out v' Y hsv
      have HB4 : Hid (Below w.heap.size w Y) := s4.h
      have HN4 : Hid (_) := HNm.out wr
      clear s4 sr hsv HNm
      obtain ⟨kd, R, A, Bq, nm⟩ := i
      simp only at cn HN4
      go_wp2_with fail
      refine Calls.mono HN4.out ?_
      rintro e w4 ⟨rfl, hw4⟩
      obtain rfl := hw4.symm
      clear hw4 HN4
      go_wp2_with (first | (at_builtin; refine wpList_append_run rfl _ _ 35 rfl _ _ _ rfl rfl hrun ?_; clear hrun) | (go_at_call 48; refine Calls.mono HC.out ?_; rintro e w5 ⟨rfl, hb5⟩))
      go_ret
      exact ⟨rfl, by first | exact HB4.out.trans (hb5.mono HB4.out.size) | (rw [hD]; exact HB4.out.trans (hb5.mono HB4.out.size))⟩

end Go.Proofs.YtogobeegibngiaaGreatDoor

/-! Contracts of chapter 14's landed code: the lines of a routine, ShowImage (written by gen_imgj2.py). -/
namespace Go.Proofs.YtogobeegibngiaaGreatDoor
open Go.RowKit

def rtLs (r : Rt) : List (List UInt8) := (rtLines r).map lineT
theorem rtLs_len (r : Rt) : (rtLs r).length = r.2.2.length + 1 := by unfold rtLs rtLines; simp
def rtLsK (r : Rt) (k : Nat) : List (List UInt8) := lineT (rtLn r) :: (r.2.2.take k).map (fun i => lineT (insLn i))
theorem rtLsK_step (r : Rt) (k : Nat) (hk : k < r.2.2.length) : rtLsK r (k + 1) = rtLsK r k ++ [lineT (insLn (r.2.2.getD k in0))] := by
  have e : r.2.2.getD k in0 = r.2.2[k] := by rw [List.getD_eq_getElem?_getD, List.getElem?_eq_getElem hk]; rfl
  unfold rtLsK
  rw [List.take_succ_eq_append_getElem hk, List.map_append, e]
  rfl
theorem rtLsK_all (r : Rt) : rtLsK r r.2.2.length = rtLs r := by
  unfold rtLsK rtLs rtLines
  rw [List.take_of_length_le (Nat.le_refl _)]
  simp
theorem rtLn_join (r : Rt) : joinBy 32 [kwRt, r.1, intL r.2.1, intL (r.2.2.length : Int)] = rtLn r := by simp [rtLn, joinBy]
def imLs (rs : List Rt) : List (List UInt8) := rs.flatMap rtLs
theorem imLs_flat (rs : List Rt) : (imLs rs).flatten = showI rs := by
  unfold imLs showI imLines termJ rtLs lineT
  rw [List.map_flatMap]
theorem imLs_take (rs : List Rt) (k : Nat) (hk : k < rs.length) : imLs (rs.take (k + 1)) = imLs (rs.take k) ++ rtLs (rs.getD k rt0) := by
  have e : rs.getD k rt0 = rs[k] := by rw [List.getD_eq_getElem?_getD, List.getElem?_eq_getElem hk]; rfl
  unfold imLs
  rw [List.take_succ_eq_append_getElem hk, List.flatMap_append, e]
  simp
theorem imLs_len (rs : List Rt) (h : ∀ r ∈ rs, rtB r = true) : (imLs rs).length ≤ rs.length * 201 := by
  induction rs with
  | nil => simp [imLs]
  | cons r rs ih =>
    have h1 := codeB_len (rtB_parts (h r (by simp))).2.2.1
    have h2 := ih (fun q hq => h q (by simp [hq]))
    unfold imLs at h2 ⊢
    rw [List.flatMap_cons, List.length_append, rtLs_len, List.length_cons]
    omega
theorem mem_getI {rs : List Rt} {k : Nat} (hk : k < rs.length) : rs.getD k rt0 ∈ rs := by rw [List.getD_eq_getElem?_getD, List.getElem?_eq_getElem hk]; exact List.getElem_mem hk
theorem mem_getC {c : List In13} {k : Nat} (hk : k < c.length) : c.getD k in0 ∈ c := by rw [List.getD_eq_getElem?_getD, List.getElem?_eq_getElem hk]; exact List.getElem_mem hk

/-- A routine's box, its code, the lines so far. -/
structure Ls14 (w X : World) (D : Nat) (nm : List UInt8) (ar : Int) (ca : Option Addr) (cc : Nat) (cd : List In13) (v : Value) (n : Nat) (ls : List (List UInt8)) : Prop where
  b : X.ownsRow w.heap.size 50 3 (.slice (some ⟨D, 0, none⟩) 1 1) 1 [.string ⟨nm.toArray⟩, .int .i64 ar, .slice ca cd.length cc]
  vv : X.ownsRow w.heap.size 9 1 v n (strV ls)
  h : Below w.heap.size w X
section
variable {w X Y : World} {D : Nat} {nm : List UInt8} {ar : Int} {ca : Option Addr} {cc : Nat} {cd : List In13} {v v' : Value} {n : Nat} {ls : List (List UInt8)}
theorem Ls14.below (h : Ls14 w X D nm ar ca cc cd v n ls) (hb : Below X.heap.size X Y) : Ls14 w Y D nm ar ca cc cd v n ls := ⟨own_below h.b hb, own_below h.vv hb, h.h.trans (hb.mono h.h.size)⟩
theorem Ls14.push (h : Ls14 w X D nm ar ca cc cd v n ls) (x : List UInt8) (hn : n ≤ 1000) : ∃ v' Y, (Builtin.append_ #[35, 35] 35 #[v, .slice (some ⟨X.heap.size, 0, none⟩) 1 1]).run Tryz.prog (X.alloc (.cells #[.string ⟨x.toArray⟩] 9)) = .ok v' Y ∧ Ls14 w Y D nm ar ca cc cd v' (n + 1) (ls ++ [x]) := by
  obtain ⟨v', Y, hrun, hv, hg⟩ := push_str x h.vv h.h.size (by omega)
  have h1 := h.below ((Below.refl _ X).alloc (Nat.le_refl _) (.cells #[.string ⟨x.toArray⟩] 9))
  exact ⟨v', Y, hrun, h1.b.kept hg (own_typesR h1.b h1.vv (by decide)), hv, h1.h.grown hg h1.h.size (fun q e => (h1.vv.lt q e).1)⟩
end
set_option maxHeartbeats 8000000 in
set_option maxRecDepth 100000 in
theorem implLinesOf (nm : List UInt8) (ar : Int) (ca : Option Addr) (cc : Nat) (cd : List In13) (w : World) (ht : PowIs w) (hr : rtB (nm, ar, cd) = true) (hin : InsIn w ca cd.length cd) :
    Calls Tryz.prog 32 #[.agg #[.string ⟨nm.toArray⟩, .int .i64 ar, .slice ca cd.length cc]] w fun e w' => ∃ v, e = .returned v ∧ w'.ownsRow w.heap.size 9 1 v (cd.length + 1) (strV (rtLs (nm, ar, cd))) ∧ Below w.heap.size w w' := by
  obtain ⟨hn13, har, hcb, _⟩ := rtB_parts hr
  simp only at hn13 har hcb
  have hcl := codeB_len hcb
  have hrl := rtLn_len hr
  have HP : Hid (∀ i ∈ cd, insP i) := codeB_ins hcb
  have HI : Hid (InsIn w ca cd.length cd) := hin
  have HT : Hid (∀ X, Below w.heap.size w X → PowIs X) := fun X hb => ht.below hb
  have HSt : Hid (∀ k, k < cd.length → rtLsK (nm, ar, cd) (k + 1) = rtLsK (nm, ar, cd) k ++ [lineT (insLn (cd.getD k in0))]) := fun k hk => rtLsK_step (nm, ar, cd) k hk
  have HAl : Hid (rtLsK (nm, ar, cd) cd.length = rtLs (nm, ar, cd)) := rtLsK_all (nm, ar, cd)
  have HF : Hid (∀ X, Below w.heap.size w X → Calls Tryz.prog 46 #[.int .i64 ar, .int .i64 10] X fun e w' => e = .returned (.string ⟨(intL ar).toArray⟩) ∧ Below X.heap.size X w') := fun X hb => fmtInt ar X (HT.out X hb) (by omega) (by omega)
  have HA : Hid (∀ X, Below w.heap.size w X → Calls Tryz.prog 47 #[.int .i64 (cd.length : Int)] X fun e w' => e = .returned (.string ⟨(intL (cd.length : Int)).toArray⟩) ∧ Below X.heap.size X w') := fun X hb => itoaInt (cd.length : Int) X (HT.out X hb) (by omega) (by omega)
  have HL : Hid (∀ (v : Value) (X : World) (B : Nat), X.ownsRow B 9 1 v 4 (strV [kwRt, nm, intL ar, intL (cd.length : Int)]) → Calls Tryz.prog 48 #[v] X fun e w' => e = .returned (.string ⟨(lineT (rtLn (nm, ar, cd))).toArray⟩) ∧ Below X.heap.size X w') := fun v X B hv => by
    have hj := rtLn_join (nm, ar, cd)
    simp only at hj
    have := implLineOf v [kwRt, nm, intL ar, intL (cd.length : Int)] B X hv (by simp) (by rw [hj]; omega)
    rw [hj] at this
    exact this
  have HL0 : Hid (rtLsK (nm, ar, cd) 0 = [lineT (rtLn (nm, ar, cd))]) := rfl
  have hb0 := World.ownsRow_lit (base := w.heap.size) (e := 50) (size := 3) w #[.string ⟨nm.toArray⟩, .int .i64 ar, .slice ca cd.length cc] 1 (Nat.le_refl _) (by decide) rfl
  obtain ⟨W, hW⟩ : ∃ W, w.alloc (.cells #[.string ⟨nm.toArray⟩, .int .i64 ar, .slice ca cd.length cc] 50) = W := ⟨_, rfl⟩
  rw [hW] at hb0
  have hB : Below w.heap.size w W := by rw [← hW]; exact (Below.refl _ _).alloc (Nat.le_refl _) _
  have hsW : W.heap.size = w.heap.size + 1 := by rw [← hW]; simp
  have HBW : Hid (Below w.heap.size w W) := hB
  obtain ⟨D, hD⟩ : ∃ D, w.heap.size = D := ⟨_, rfl⟩
  have HB0 : Hid (∀ X, Below W.heap.size W X → X.ownsRow w.heap.size 50 3 (.slice (some ⟨D, 0, none⟩) 1 1) 1 [.string ⟨nm.toArray⟩, .int .i64 ar, .slice ca cd.length cc]) := fun X hX => by
    have := own_below hb0 hX
    rw [← hD]
    exact this
  have HG : Hid (∀ X, Below W.heap.size W X → X.cell? ⟨D, 1, none⟩ = some (.int .i64 ar) ∧ X.cell? ⟨D, 2, none⟩ = some (.slice ca cd.length cc) ∧ X.cell? ⟨D, 0, none⟩ = some (.string ⟨nm.toArray⟩)) := fun X hX => ⟨(HB0.out X hX).cells rfl 1 _ rfl, (HB0.out X hX).cells rfl 2 _ rfl, (HB0.out X hX).cells rfl 0 _ rfl⟩
  have HWX : Hid (∀ X, Below W.heap.size W X → Below w.heap.size w X) := fun X hX => hB.trans (hX.mono hB.size)
  generalize lineT (rtLn (nm, ar, cd)) = q0 at HL HL0
  generalize rtLs (nm, ar, cd) = out at HAl ⊢
  generalize hKK : rtLsK (nm, ar, cd) = KK at HSt HAl HL0
  generalize intL ar = sa at HF HL
  generalize intL (cd.length : Int) = sl at HA HL
  obtain ⟨m, hm⟩ : ∃ m, cd.length = m := ⟨_, rfl⟩
  have HM : Hid (cd.length = m) := hm
  rw [hm] at HI HSt HAl HA HG HB0 hcl hW ⊢
  clear hin ht hr hn13 har hcb hb0 hB hKK hrl hm
  go_enter Tryz.func32, Tryz.ntmps32
  go_wp2_with fail
  refine wp_region_held_drew (S := fun X => Below W.heap.size W X) (by kernel_rfl) ⟨rfl, rfl, rfl, Nat.le_refl _, fun _ _ => rfl⟩ (fun hHeld => ?_)
  refine wpAnyH_take (i := 0) (oi := ⟨some 8, _, _, _, _, _⟩) (v := ?v1) rfl (by kernel_rfl) (by kernel_rfl) (by kernel_rfl) (fun _ _ _ h => h) (Or.inl ⟨by rfl, ?hy1⟩) (by assumption) ?rest1
  case hy1 => (intro wq hSw; have e0 := (HG.out wq hSw).1; have e1 := (HG.out wq hSw).2.1; clear hSw; first | (go_simp; done) | (go_simp; with_reducible rfl))
  simp only [Act.put, List.setIfInBounds_toArray, List.set_cons_zero, List.set_cons_succ]
  refine wpAnyH_take (i := 1) (oi := ⟨some 9, _, _, _, _, _⟩) (v := ?v2) rfl (by kernel_rfl) (by kernel_rfl) (by kernel_rfl) (fun _ _ _ h => h) (Or.inl ⟨by rfl, ?hy2⟩) (by assumption) ?rest2
  case hy2 => (intro wq hSw; have e0 := (HG.out wq hSw).1; have e1 := (HG.out wq hSw).2.1; clear hSw; first | (go_simp; done) | (go_simp; with_reducible rfl))
  simp only [Act.put, List.setIfInBounds_toArray, List.set_cons_zero, List.set_cons_succ]
  refine wpAnyH_take (i := 3) (oi := ⟨some 11, _, _, _, _, _⟩) (v := ?v3) rfl (by kernel_rfl) (by kernel_rfl) (by kernel_rfl) (fun _ _ _ h => h) (Or.inl ⟨by rfl, ?hy3⟩) (by assumption) ?rest3
  case hy3 => (intro wq hSw; have e0 := (HG.out wq hSw).1; have e1 := (HG.out wq hSw).2.1; clear hSw; first | (go_simp; done) | (go_simp; with_reducible rfl))
  simp only [Act.put, List.setIfInBounds_toArray, List.set_cons_zero, List.set_cons_succ]
  refine wpAnyH_take (i := 4) (oi := ⟨some 12, _, _, _, _, _⟩) (v := ?v4) rfl (by kernel_rfl) (by kernel_rfl) (by kernel_rfl) (fun _ _ _ h => h) (Or.inl ⟨by rfl, ?hy4⟩) (by assumption) ?rest4
  case hy4 => (intro wq hSw; have e0 := (HG.out wq hSw).1; have e1 := (HG.out wq hSw).2.1; clear hSw; first | (go_simp; done) | (go_simp; with_reducible rfl))
  simp only [Act.put, List.setIfInBounds_toArray, List.set_cons_zero, List.set_cons_succ]
  refine wpAnyH_take (i := 5) (oi := ⟨some 13, _, _, _, _, _⟩) (v := ?v5) rfl (by kernel_rfl) (by kernel_rfl) (by kernel_rfl) (fun _ _ _ h => h) (Or.inl ⟨by rfl, ?hy5⟩) (by assumption) ?rest5
  case hy5 => (intro wq hSw; have e0 := (HG.out wq hSw).1; have e1 := (HG.out wq hSw).2.1; clear hSw; first | (go_simp; done) | (go_simp; with_reducible rfl))
  simp only [Act.put, List.setIfInBounds_toArray, List.set_cons_zero, List.set_cons_succ]
  refine wpAnyH_ready (rs := [2]) (by kernel_rfl) (by simp) ?_
  refine AllReadyH.cons rfl (fun K hK => ?_) AllReadyH.nil
  go_simp
  refine Calls.mono (HF.out _ (HWX.out _ hHeld)) ?_
  rintro e W1 ⟨rfl, hb1⟩
  dsimp only
  refine hK.out _ _ (by exact hHeld.trans (hb1.mono hHeld.size)) (fun hHeld => ?_)
  clear hK K
  (try simp only [Act.put, List.setIfInBounds_toArray, List.set_cons_zero, List.set_cons_succ])
  refine wpAnyH_ready (rs := [6]) (by kernel_rfl) (by simp) ?_
  refine AllReadyH.cons rfl (fun K hK => ?_) AllReadyH.nil
  go_simp
  refine Calls.mono (HA.out _ (HWX.out _ hHeld)) ?_
  rintro e W2 ⟨rfl, hb2⟩
  dsimp only
  refine hK.out _ _ (by exact hHeld.trans (hb2.mono hHeld.size)) (fun hHeld => ?_)
  clear hK K
  (try simp only [Act.put, List.setIfInBounds_toArray, List.set_cons_zero, List.set_cons_succ])
  refine wpAnyH_take (i := 7) (oi := ⟨some 3, _, _, _, _, _⟩) (v := ?v6) rfl (by kernel_rfl) (by kernel_rfl) (by kernel_rfl) (fun _ _ _ h => h) (Or.inl ⟨by rfl, ?hy6⟩) (by assumption) ?rest6
  case hy6 => (intro wq hSw; clear hSw; first | (go_simp; done) | (go_simp; with_reducible rfl))
  simp only [Act.put, List.setIfInBounds_toArray, List.set_cons_zero, List.set_cons_succ]
  refine wpAnyH_take (i := 8) (oi := ⟨some 4, _, _, _, _, _⟩) (v := ?v7) rfl (by kernel_rfl) (by kernel_rfl) (by kernel_rfl) (fun _ _ _ h => h) (Or.inl ⟨by rfl, ?hy7⟩) (by assumption) ?rest7
  case hy7 => (intro wq hSw; clear hSw; first | (go_simp; done) | (go_simp; with_reducible rfl))
  simp only [Act.put, List.setIfInBounds_toArray, List.set_cons_zero, List.set_cons_succ]
  have HB5 : Hid (Below W.heap.size W W2) := hHeld
  refine wpAnyH_done (by kernel_rfl) ?_ _
  clear hHeld hb1 hb2
  have k0 := (HG.out _ HB5.out).2.2
  have ho1 := World.ownsRow_lit (base := W2.heap.size) (e := 9) (size := 1) W2 #[.string ⟨#[114, 111, 117, 116, 105, 110, 101]⟩, .string ⟨nm.toArray⟩, .string ⟨sa.toArray⟩, .string ⟨sl.toArray⟩] 4 (Nat.le_refl _) (by decide) rfl
  have HC1 : Hid (_) := HL.out _ _ _ ho1
  have hbA : Below W2.heap.size W2 (W2.alloc (.cells #[.string ⟨#[114, 111, 117, 116, 105, 110, 101]⟩, .string ⟨nm.toArray⟩, .string ⟨sa.toArray⟩, .string ⟨sl.toArray⟩] 9)) := (Below.refl _ _).alloc (Nat.le_refl _) _
  clear ho1
  go_wp2_with fail
  refine Calls.mono HC1.out ?_
  rintro e w2 ⟨rfl, hb2⟩
  have hB2 : Below W.heap.size W w2 := HB5.out.trans ((hbA.trans (hb2.mono hbA.size)).mono HB5.out.size)
  have hBA : Below w2.heap.size w2 (w2.alloc (.cells #[.string ⟨q0.toArray⟩] 9)) := (Below.refl _ _).alloc (Nat.le_refl _) _
  have hB3 : Below W.heap.size W (w2.alloc (.cells #[.string ⟨q0.toArray⟩] 9)) := hB2.trans (hBA.mono hB2.size)
  have ho2 := World.ownsRow_lit (base := w.heap.size) (e := 9) (size := 1) w2 #[.string ⟨q0.toArray⟩] 1 (by have := hB2.size; omega) (by decide) rfl
  obtain ⟨V3, hV3⟩ : ∃ V, w2.alloc (.cells #[.string ⟨q0.toArray⟩] 9) = V := ⟨_, rfl⟩
  rw [hV3] at hB3 ho2 hBA
  have k2 := (HG.out _ hB3).2.1
  have HS0 : Hid (Ls14 w V3 D nm ar ca cc cd (.slice (some ⟨w2.heap.size, 0, none⟩) 1 1) (0 + 1) (KK 0)) := ⟨by rw [HM.out]; exact HB0.out _ hB3, by rw [HL0.out]; exact ho2, HWX.out _ hB3⟩
  clear HL HF HA HC1 hb2 hB2 hB3 ho2 hBA hbA k0 HB5 HL0
  go_wp2
  go_loopw [5, 25] (fun vv iv wx => ∃ k : Nat, iv = .int .i64 (k : Int) ∧ k ≤ m ∧ Hid (Ls14 w wx D nm ar ca cc cd vv (k + 1) (KK k))) (fun _ iv _ => m - (intOf iv).toNat)
  case atStart => exact ⟨0, rfl, Nat.zero_le _, HS0⟩
  case round =>
    obtain ⟨k, rfl, hk, sr⟩ := hrel
    clear HS0 k2
    by_cases hlt : (k : Int) < (m : Int)
    · obtain ⟨b, off, rfl, hbl, c0, c1, c2, c3, c4⟩ := (HI.out.below sr.out.h).2 k (by omega)
      have hst := HSt.out k (by omega)
      have hip := HP.out _ (mem_getC (k := k) (by rw [HM.out]; omega))
      obtain ⟨i, hi⟩ : ∃ i, cd.getD k in0 = i := ⟨_, rfl⟩
      rw [hi] at c0 c1 c2 c3 c4 hst hip
      have hb4 : Below wr.heap.size wr (wr.alloc (.cells #[.int .i64 i.1, .int .i64 i.2.1, .int .i64 i.2.2.1, .int .i64 i.2.2.2.1, .string ⟨i.2.2.2.2.toArray⟩] 56)) := (Below.refl _ _).alloc (Nat.le_refl _) _
      have s4 := sr.out.below hb4
      have HC : Hid (_) := implShownIns i _ (HT.out _ s4.h) hip
      unfold insVal at HC
      generalize lineT (insLn i) = sx at HC hst
      have HTK : Hid (KK (k + 1) = KK k ++ [sx]) := hst
      obtain ⟨kd, R, A, Bq, nq⟩ := i
      simp only at c0 c1 c2 c3 c4 HC s4 hb4
      have S4 : Hid (_) := s4
      clear hst hip hi hb4 s4 sr
      go_wp2_with fail
      refine Calls.mono HC.out ?_
      rintro e w5 ⟨rfl, hb5⟩
      obtain ⟨v', Y, hrun, s6⟩ := (S4.out.below hb5).push sx (by omega)
      have HS6 : Hid (Ls14 w Y D nm ar (some ⟨b, off, none⟩) cc cd v' (k + 1 + 1) (KK (k + 1))) := by exact (by rw [HTK.out]; exact s6 : Ls14 w Y D nm ar (some ⟨b, off, none⟩) cc cd v' (k + 1 + 1) (KK (k + 1)))
      clear s6 hb5 S4 HTK c0 c1 c2 c3 c4
      go_wp2_with (at_builtin; refine wpList_append_run rfl (.tmp 29) (.tmp 32) 35 rfl _ _ _ rfl rfl hrun ?_; clear hrun)
      go_roundw
      case rel => exact ⟨k + 1, by go_num, by omega, HS6⟩
      case measure => simp [intOf]; omega
    · obtain rfl : k = m := by omega
      have HE : Hid (wr.ownsRow w.heap.size 9 1 u5 (k + 1) (strV out) ∧ Below w.heap.size w wr) := by
        have h1 := sr.out.vv
        rw [HAl.out] at h1
        exact ⟨h1, sr.out.h⟩
      clear sr
      go_wp2
      go_ret
      exact ⟨_, rfl, by first | exact HE.out.1 | (rw [hD]; exact HE.out.1) | (rw [← hD]; exact HE.out.1), by first | exact HE.out.2 | (rw [hD]; exact HE.out.2) | (rw [← hD]; exact HE.out.2)⟩

end Go.Proofs.YtogobeegibngiaaGreatDoor
