/-
  Parts of one proof, one behind the other: ChunkI, LineI, HeadI, PackJ.
-/
import Derived.Test.YtibppdepgoiojaaGreatDoorP25
import Derived.Test.YtibppdepgoiojaaGreatDoorP4
import Derived.Test.YtibppdepgoiojaaGreatDoorP3
import Derived.Laws.MakeOwn
import Derived.Lib.BufferWrite
import Derived.Lib.Strings
import Derived.Test.YtibppdepgoiojaaGreatDoorP10
import Derived.Deep.RegionHeld3
import Derived.Test.YtibppdepgoiojaaGreatDoorP23
import Derived.Test.YtibppdepgoiojaaGreatDoorP11

/-! The contracts of the landed Chunks and Joined. -/
namespace Go.Proofs.YtibppdepgoiojaaGreatDoor
open Go.RowKit

/-- The bytes of r lie in block B, where A says; where there are none, A may be whatever. -/
def BytesAt (w : World) (B : Nat) (A : Option Addr) (r : List UInt8) : Prop :=
  r = [] ∨ ∃ off, A = some ⟨B, off, none⟩ ∧ ∀ j (hj : j < r.length), w.cell? ⟨B, off + j, none⟩ = some (.int .u8 (r[j].toNat : Int))

theorem BytesAt.below {w w' : World} {B : Nat} {A : Option Addr} {r : List UInt8} (h : BytesAt w B A r) (hb : w'.heap[B]? = w.heap[B]?) : BytesAt w' B A r := by
  rcases h with h | ⟨off, hA, hc⟩
  · exact Or.inl h
  · exact Or.inr ⟨off, hA, fun j hj => (World.cell?_of_block (a := ⟨B, off + j, none⟩) hb).trans (hc j hj)⟩

theorem BytesAt.drop {w : World} {B off cp : Nat} {r : List UInt8} (m : Nat) (hm : m ≤ r.length) (hcp : r.length ≤ cp) (hc : ∀ j (hj : j < r.length), w.cell? ⟨B, off + j, none⟩ = some (.int .u8 (r[j].toNat : Int))) : BytesAt w B (if cp = m then some ⟨B, off, none⟩ else some ⟨B, off + m, none⟩) (r.drop m) := by
  by_cases h : r.length = m
  · exact Or.inl (List.drop_eq_nil_of_le (by omega))
  · refine Or.inr ⟨off + m, by rw [if_neg (by omega)], fun j hj => ?_⟩
    rw [List.length_drop] at hj
    have := hc (m + j) (by omega)
    rw [← Nat.add_assoc] at this
    rw [this, List.getElem_drop]

theorem bytes_back {w : World} {B off : Nat} {r : List UInt8} (m : Nat) (hm : m ≤ r.length) (hc : ∀ j (hj : j < r.length), w.cell? ⟨B, off + j, none⟩ = some (.int .u8 (r[j].toNat : Int))) (c : Nat) :
    (convert 22 9 (.slice (some ⟨B, off, none⟩) m c)).run Tryz.prog w = .ok (.string ⟨(r.take m).toArray⟩) w := by
  have hl : (r.take m).length = m := by rw [List.length_take]; omega
  have h := run_convert_bytes_back (P := Tryz.prog) w 22 9 5 ⟨B, off, none⟩ c (r.take m) Tryz.underlying22 Tryz.underlying5 Tryz.underlying9 (by
    intro j hj
    have e0 : (⟨B, off, none⟩ : Addr).add j = ⟨B, off + j, none⟩ := by unfold Addr.add; split <;> simp_all
    rw [e0, hc j (by omega)]
    simp)
  rw [hl] at h
  exact h


def flatN (ts : List (List UInt8)) (k : Nat) : Nat := (ts.take k).flatten.length
def flatF (ts : List (List UInt8)) (k : Nat) : List UInt8 := (ts.take k).flatten

theorem flatN_step (ts : List (List UInt8)) (k : Nat) (hk : k < ts.length) : flatN ts (k + 1) = flatN ts k + (ts.getD k []).length ∧ flatF ts (k + 1) = flatF ts k ++ ts.getD k [] := by
  unfold flatN flatF
  rw [flat_snoc ts k hk, List.length_append]
  exact ⟨rfl, rfl⟩

theorem flatN_le (ts : List (List UInt8)) (k : Nat) : flatN ts k ≤ ts.flatten.length := flat_take ts k

/-- Block g is a row of N bytes of the call's own, of which the first hold l. -/
def RowAt (w : World) (g N : Nat) (l : List UInt8) : Prop := ∃ Y : Array Value, w.heap[g]? = some (.cells Y 5 (0, 0)) ∧ Y.size = N ∧ l.length ≤ N ∧ Y.toList.take l.length = bytesV l

theorem byteCells_list (l : List UInt8) : Lib.byteCells l = bytesV l := by simp [Lib.byteCells, bytesV]

/-- A text is copied behind what is there. -/
theorem RowAt.copy {w : World} {g N : Nat} {l t : List UInt8} (h : RowAt w g N l) (hfit : l.length + t.length ≤ N) (ty : TypeId) (off : Nat) (hfo : off + t.length ≤ N) (hoff : t = [] ∨ off = l.length) :
    ∃ w', (Builtin.copy_ #[22, 9] ty #[.slice (some ⟨g, off, none⟩) (N - l.length) (N - l.length), .string ⟨t.toArray⟩]).run Tryz.prog w = .ok (.int .i64 (t.length : Int)) w' ∧ RowAt w' g N (l ++ t) ∧ w.grownBy w' (some g) := by
  obtain ⟨Y, hY, hYs, hlN, htk⟩ := h
  obtain ⟨i0, hi, hz0, hz1, hz2⟩ := info_parts info5
  have hinfo : (Tryz.prog.info? 5).map (·.size) = some 1 := by rw [hi]; simp [hz1]
  have hts : (⟨t.toArray⟩ : ByteArray).size = t.length := List.size_toArray
  have hcp := Lib.run_copy_row_string (P := Tryz.prog) w 22 9 ty 5 g off (N - l.length) (N - l.length) ⟨t.toArray⟩ Y 5 Tryz.underlying22 hinfo hY (by rw [hts]; omega) (by rw [hts]; omega)
  rw [hts] at hcp
  have hYl : Y.toList.length = N := by rw [Array.length_toList]; exact hYs
  have hbl : (Lib.byteCells t).length = t.length := Lib.byteCells_length t
  refine ⟨_, hcp, ⟨_, setRow_heap _ _ Y _ 5 (0, 0) hY, ?_, by rw [List.length_append]; omega, ?_⟩, ⟨rfl, rfl, rfl, by simp, fun k hk hne => setRow_other _ _ _ _ (fun e => hne (by rw [e]))⟩⟩
  · rw [List.size_toArray, List.length_append, List.length_append, List.length_take, List.length_drop, hbl, hYl]
    omega
  · rw [List.toList_toArray]
    rcases hoff with rfl | rfl
    · simp only [Lib.byteCells, List.map_nil, List.append_nil, List.length_nil, Nat.add_zero, List.take_append_drop]
      exact htk
    · rw [htk, byteCells_list, List.length_append]
      have : bytesV (l ++ t) = bytesV l ++ bytesV t := by simp [bytesV]
      rw [← this, List.take_append_of_le_length (by simp [bytesV]), List.take_of_length_le (by simp [bytesV])]

set_option maxHeartbeats 2000000 in
set_option maxRecDepth 100000 in
theorem implJoined (a : Option Addr) (len cap : Nat) (ts : List (List UInt8)) (w : World) (hin : TextsIn w a len ts) (hl : ts.flatten.length ≤ 1048576) (hlen : len ≤ 4194304) :
    Calls Tryz.prog 23 #[.slice a len cap] w fun e w' => e = .returned (.string ⟨ts.flatten.toArray⟩) ∧ Below w.heap.size w w' := by
  have hlb := hin.1
  have HI : Hid (TextsIn w a len ts) := hin
  have HL : Hid (ts.flatten.length ≤ 1048576) := hl
  clear hin hl
  obtain ⟨i0, hi, hz0, hz1, hz2⟩ := info_parts info5
  have hmk : ∀ (N : Nat) (W : World), N ≤ 1048576 → ∃ M, M.size = N ∧ (Instr.makeSlice 22 (.int .i64 (N : Int)) (.int .i64 (N : Int))).run Tryz.prog W = .ok (.slice (some ⟨W.heap.size, 0, none⟩) N N) (W.alloc (.cells M 5)) := fun N W hN => by
    have h := run_make (P := Tryz.prog) W 22 5 i0 (.int .u8 0) Tryz.underlying22 hi hz0 .i64 .i64 (N : Int) (N : Int) (by omega) (by omega) (by rw [hz2]; omega) (by omega)
    refine ⟨madeCells (Value.int .u8 0).cells (((N : Int)).toNat * i0.size), by rw [size_madeCells, hz1]; simp, ?_⟩
    simpa using h
  have HMK := hmk ts.flatten.length w HL.out
  obtain ⟨M, hMs, hmake⟩ := HMK
  have HN : Hid (flatN ts len = ts.flatten.length) := by exact (by unfold flatN; rw [List.take_of_length_le (by omega)] : flatN ts len = ts.flatten.length)
  rw [← HN.out] at hMs hmake
  obtain ⟨N, hNN⟩ : ∃ N, flatN ts len = N := ⟨_, rfl⟩
  rw [hNN] at hMs hmake
  have HNN : Hid (flatN ts len = N) := hNN
  have HMS : Hid (M.size = N) := hMs
  clear hmk hMs hNN
  go_enter Tryz.func23, Tryz.ntmps23
  go_wp2
  go_loop [3, 12] (fun n i => ∃ k : Nat, k ≤ len ∧ i = .int .i64 k ∧ n = .int .i64 (flatN ts k : Nat)) (fun _ i => len - (intOf i).toNat)
  case atStart => exact ⟨0, Nat.zero_le _, rfl, rfl⟩
  case round =>
    obtain ⟨k, hk, rfl, rfl⟩ := hrel
    by_cases hkl : (k : Int) < (len : Int)
    · obtain ⟨b, off, rfl, hbl, hcells⟩ := HI.out.at (by omega)
      have ck := hcells k (by omega)
      have hst := (flatN_step ts k (by omega)).1
      have hft := flatN_le ts (k + 1)
      have hll := HL.out
      obtain ⟨t, ht⟩ : ∃ t, ts.getD k [] = t := ⟨_, rfl⟩
      rw [ht] at ck hst
      have hlen2 : (flatN ts k : Int) + (t.length : Int) ≤ 1048576 := by omega
      have HF : Hid (flatN ts (k + 1) = flatN ts k + t.length) := hst
      clear hcells hst hft ht hll hmake
      go_wp2
      go_round
      case rel => exact ⟨k + 1, by omega, by go_num, by rw [HF.out]; go_num⟩
      case measure => simp [intOf]; omega
    · obtain rfl : k = len := by omega
      have hR0 : RowAt (w.alloc (.cells M 5)) w.heap.size N (flatF ts 0) := ⟨M, heap_alloc_new w _, HMS.out, by simp [flatF], by simp [flatF, bytesV]⟩
      have HR0 : Hid (RowAt (w.alloc (.cells M 5)) w.heap.size N (flatF ts 0)) := hR0
      clear hR0
      rw [HNN.out]
      go_wp2
      go_loopw [7, 25] (fun at_ i wr => ∃ q : Nat, q ≤ k ∧ i = .int .i64 q ∧ at_ = .int .i64 (flatN ts q : Nat) ∧ Hid (RowAt wr w.heap.size N (flatF ts q)) ∧ w.heap.size < wr.heap.size ∧ Below w.heap.size w wr) (fun _ i _ => k - (intOf i).toNat)
      case atStart => exact ⟨0, Nat.zero_le _, rfl, rfl, HR0, by simp, (Below.refl _ _).alloc (Nat.le_refl _) _⟩
      case round =>
        obtain ⟨q, hq, rfl, rfl, HR, hlt, hb⟩ := hrel
        clear hmake HR0
        by_cases hql : (q : Int) < (k : Int)
        · obtain ⟨b, off, rfl, hbl, hcells⟩ := (HI.out.below hb).at (by omega)
          have ck := hcells q (by omega)
          have hst := flatN_step ts q (by omega)
          have hft := flatN_le ts (q + 1)
          have hll := HL.out
          have hn := HN.out
          have hn2 := HNN.out
          obtain ⟨t, ht⟩ : ∃ t, ts.getD q [] = t := ⟨_, rfl⟩
          rw [ht] at ck hst
          have hlen2 : (flatN ts q : Int) + (t.length : Int) ≤ (N : Int) := by omega
          have hlen3 : (N : Int) ≤ 1048576 := by omega
          have hlen4 : (flatN ts q : Int) ≤ (N : Int) := by omega
          have HF : Hid (flatN ts (q + 1) = flatN ts q + t.length) := hst.1
          have HF2 : Hid (flatF ts (q + 1) = flatF ts q ++ t) := hst.2
          have hfl : (flatF ts q).length = flatN ts q := rfl
          have HFL : Hid ((flatF ts q).length = flatN ts q) := hfl
          clear hcells hst hft ht hll hn hn2 hfl
          by_cases hA : flatN ts q = N
          · have ht0 : t = [] := List.eq_nil_of_length_eq_zero (by omega)
            subst ht0
            obtain ⟨w3, hcp, hR3, hg3⟩ := HR.out.copy (t := []) (by simp; rw [HFL.out]; omega) 3 0 (by simp) (Or.inl rfl)
            rw [HFL.out, hA, Nat.sub_self] at hcp
            rw [← HF2.out] at hR3
            have HR3 : Hid (RowAt w3 w.heap.size N (flatF ts (q + 1))) := hR3
            have HA : Hid (flatN ts q = N) := hA
            have hb3 : Below w.heap.size w w3 := hb.grown hg3 hb.size (fun j e => by injection e with e; omega)
            have hlt3 : w.heap.size < w3.heap.size := by have := hg3.size; omega
            rw [hA]
            clear hA hR3 hg3
            go_wp2
            go_roundw
            case rel => exact ⟨q + 1, by omega, by go_num, by rw [HF.out, HA.out]; rfl, HR3, hlt3, hb3⟩
            case measure => simp [intOf]; omega
          · obtain ⟨w3, hcp, hR3, hg3⟩ := HR.out.copy (t := t) (by rw [HFL.out]; omega) 3 (flatN ts q) (by omega) (Or.inr HFL.out.symm)
            rw [HFL.out] at hcp
            rw [← HF2.out] at hR3
            have HR3 : Hid (RowAt w3 w.heap.size N (flatF ts (q + 1))) := hR3
            have hA2 : ¬ N = flatN ts q := fun e => hA e.symm
            have hb3 : Below w.heap.size w w3 := hb.grown hg3 hb.size (fun j e => by injection e with e; omega)
            have hlt3 : w.heap.size < w3.heap.size := by have := hg3.size; omega
            clear hA hR3 hg3
            go_wp2
            go_roundw
            case rel => exact ⟨q + 1, by omega, by go_num, by rw [HF.out]; go_num, HR3, hlt3, hb3⟩
            case measure => simp [intOf]; omega
        · obtain rfl : q = k := by omega
          obtain ⟨Y, hY, hYs, hlN, htk⟩ := HR.out
          have hfl : (flatF ts q).length = N := (rfl : (flatF ts q).length = flatN ts q).trans HNN.out
          rw [hfl] at htk
          have hcells : ∀ j (hj : j < (flatF ts q).length), wr.cell? ⟨w.heap.size, 0 + j, none⟩ = some (.int .u8 ((flatF ts q)[j].toNat : Int)) := fun j hj => by
            have h1 : Y.toList = bytesV (flatF ts q) := by rw [← htk, List.take_of_length_le (by rw [Array.length_toList]; omega)]
            rw [Nat.zero_add]
            simp only [World.cell?, hY]
            simp only [Option.isSome_none, Bool.false_eq_true, if_false]
            rw [← Array.getElem?_toList, h1]
            simp [bytesV, hj]
          have hbk := bytes_back N (by omega) hcells N
          rw [List.take_of_length_le (by omega)] at hbk
          have HT : Hid (flatF ts q = ts.flatten) := by exact (by unfold flatF; rw [List.take_of_length_le (by omega)] : flatF ts q = ts.flatten)
          rw [HT.out] at hbk
          clear hcells hfl htk hlN hYs hY
          go_wp2
          go_ret
          exact ⟨rfl, hb⟩

end Go.Proofs.YtibppdepgoiojaaGreatDoor

/-! The contract of the landed code's lineOf; a line put behind others. -/
namespace Go.Proofs.YtibppdepgoiojaaGreatDoor
open Go.RowKit

set_option maxHeartbeats 1000000 in
set_option maxRecDepth 100000 in
theorem implLineOf (v : Value) (ts : List (List UInt8)) (base : Nat) (w : World) (h : w.ownsRow base 9 1 v ts.length (strV ts)) (hn : ts.length ≤ 1048576) (hl : (joinBy 32 ts).length ≤ 1048576) :
    Calls Tryz.prog 21 #[v] w fun e w' => e = .returned (.string ⟨(lineT (joinBy 32 ts)).toArray⟩) ∧ Below w.heap.size w w' := by
  have HC : Hid (_) := joinTexts v ts base w h hn hl
  obtain ⟨x, hx⟩ : ∃ x, joinBy 32 ts = x := ⟨_, rfl⟩
  rw [hx] at HC ⊢
  rw [hx] at hl
  have hadd : ∀ X : World, (Op.stringOp .add ⟨x.toArray⟩ ⟨#[10]⟩).run Tryz.prog X = .ok (.string ⟨(lineT x).toArray⟩) X := fun X => run_string_add_lists (P := Tryz.prog) X x [10] (by omega) (by simp)
  clear h hx
  go_enter Tryz.func21, Tryz.ntmps21
  go_wp2_with fail
  refine Calls.mono HC.out ?_
  rintro e w1 ⟨rfl, hb1⟩
  go_wp2
  go_ret
  exact ⟨rfl, hb1⟩

theorem add_plainL (b o j : Nat) : (⟨b, o, none⟩ : Addr).add j = ⟨b, o + j, none⟩ := by rw [Addr.add_mid]
theorem new_strL (w : World) (x : List UInt8) (c : Nat) : Src (w.alloc (.cells #[.string ⟨x.toArray⟩] 9)) (.slice (some ⟨w.heap.size, 0, none⟩) 1 c) 1 1 (strV [x]) := by
  refine ⟨rfl, fun u hu => ?_, Or.inr ⟨_, c, rfl, fun j u hu => ?_⟩⟩
  · simp [strV] at hu; subst hu; rfl
  rw [add_plainL, Nat.zero_add]
  match j, hu with
  | 0, hu => simp [strV] at hu; subst hu; simp
  | j + 1, hu => simp [strV] at hu
/-- A line is put behind the others. -/
theorem push_line {W X : World} {v : Value} {n : Nat} {ls : List (List UInt8)} (x : List UInt8) (hv : X.ownsRow W.heap.size 9 1 v n (strV ls)) (hb : Below W.heap.size W X) (hn : n ≤ 1048576) :
    ∃ v' Y, (Builtin.append_ #[24, 24] 24 #[v, .slice (some ⟨X.heap.size, 0, none⟩) 1 1]).run Tryz.prog (X.alloc (.cells #[.string ⟨x.toArray⟩] 9)) = .ok v' Y ∧ Y.ownsRow W.heap.size 9 1 v' (n + 1) (strV (ls ++ [x])) ∧ Below W.heap.size W Y ∧ (∀ k, k < X.heap.size → v.ownBlock ≠ some k → Y.heap[k]? = X.heap[k]?) := by
  obtain ⟨i0, hi, hz0, hz1, hz2⟩ := info_parts info9
  have hb1 : Below W.heap.size W (X.alloc (.cells #[.string ⟨x.toArray⟩] 9)) := hb.alloc hb.size _
  obtain ⟨v', Y, hrun, hown, hg, _⟩ := run_append_src (P := Tryz.prog) (X.alloc (.cells #[.string ⟨x.toArray⟩] 9)) W.heap.size 24 24 9 i0 _ 1 16 Tryz.underlying24 hi hz0 hz1 hz2 rfl (by decide) _ _ _ (hv.alloc _) _ 1 (strV [x]) (new_strL X x 1) (by unfold maxLen; omega) (by omega) hb1.size
  refine ⟨v', Y, hrun, ?_, hb1.grown hg hb1.size (fun q e => (hv.lt q e).1), fun k hk hne => ?_⟩
  · rw [← strV_snoc]; exact hown
  · exact (hg.block k (by simp; omega) (fun e => hne e.symm)).trans (Below.heap_alloc _ _ _ hk)

end Go.Proofs.YtibppdepgoiojaaGreatDoor

/-! The contract of the landed code's headLines: the first line of a package or an object, and one for each import. -/
namespace Go.Proofs.YtibppdepgoiojaaGreatDoor
open Go.RowKit

def hdLs (kw nm : List UInt8) (ims : List (List UInt8)) : List (List UInt8) := lineT (kw ++ [32] ++ nm) :: ims.map (fun x => lineT (impLn x))
theorem hdLs_take (kw nm : List UInt8) (ims : List (List UInt8)) (k : Nat) (hk : k < ims.length) : hdLs kw nm (ims.take (k + 1)) = hdLs kw nm (ims.take k) ++ [lineT (impLn (ims.getD k []))] := by
  have e : ims.getD k [] = ims[k] := by rw [List.getD_eq_getElem?_getD, List.getElem?_eq_getElem hk]; rfl
  unfold hdLs
  rw [List.take_succ_eq_append_getElem hk, List.map_append, e]
  simp only [List.map_nil, List.map_cons, List.cons_append]
theorem hdLs_len (kw nm : List UInt8) (ims : List (List UInt8)) : (hdLs kw nm ims).length = ims.length + 1 := by unfold hdLs; simp
theorem join_twoH (a b : List UInt8) : joinBy 32 [a, b] = a ++ [32] ++ b := by simp [joinBy]
theorem getD_memH {α : Type} (ls : List α) (j : Nat) (d : α) (hj : j < ls.length) : ls.getD j d ∈ ls := by
  rw [List.getD_eq_getElem?_getD, List.getElem?_eq_getElem hj]; exact List.getElem_mem hj

set_option maxHeartbeats 4000000 in
set_option maxRecDepth 100000 in
theorem implHeadLines (kw nm : List UInt8) (ia : Option Addr) (ic : Nat) (ims : List (List UInt8)) (w : World) (hi : TextsIn w ia ims.length ims) (hkw : kw.length ≤ 20) (hnm : nm.length ≤ 20) (hims : ∀ x ∈ ims, nameB x = true) (hil : ims.length ≤ 1000) :
    Calls Tryz.prog 19 #[.string ⟨kw.toArray⟩, .string ⟨nm.toArray⟩, .slice ia ims.length ic] w fun e w' => ∃ v, e = .returned v ∧ w'.ownsRow w.heap.size 9 1 v (ims.length + 1) (strV (hdLs kw nm ims)) ∧ Below w.heap.size w w' := by
  have HI : Hid (∀ Z, Below w.heap.size w Z → TextsIn Z ia ims.length ims) := fun Z hz => hi.below hz
  have HNI : Hid (∀ x ∈ ims, nameB x = true) := hims
  have HTk : Hid (∀ k, k < ims.length → hdLs kw nm (ims.take (k + 1)) = hdLs kw nm (ims.take k) ++ [lineT (impLn (ims.getD k []))]) := fun k hk => hdLs_take kw nm ims k hk
  have ho1 := World.ownsRow_lit (base := w.heap.size) (e := 9) (size := 1) w #[.string ⟨kw.toArray⟩, .string ⟨nm.toArray⟩] 2 (Nat.le_refl _) (by decide) rfl
  have HLN : Hid (_) := implLineOf _ [kw, nm] w.heap.size _ ho1 (by simp) (by rw [join_twoH]; simp; omega)
  rw [join_twoH] at HLN
  obtain ⟨q0, hq0⟩ : ∃ q, lineT (kw ++ [32] ++ nm) = q := ⟨_, rfl⟩
  rw [hq0] at HLN
  have HQ0 : Hid (lineT (kw ++ [32] ++ nm) = q0) := hq0
  have hbA : Below w.heap.size w (w.alloc (.cells #[.string ⟨kw.toArray⟩, .string ⟨nm.toArray⟩] 9)) := (Below.refl _ _).alloc (Nat.le_refl _) _
  clear ho1 hq0 hi hims hkw hnm
  go_enter Tryz.func19, Tryz.ntmps19
  go_wp2_with fail
  refine Calls.mono HLN.out ?_
  rintro e w2 ⟨rfl, hb2⟩
  have hb2W := hbA.trans (hb2.mono hbA.size)
  have hb2s : w.heap.size ≤ w2.heap.size := hb2W.size
  have ho2 := World.ownsRow_lit (base := w.heap.size) (e := 9) (size := 1) w2 #[.string ⟨q0.toArray⟩] 1 hb2s (by decide) rfl
  have hbB : Below w.heap.size w (w2.alloc (.cells #[.string ⟨q0.toArray⟩] 9)) := hb2W.alloc hb2s _
  have HO2 : Hid ((w2.alloc (.cells #[.string ⟨q0.toArray⟩] 9)).ownsRow w.heap.size 9 1 (.slice (some ⟨w2.heap.size, 0, none⟩) 1 1) (0 + 1) (strV (hdLs kw nm (ims.take 0)))) := by exact (by rw [show hdLs kw nm (ims.take 0) = [q0] by unfold hdLs; rw [HQ0.out]; simp]; exact ho2 : (w2.alloc (.cells #[.string ⟨q0.toArray⟩] 9)).ownsRow w.heap.size 9 1 (.slice (some ⟨w2.heap.size, 0, none⟩) 1 1) (0 + 1) (strV (hdLs kw nm (ims.take 0))))
  have HBB : Hid (Below w.heap.size w (w2.alloc (.cells #[.string ⟨q0.toArray⟩] 9))) := hbB
  clear HLN hbA hb2 hb2W hb2s ho2 hbB
  go_wp2
  go_loopw [7, 17] (fun v i wr => ∃ k : Nat, k ≤ ims.length ∧ i = .int .i64 k ∧ Hid (wr.ownsRow w.heap.size 9 1 v (k + 1) (strV (hdLs kw nm (ims.take k)))) ∧ Hid (Below w.heap.size w wr)) (fun _ i _ => ims.length - (intOf i).toNat)
  case atStart => exact ⟨0, Nat.zero_le _, rfl, HO2, HBB⟩
  case round =>
    obtain ⟨k, hk, rfl, HV, HBW⟩ := hrel
    clear HO2 HBB
    by_cases hkl : (k : Int) < (ims.length : Int)
    · have hk2 : k < ims.length := by omega
      obtain ⟨b, off, rfl, hbl, c0⟩ := (HI.out _ HBW.out).2 k hk2
      have hst := HTk.out k hk2
      have hxn : nameB (ims.getD k []) = true := HNI.out _ (getD_memH ims k [] hk2)
      obtain ⟨x, hx⟩ : ∃ x, ims.getD k [] = x := ⟨_, rfl⟩
      rw [hx] at c0 hst hxn
      have hxl := (name_letters hxn).1.2
      have ho1 := World.ownsRow_lit (base := wr.heap.size) (e := 9) (size := 1) wr #[.string ⟨kwImport.toArray⟩, .string ⟨x.toArray⟩] 2 (Nat.le_refl _) (by decide) rfl
      have HLN : Hid (_) := implLineOf _ [kwImport, x] wr.heap.size _ ho1 (by simp) (by rw [join_twoH]; simp [kwImport]; omega)
      rw [join_twoH, show kwImport ++ [32] ++ x = impLn x from rfl] at HLN
      obtain ⟨q, hq⟩ : ∃ q, lineT (impLn x) = q := ⟨_, rfl⟩
      rw [hq] at HLN hst
      have HST : Hid (hdLs kw nm (ims.take (k + 1)) = hdLs kw nm (ims.take k) ++ [q]) := hst
      have hbA : Below wr.heap.size wr (wr.alloc (.cells #[.string ⟨kwImport.toArray⟩, .string ⟨x.toArray⟩] 9)) := (Below.refl _ _).alloc (Nat.le_refl _) _
      clear ho1 hst hx hxn hq
      unfold kwImport at HLN hbA
      go_wp2_with fail
      refine Calls.mono HLN.out ?_
      rintro e w3 ⟨rfl, hb3⟩
      have hb3r := hbA.trans (hb3.mono hbA.size)
      have hV3 := own_below HV.out hb3r
      have hB3 := HBW.out.trans (hb3r.mono HBW.out.size)
      obtain ⟨v', Y, hrun, hv', hbY, _⟩ := push_line q hV3 hB3 (by omega)
      have HV4 : Hid (Y.ownsRow w.heap.size 9 1 v' (k + 1 + 1) (strV (hdLs kw nm (ims.take (k + 1))))) := by
        exact (by rw [HST.out]; exact hv' : Y.ownsRow w.heap.size 9 1 v' (k + 1 + 1) (strV (hdLs kw nm (ims.take (k + 1)))))
      have HB4 : Hid (Below w.heap.size w Y) := hbY
      clear HLN hbA hb3 hb3r hV3 hB3 hv' hbY c0 HV HBW
      go_wp2_with (at_builtin; refine wpList_append_run rfl (.tmp 21) (.tmp 25) 24 rfl _ _ _ rfl rfl hrun ?_; clear hrun)
      go_roundw
      case rel => exact ⟨k + 1, by omega, by go_num, HV4, HB4⟩
      case measure => simp [intOf]; omega
    · obtain rfl : k = ims.length := by omega
      have hV := HV.out
      rw [List.take_of_length_le (Nat.le_refl _)] at hV
      have HVv : Hid (_) := hV
      clear hV HV
      go_wp2
      go_ret
      exact ⟨_, rfl, HVv.out, HBW.out⟩

end Go.Proofs.YtibppdepgoiojaaGreatDoor

/-! The contracts of chapter 7's landed code: lineOf, ShowPackage. -/
namespace Go.Proofs.YtibppdepgoiojaaGreatDoor
open Go.RowKit

/-- The lines of a package so far, each with its end. -/
def shLs (nm : List UInt8) (ims : List (List UInt8)) (fs : List Fn) : List (List UInt8) := lineT (packLn nm) :: (ims.map (fun x => lineT (impLn x)) ++ fs.map (fun f => lineT (funcLn f)))
theorem shLs_flat (nm : List UInt8) (ims : List (List UInt8)) (fs : List Fn) : (shLs nm ims fs).flatten = showP (nm, ims, fs) := by
  unfold shLs showP pkLines termJ lineT
  simp only [List.map_cons, List.map_append, List.map_map]
  rfl
theorem shLs_len (nm : List UInt8) (ims : List (List UInt8)) (fs : List Fn) : (shLs nm ims fs).length = ims.length + fs.length + 1 := by unfold shLs; simp
theorem shLs_imp (nm : List UInt8) (ims : List (List UInt8)) (k : Nat) (hk : k < ims.length) : shLs nm (ims.take (k + 1)) [] = shLs nm (ims.take k) [] ++ [lineT (impLn (ims.getD k []))] := by
  have e : ims.getD k [] = ims[k] := by rw [List.getD_eq_getElem?_getD, List.getElem?_eq_getElem hk]; rfl
  unfold shLs
  rw [List.take_succ_eq_append_getElem hk, List.map_append, e]
  simp only [List.map_nil, List.append_nil, List.map_cons, List.cons_append]
theorem shLs_fn (nm : List UInt8) (ims : List (List UInt8)) (fs : List Fn) (k : Nat) (hk : k < fs.length) : shLs nm ims (fs.take (k + 1)) = shLs nm ims (fs.take k) ++ [lineT (funcLn (fs.getD k fn0))] := by
  have e : fs.getD k fn0 = fs[k] := by rw [List.getD_eq_getElem?_getD, List.getElem?_eq_getElem hk]; rfl
  unfold shLs
  rw [List.take_succ_eq_append_getElem hk, List.map_append, e, ← List.append_assoc]
  simp only [List.map_nil, List.map_cons, List.cons_append]
theorem getD_mem7 {α : Type} (ls : List α) (j : Nat) (d : α) (hj : j < ls.length) : ls.getD j d ∈ ls := by
  rw [List.getD_eq_getElem?_getD, List.getElem?_eq_getElem hj]; exact List.getElem_mem hj
theorem join_two (a b : List UInt8) : joinBy 32 [a, b] = a ++ [32] ++ b := by simp [joinBy]
theorem join_func (f : Fn) (ht : treeB f.2.2 = true) : joinBy 32 [kwFunc, f.1, intL f.2.1, showT f.2.2] = funcLn f := by
  have hs : showT f.2.2 = showL f.2.2 := by unfold showT; rw [if_pos ht]
  rw [hs]
  simp [joinBy, funcLn]

/-- What a round of ShowPackage's second loop holds. -/
structure SqSt (W X : World) (E : Nat) (s : List UInt8) (ta : Option Addr) (tl tc : Nat) (t : List Nd) (v : Value) (n : Nat) (ls : List (List UInt8)) : Prop where
  c0 : X.cell? ⟨E, 0, none⟩ = some (.string ⟨s.toArray⟩)
  c2 : X.cell? ⟨E, 2, none⟩ = some (.slice ta tl tc)
  el : E < X.heap.size
  ne : v.ownBlock ≠ some E
  t : NodesIn X ta tl t
  v : X.ownsRow W.heap.size 9 1 v n (strV ls)
  h : Below W.heap.size W X
theorem SqSt.below {W X Y : World} {E : Nat} {s : List UInt8} {ta : Option Addr} {tl tc : Nat} {t : List Nd} {v : Value} {n : Nat} {ls : List (List UInt8)} (g : SqSt W X E s ta tl tc t v n ls) (hb : Below X.heap.size X Y) : SqSt W Y E s ta tl tc t v n ls :=
  ⟨(hb.cell (p := ⟨E, 0, none⟩) g.el).trans g.c0, (hb.cell (p := ⟨E, 2, none⟩) g.el).trans g.c2, Nat.lt_of_lt_of_le g.el hb.size, g.ne, g.t.below hb, own_below g.v hb, g.h.trans (hb.mono g.h.size)⟩
theorem SqSt.alloc {W X : World} {E : Nat} {s : List UInt8} {ta : Option Addr} {tl tc : Nat} {t : List Nd} {v : Value} {n : Nat} {ls : List (List UInt8)} (g : SqSt W X E s ta tl tc t v n ls) (o : Obj) : SqSt W (X.alloc o) E s ta tl tc t v n ls :=
  g.below ((Below.refl _ _).alloc (Nat.le_refl _) _)
theorem SqSt.drew {W X : World} {E : Nat} {s : List UInt8} {ta : Option Addr} {tl tc : Nat} {t : List Nd} {v : Value} {n : Nat} {ls : List (List UInt8)} (g : SqSt W X E s ta tl tc t v n ls) : SqSt W X.drew E s ta tl tc t v n ls :=
  g.below ((Below.refl _ _).grown (grown_drew X none) (Nat.le_refl _) (fun k e => by cases e))

set_option maxHeartbeats 4000000 in
set_option maxRecDepth 100000 in
theorem implShowPackage (nm : List UInt8) (ia : Option Addr) (il ic : Nat) (fa : Option Addr) (fl fc : Nat) (ims : List (List UInt8)) (fs : List Fn) (w : World) (h : PkOk w nm ia il ic fa fl fc ims fs) (ht : PowIs w) :
    Calls Tryz.prog 6 #[.agg #[.string ⟨nm.toArray⟩, .slice ia il ic, .slice fa fl fc]] w fun e w' => e = .returned (.string ⟨(showPk (nm, ims, fs)).toArray⟩) ∧ Below w.heap.size w w' := by
  obtain rfl : ims.length = il := h.i.1
  obtain rfl : fs.length = fl := h.f.1
  obtain ⟨W, hW⟩ : ∃ W, w.alloc (.cells #[.string ⟨nm.toArray⟩, .slice ia ims.length ic, .slice fa fs.length fc] 27) = W := ⟨_, rfl⟩
  obtain ⟨st0, hB⟩ := PkIn.new (w := w) (nm := nm) (ic := ic) (fc := fc) h.i h.f
  rw [hW] at st0 hB
  have hsW : W.heap.size = w.heap.size + 1 := by rw [← hW]; simp
  have HC : Hid (_) := implPackageOk nm ia ims.length ic fa fs.length fc ims fs W (h.below hB)
  have HPW0 : Hid (PowIs W) := ht.below hB
  have HPW : Hid (∀ {X : World}, Below W.heap.size W X → PowIs X) := fun {X} hb => HPW0.out.below hb
  obtain ⟨D, hD⟩ : ∃ D, w.heap.size = D := ⟨_, rfl⟩
  rw [hD] at st0
  have k0 := st0.k0
  have k1 := st0.k1
  have k2 := st0.k2
  rcases hp : pkgB (nm, ims, fs) with _ | _
  · have HS : Hid (showPk (nm, ims, fs) = []) := pack_not hp
    rw [hp] at HC
    clear h ht hp
    go_enter Tryz.func6, Tryz.ntmps6
    go_wp2_with fail
    refine Calls.mono HC.out ?_
    rintro e w1 ⟨rfl, hb1⟩
    have hB1 := hB.trans (hb1.mono hB.size)
    go_wp2
    go_ret
    exact ⟨by rw [HS.out]; rfl, hB1⟩
  · have HS : Hid (showPk (nm, ims, fs) = showP (nm, ims, fs)) := if_pos hp
    have HPL : Hid ((showP (nm, ims, fs)).length ≤ 20000) := showP_len hp
    obtain ⟨hnm, hnis, hi6, hf8, hfb⟩ := pkgB_parts hp
    simp only at hnm hnis hi6 hf8 hfb
    have hnl := (name_letters hnm).1.2
    have HNI : Hid (∀ x ∈ ims, nameB x = true) := hnis
    have HFB : Hid (∀ f ∈ fs, funcB f = true) := hfb
    have HIF : Hid (IntF fs) := h.int
    have HSF : Hid (ShortF fs) := h.fs
    have ST0 : Hid (PkIn W D nm ia ims.length ic fa fs.length fc ims fs) := st0
    rw [hp] at HC
    clear h ht hp hnm hnis hfb st0
    go_enter Tryz.func6, Tryz.ntmps6
    go_wp2_with fail
    refine Calls.mono HC.out ?_
    rintro e w1 ⟨rfl, hb1⟩
    have st1 := ST0.out.below hb1
    replace k0 := st1.k0
    replace k1 := st1.k1
    replace k2 := st1.k2
    have HHd : Hid (_) := implHeadLines kwPackage nm ia ic ims w1 st1.i (by simp [kwPackage]) (by omega) HNI.out (by omega)
    have HEq : Hid (hdLs kwPackage nm ims = shLs nm ims (fs.take 0)) := by
      exact (by unfold hdLs shLs; simp [packLn] : hdLs kwPackage nm ims = shLs nm ims (fs.take 0))
    have HB1 : Hid (Below W.heap.size W w1) := hb1
    clear HC st1 hb1
    unfold kwPackage at HHd
    go_wp2_with fail
    refine Calls.mono HHd.out ?_
    rintro e w2 ⟨v0, rfl, hv0, hb2⟩
    have HV0 : Hid (w2.ownsRow W.heap.size 9 1 v0 (ims.length + 0 + 1) (strV (shLs nm ims (fs.take 0)))) := by
      exact (by rw [← HEq.out]; exact own_base hv0 HB1.out.size : w2.ownsRow W.heap.size 9 1 v0 (ims.length + 0 + 1) (strV (shLs nm ims (fs.take 0))))
    have HBW : Hid (Below W.heap.size W w2) := HB1.out.trans (hb2.mono HB1.out.size)
    have stk := ST0.out.below HBW.out
    replace k2 := stk.k2
    clear hv0 hb2 stk k0 k1 HHd HB1
    go_wp2
    go_loopw [3, 18] (fun v i wr => ∃ k : Nat, k ≤ fs.length ∧ i = .int .i64 k ∧ Hid (wr.ownsRow W.heap.size 9 1 v (ims.length + k + 1) (strV (shLs nm ims (fs.take k)))) ∧ Hid (Below W.heap.size W wr)) (fun _ i _ => fs.length - (intOf i).toNat)
    case atStart => exact ⟨0, Nat.zero_le _, rfl, HV0, HBW⟩
    case round =>
      obtain ⟨k, hk, rfl, HV, HBW2⟩ := hrel
      clear HV0 k2 HBW
      by_cases hkl2 : (k : Int) < (fs.length : Int)
      · have hk2 : k < fs.length := by omega
        have stk := ST0.out.below HBW2.out
        obtain ⟨b, off, rfl, hbl, c0, c1, ta, tl, tc, c2, _, hin⟩ := stk.f.2 k hk2
        have hfn := HFB.out _ (getD_mem7 fs k fn0 hk2)
        have hsf := HSF.out k
        have hit := (HIF.out k).2
        have hst := shLs_fn nm ims fs k hk2
        obtain ⟨f, hf⟩ : ∃ f, fs.getD k fn0 = f := ⟨_, rfl⟩
        rw [hf] at c0 c1 hin hfn hsf hit hst
        obtain ⟨s, n, t⟩ := f
        have hjf := join_func (s, n, t)
        simp only at c0 c1 hin hsf hit hjf
        unfold funcB at hfn
        simp only [Bool.and_eq_true] at hfn
        obtain ⟨hs8, hn3, htb⟩ := hfn
        replace hs8 := (name_letters hs8).1.2
        replace hn3 : 0 ≤ n ∧ n ≤ 3 := by unfold inB at hn3; exact of_decide_eq_true hn3
        replace hjf := hjf htb
        have htl : tl ≤ 1048576 := by rw [← hin.1]; exact hsf.2.1
        have HIT : Hid (IntT t) := hit
        have HST : Hid (ShortT t) := hsf.2.2
        have hfl := funcLn_len (f := (s, n, t)) (by unfold funcB; rw [htb, inB_yes n 0 3 hn3.1 hn3.2]; simp only [Bool.and_true]; exact (by have := HFB.out _ (getD_mem7 fs k fn0 hk2); rw [hf] at this; unfold funcB at this; simp only [Bool.and_eq_true] at this; exact this.1))
        obtain ⟨sh, hsh⟩ : ∃ sh, showT t = sh := ⟨_, rfl⟩
        obtain ⟨d, hd⟩ : ∃ d, intL n = d := ⟨_, rfl⟩
        have HSH : Hid (showT t = sh) := hsh
        have HD : Hid (intL n = d) := hd
        rw [hsh, hd] at hjf
        have hlen4 : (joinBy 32 [kwFunc, s, d, sh]).length ≤ 1048576 := by rw [hjf]; omega
        have HLN : Hid (_) := fun V : World => implLineOf _ [kwFunc, s, d, sh] V.heap.size _ (World.ownsRow_lit (base := V.heap.size) (e := 9) (size := 1) V #[.string ⟨kwFunc.toArray⟩, .string ⟨s.toArray⟩, .string ⟨d.toArray⟩, .string ⟨sh.toArray⟩] 4 (Nat.le_refl _) (by decide) rfl) (by simp) hlen4
        rw [hjf] at HLN
        obtain ⟨q, hq⟩ : ∃ q, lineT (funcLn (s, n, t)) = q := ⟨_, rfl⟩
        rw [hq] at HLN hst
        have HSL : Hid (shLs nm ims (fs.take (k + 1)) = shLs nm ims (fs.take k) ++ [q]) := hst
        unfold kwFunc at HLN
        obtain ⟨bx, hbx⟩ := Box3.new wr (.string ⟨s.toArray⟩) (.int .i64 n) (.slice ta tl tc) 37
        obtain ⟨X, hX⟩ : ∃ X, wr.alloc (.cells #[.string ⟨s.toArray⟩, .int .i64 n, .slice ta tl tc] 37) = X := ⟨_, rfl⟩
        obtain ⟨E, hE⟩ : ∃ E, wr.heap.size = E := ⟨_, rfl⟩
        have hbX : Below wr.heap.size wr X := by rw [← hX]; exact (Below.refl _ _).alloc (Nat.le_refl _) _
        rw [hX, hE] at bx
        have hVX := own_below HV.out hbX
        have st : SqSt W X E s ta tl tc t u3 (ims.length + k + 1) (shLs nm ims (fs.take k)) := ⟨bx.c0, bx.c2, bx.lt, (fun e => by have := (HV.out.lt E e).2; omega), hin.below hbX, hVX, HBW2.out.trans (hbX.mono HBW2.out.size)⟩
        have d0 := bx.c0
        have d1 := bx.c1
        have d2 := bx.c2
        clear hst hq hjf hlen4 hd hsh hf hin hsf hit htb hfl hbx hbX hVX bx stk HV HBW2 hs8
        go_wp2_with fail
        refine (fmtInt n _ (HPW.out st.h) (by omega) (by omega)).mono ?_
        rintro e w3 ⟨rfl, hb3⟩
        rw [HD.out]
        replace st := st.below hb3
        clear hb3 d0 d1 d2
        go_upto_region 8 with fail
        replace st := st.drew
        have c0 := st.c0
        have c2 := st.c2
        go_region_held3 (fun w' => w'.cell? ⟨E, 0, none⟩ = some (.string ⟨s.toArray⟩) ∧ w'.cell? ⟨E, 2, none⟩ = some (.slice ta tl tc)) (go_keep) (first | (refine step_append_run (by rfl) (.tmp 25) (.tmp 34) 24 (by rfl) _ _ _ (by rfl) (by rfl) hrun ?_) | (go_at_call 21; refine (HLN.out _).mono ?_; rintro e wm ⟨rfl, hbn⟩; replace st := (st.alloc _).below hbn; clear hbn; replace c0 := st.c0; replace c2 := st.c2; obtain ⟨v', Y, hrun, hv', hbY, hkY⟩ := push_line q st.v st.h (by omega); have y0 : Y.cell? ⟨E, 0, none⟩ = some (.string ⟨s.toArray⟩) := (World.cell?_of_block (a := ⟨E, 0, none⟩) (hkY E st.el st.ne)).trans st.c0; have y2 : Y.cell? ⟨E, 2, none⟩ = some (.slice ta tl tc) := (World.cell?_of_block (a := ⟨E, 2, none⟩) (hkY E st.el st.ne)).trans st.c2) | (go_at_call 22; refine (implShowTree ta tl tc t _ st.t HIT.out HST.out htl (HPW.out st.h)).mono ?_; rintro e wn ⟨rfl, hbn⟩; rw [HSH.out]; replace st := st.below hbn; clear hbn; replace c0 := st.c0; replace c2 := st.c2))
        all_goals
          have HV4 : Hid (Y.ownsRow W.heap.size 9 1 v' (ims.length + (k + 1) + 1) (strV (shLs nm ims (fs.take (k + 1))))) := by
            exact (by rw [HSL.out]; exact hv' : Y.ownsRow W.heap.size 9 1 v' (ims.length + (k + 1) + 1) (strV (shLs nm ims (fs.take (k + 1)))))
          have HB4 : Hid (Below W.heap.size W Y) := hbY
          clear hv' hbY hkY y0 y2 hrun st c0 c2
          go_wp2
          go_roundw
          case rel => exact ⟨k + 1, by omega, by go_num, HV4, HB4⟩
          case measure => simp [intOf]; omega
      · obtain rfl : k = fs.length := by omega
        have hV := HV.out
        rw [List.take_of_length_le (Nat.le_refl _)] at hV
        obtain ⟨_, av, cv, hve, hin⟩ := own_texts hV
        have hfl := shLs_flat nm ims fs
        have HJ : Hid (_) := implJoined av (ims.length + fs.length + 1) cv (shLs nm ims fs) wr hin (by rw [hfl]; have := HPL.out; omega) (by omega)
        rw [hfl] at HJ
        have HB2 := HBW2.out
        subst hve
        clear hV HV hin hfl
        go_wp2_with fail
        refine Calls.mono HJ.out ?_
        rintro e w4 ⟨rfl, hb4⟩
        have hB4 : Below w.heap.size w w4 := hB.trans ((HB2.trans (hb4.mono HB2.size)).mono hB.size)
        go_wp2
        go_ret
        exact ⟨by rw [HS.out]; rfl, hB4⟩

end Go.Proofs.YtibppdepgoiojaaGreatDoor
