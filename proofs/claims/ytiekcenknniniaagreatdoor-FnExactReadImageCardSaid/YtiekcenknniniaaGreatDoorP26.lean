/-
  Parts of one proof, one behind the other: ChunkI, LineI, HeadI, ImgC.
-/
import Derived.Test.YtiekcenknniniaaGreatDoorP25
import Derived.Test.YtiekcenknniniaaGreatDoorP3
import Derived.Test.YtiekcenknniniaaGreatDoorP2
import Derived.Laws.MakeOwn
import Derived.Lib.BufferWrite
import Derived.Lib.Strings
import Derived.Deep.RegionHeld3
import Derived.Test.YtiekcenknniniaaGreatDoorP24

/-! The contracts of the landed Chunks and Joined. -/
namespace Go.Proofs.YtiekcenknniniaaGreatDoor
open Go.RowKit

/-- The bytes of r lie in block B, where A says; where there are none, A may be whatever. -/
def BytesAt (w : World) (B : Nat) (A : Option Addr) (r : List UInt8) : Prop :=
  r = [] ∨ ∃ off, A = some ⟨B, off, none⟩ ∧ ∀ j (hj : j < r.length), w.cell? ⟨B, off + j, none⟩ = some (.int .u8 (r[j].toNat : Int))

theorem BytesAt.below {w w' : World} {B : Nat} {A : Option Addr} {r : List UInt8} (h : BytesAt w B A r) (hb : w'.heap[B]? = w.heap[B]?) : BytesAt w' B A r := by
  rcases h with h | ⟨off, hA, hc⟩
  · exact Or.inl h
  · exact Or.inr ⟨off, hA, fun j hj => (World.cell?_of_block (a := ⟨B, off + j, none⟩) hb).trans (hc j hj)⟩

theorem BytesAt.drop {w : World} {B off cp : Nat} {r : List UInt8} (m : Nat) (hm : m ≤ r.length) (hcp : r.length ≤ cp) (hc : ∀ j (hj : j < r.length), w.cell? ⟨B, off + j, none⟩ = some (.int .u8 (r[j].toNat : Int))) : BytesAt w B (if cp = m then some ⟨B, off, none⟩ else some ⟨B, off + m, none⟩) (r.drop m) := by
  by_cases h : r.length = m
  · exact Or.inl (List.drop_eq_nil_of_le (by omega))
  · refine Or.inr ⟨off + m, by rw [if_neg (by omega)], fun j hj => ?_⟩
    rw [List.length_drop] at hj
    have := hc (m + j) (by omega)
    rw [← Nat.add_assoc] at this
    rw [this, List.getElem_drop]

theorem bytes_back {w : World} {B off : Nat} {r : List UInt8} (m : Nat) (hm : m ≤ r.length) (hc : ∀ j (hj : j < r.length), w.cell? ⟨B, off + j, none⟩ = some (.int .u8 (r[j].toNat : Int))) (c : Nat) :
    (convert 111 9 (.slice (some ⟨B, off, none⟩) m c)).run Tryz.prog w = .ok (.string ⟨(r.take m).toArray⟩) w := by
  have hl : (r.take m).length = m := by rw [List.length_take]; omega
  have h := run_convert_bytes_back (P := Tryz.prog) w 111 9 5 ⟨B, off, none⟩ c (r.take m) Tryz.underlying111 Tryz.underlying5 Tryz.underlying9 (by
    intro j hj
    have e0 : (⟨B, off, none⟩ : Addr).add j = ⟨B, off + j, none⟩ := by unfold Addr.add; split <;> simp_all
    rw [e0, hc j (by omega)]
    simp)
  rw [hl] at h
  exact h


def flatN (ts : List (List UInt8)) (k : Nat) : Nat := (ts.take k).flatten.length
def flatF (ts : List (List UInt8)) (k : Nat) : List UInt8 := (ts.take k).flatten

theorem flatN_step (ts : List (List UInt8)) (k : Nat) (hk : k < ts.length) : flatN ts (k + 1) = flatN ts k + (ts.getD k []).length ∧ flatF ts (k + 1) = flatF ts k ++ ts.getD k [] := by
  unfold flatN flatF
  rw [flat_snoc ts k hk, List.length_append]
  exact ⟨rfl, rfl⟩

theorem flatN_le (ts : List (List UInt8)) (k : Nat) : flatN ts k ≤ ts.flatten.length := flat_take ts k

/-- Block g is a row of N bytes of the call's own, of which the first hold l. -/
def RowAt (w : World) (g N : Nat) (l : List UInt8) : Prop := ∃ Y : Array Value, w.heap[g]? = some (.cells Y 5 (0, 0)) ∧ Y.size = N ∧ l.length ≤ N ∧ Y.toList.take l.length = bytesV l

theorem byteCells_list (l : List UInt8) : Lib.byteCells l = bytesV l := by simp [Lib.byteCells, bytesV]

/-- A text is copied behind what is there. -/
theorem RowAt.copy {w : World} {g N : Nat} {l t : List UInt8} (h : RowAt w g N l) (hfit : l.length + t.length ≤ N) (ty : TypeId) (off : Nat) (hfo : off + t.length ≤ N) (hoff : t = [] ∨ off = l.length) :
    ∃ w', (Builtin.copy_ #[111, 9] ty #[.slice (some ⟨g, off, none⟩) (N - l.length) (N - l.length), .string ⟨t.toArray⟩]).run Tryz.prog w = .ok (.int .i64 (t.length : Int)) w' ∧ RowAt w' g N (l ++ t) ∧ w.grownBy w' (some g) := by
  obtain ⟨Y, hY, hYs, hlN, htk⟩ := h
  obtain ⟨i0, hi, hz0, hz1, hz2⟩ := info_parts info5
  have hinfo : (Tryz.prog.info? 5).map (·.size) = some 1 := by rw [hi]; simp [hz1]
  have hts : (⟨t.toArray⟩ : ByteArray).size = t.length := List.size_toArray
  have hcp := Lib.run_copy_row_string (P := Tryz.prog) w 111 9 ty 5 g off (N - l.length) (N - l.length) ⟨t.toArray⟩ Y 5 Tryz.underlying111 hinfo hY (by rw [hts]; omega) (by rw [hts]; omega)
  rw [hts] at hcp
  have hYl : Y.toList.length = N := by rw [Array.length_toList]; exact hYs
  have hbl : (Lib.byteCells t).length = t.length := Lib.byteCells_length t
  refine ⟨_, hcp, ⟨_, setRow_heap _ _ Y _ 5 (0, 0) hY, ?_, by rw [List.length_append]; omega, ?_⟩, ⟨rfl, rfl, rfl, by simp, fun k hk hne => setRow_other _ _ _ _ (fun e => hne (by rw [e]))⟩⟩
  · rw [List.size_toArray, List.length_append, List.length_append, List.length_take, List.length_drop, hbl, hYl]
    omega
  · rw [List.toList_toArray]
    rcases hoff with rfl | rfl
    · simp only [Lib.byteCells, List.map_nil, List.append_nil, List.length_nil, Nat.add_zero, List.take_append_drop]
      exact htk
    · rw [htk, byteCells_list, List.length_append]
      have : bytesV (l ++ t) = bytesV l ++ bytesV t := by simp [bytesV]
      rw [← this, List.take_append_of_le_length (by simp [bytesV]), List.take_of_length_le (by simp [bytesV])]

set_option maxHeartbeats 2000000 in
set_option maxRecDepth 100000 in
theorem implJoined (a : Option Addr) (len cap : Nat) (ts : List (List UInt8)) (w : World) (hin : TextsIn w a len ts) (hl : ts.flatten.length ≤ 1048576) (hlen : len ≤ 4194304) :
    Calls Tryz.prog 39 #[.slice a len cap] w fun e w' => e = .returned (.string ⟨ts.flatten.toArray⟩) ∧ Below w.heap.size w w' := by
  have hlb := hin.1
  have HI : Hid (TextsIn w a len ts) := hin
  have HL : Hid (ts.flatten.length ≤ 1048576) := hl
  clear hin hl
  obtain ⟨i0, hi, hz0, hz1, hz2⟩ := info_parts info5
  have hmk : ∀ (N : Nat) (W : World), N ≤ 1048576 → ∃ M, M.size = N ∧ (Instr.makeSlice 111 (.int .i64 (N : Int)) (.int .i64 (N : Int))).run Tryz.prog W = .ok (.slice (some ⟨W.heap.size, 0, none⟩) N N) (W.alloc (.cells M 5)) := fun N W hN => by
    have h := run_make (P := Tryz.prog) W 111 5 i0 (.int .u8 0) Tryz.underlying111 hi hz0 .i64 .i64 (N : Int) (N : Int) (by omega) (by omega) (by rw [hz2]; omega) (by omega)
    refine ⟨madeCells (Value.int .u8 0).cells (((N : Int)).toNat * i0.size), by rw [size_madeCells, hz1]; simp, ?_⟩
    simpa using h
  have HMK := hmk ts.flatten.length w HL.out
  obtain ⟨M, hMs, hmake⟩ := HMK
  have HN : Hid (flatN ts len = ts.flatten.length) := by exact (by unfold flatN; rw [List.take_of_length_le (by omega)] : flatN ts len = ts.flatten.length)
  rw [← HN.out] at hMs hmake
  obtain ⟨N, hNN⟩ : ∃ N, flatN ts len = N := ⟨_, rfl⟩
  rw [hNN] at hMs hmake
  have HNN : Hid (flatN ts len = N) := hNN
  have HMS : Hid (M.size = N) := hMs
  clear hmk hMs hNN
  go_enter Tryz.func39, Tryz.ntmps39
  go_wp2
  go_loop [3, 12] (fun n i => ∃ k : Nat, k ≤ len ∧ i = .int .i64 k ∧ n = .int .i64 (flatN ts k : Nat)) (fun _ i => len - (intOf i).toNat)
  case atStart => exact ⟨0, Nat.zero_le _, rfl, rfl⟩
  case round =>
    obtain ⟨k, hk, rfl, rfl⟩ := hrel
    by_cases hkl : (k : Int) < (len : Int)
    · obtain ⟨b, off, rfl, hbl, hcells⟩ := HI.out.at (by omega)
      have ck := hcells k (by omega)
      have hst := (flatN_step ts k (by omega)).1
      have hft := flatN_le ts (k + 1)
      have hll := HL.out
      obtain ⟨t, ht⟩ : ∃ t, ts.getD k [] = t := ⟨_, rfl⟩
      rw [ht] at ck hst
      have hlen2 : (flatN ts k : Int) + (t.length : Int) ≤ 1048576 := by omega
      have HF : Hid (flatN ts (k + 1) = flatN ts k + t.length) := hst
      clear hcells hst hft ht hll hmake
      go_wp2
      go_round
      case rel => exact ⟨k + 1, by omega, by go_num, by rw [HF.out]; go_num⟩
      case measure => simp [intOf]; omega
    · obtain rfl : k = len := by omega
      have hR0 : RowAt (w.alloc (.cells M 5)) w.heap.size N (flatF ts 0) := ⟨M, heap_alloc_new w _, HMS.out, by simp [flatF], by simp [flatF, bytesV]⟩
      have HR0 : Hid (RowAt (w.alloc (.cells M 5)) w.heap.size N (flatF ts 0)) := hR0
      clear hR0
      rw [HNN.out]
      go_wp2
      go_loopw [7, 25] (fun at_ i wr => ∃ q : Nat, q ≤ k ∧ i = .int .i64 q ∧ at_ = .int .i64 (flatN ts q : Nat) ∧ Hid (RowAt wr w.heap.size N (flatF ts q)) ∧ w.heap.size < wr.heap.size ∧ Below w.heap.size w wr) (fun _ i _ => k - (intOf i).toNat)
      case atStart => exact ⟨0, Nat.zero_le _, rfl, rfl, HR0, by simp, (Below.refl _ _).alloc (Nat.le_refl _) _⟩
      case round =>
        obtain ⟨q, hq, rfl, rfl, HR, hlt, hb⟩ := hrel
        clear hmake HR0
        by_cases hql : (q : Int) < (k : Int)
        · obtain ⟨b, off, rfl, hbl, hcells⟩ := (HI.out.below hb).at (by omega)
          have ck := hcells q (by omega)
          have hst := flatN_step ts q (by omega)
          have hft := flatN_le ts (q + 1)
          have hll := HL.out
          have hn := HN.out
          have hn2 := HNN.out
          obtain ⟨t, ht⟩ : ∃ t, ts.getD q [] = t := ⟨_, rfl⟩
          rw [ht] at ck hst
          have hlen2 : (flatN ts q : Int) + (t.length : Int) ≤ (N : Int) := by omega
          have hlen3 : (N : Int) ≤ 1048576 := by omega
          have hlen4 : (flatN ts q : Int) ≤ (N : Int) := by omega
          have HF : Hid (flatN ts (q + 1) = flatN ts q + t.length) := hst.1
          have HF2 : Hid (flatF ts (q + 1) = flatF ts q ++ t) := hst.2
          have hfl : (flatF ts q).length = flatN ts q := rfl
          have HFL : Hid ((flatF ts q).length = flatN ts q) := hfl
          clear hcells hst hft ht hll hn hn2 hfl
          by_cases hA : flatN ts q = N
          · have ht0 : t = [] := List.eq_nil_of_length_eq_zero (by omega)
            subst ht0
            obtain ⟨w3, hcp, hR3, hg3⟩ := HR.out.copy (t := []) (by simp; rw [HFL.out]; omega) 3 0 (by simp) (Or.inl rfl)
            rw [HFL.out, hA, Nat.sub_self] at hcp
            rw [← HF2.out] at hR3
            have HR3 : Hid (RowAt w3 w.heap.size N (flatF ts (q + 1))) := hR3
            have HA : Hid (flatN ts q = N) := hA
            have hb3 : Below w.heap.size w w3 := hb.grown hg3 hb.size (fun j e => by injection e with e; omega)
            have hlt3 : w.heap.size < w3.heap.size := by have := hg3.size; omega
            rw [hA]
            clear hA hR3 hg3
            go_wp2
            go_roundw
            case rel => exact ⟨q + 1, by omega, by go_num, by rw [HF.out, HA.out]; rfl, HR3, hlt3, hb3⟩
            case measure => simp [intOf]; omega
          · obtain ⟨w3, hcp, hR3, hg3⟩ := HR.out.copy (t := t) (by rw [HFL.out]; omega) 3 (flatN ts q) (by omega) (Or.inr HFL.out.symm)
            rw [HFL.out] at hcp
            rw [← HF2.out] at hR3
            have HR3 : Hid (RowAt w3 w.heap.size N (flatF ts (q + 1))) := hR3
            have hA2 : ¬ N = flatN ts q := fun e => hA e.symm
            have hb3 : Below w.heap.size w w3 := hb.grown hg3 hb.size (fun j e => by injection e with e; omega)
            have hlt3 : w.heap.size < w3.heap.size := by have := hg3.size; omega
            clear hA hR3 hg3
            go_wp2
            go_roundw
            case rel => exact ⟨q + 1, by omega, by go_num, by rw [HF.out]; go_num, HR3, hlt3, hb3⟩
            case measure => simp [intOf]; omega
        · obtain rfl : q = k := by omega
          obtain ⟨Y, hY, hYs, hlN, htk⟩ := HR.out
          have hfl : (flatF ts q).length = N := (rfl : (flatF ts q).length = flatN ts q).trans HNN.out
          rw [hfl] at htk
          have hcells : ∀ j (hj : j < (flatF ts q).length), wr.cell? ⟨w.heap.size, 0 + j, none⟩ = some (.int .u8 ((flatF ts q)[j].toNat : Int)) := fun j hj => by
            have h1 : Y.toList = bytesV (flatF ts q) := by rw [← htk, List.take_of_length_le (by rw [Array.length_toList]; omega)]
            rw [Nat.zero_add]
            simp only [World.cell?, hY]
            simp only [Option.isSome_none, Bool.false_eq_true, if_false]
            rw [← Array.getElem?_toList, h1]
            simp [bytesV, hj]
          have hbk := bytes_back N (by omega) hcells N
          rw [List.take_of_length_le (by omega)] at hbk
          have HT : Hid (flatF ts q = ts.flatten) := by exact (by unfold flatF; rw [List.take_of_length_le (by omega)] : flatF ts q = ts.flatten)
          rw [HT.out] at hbk
          clear hcells hfl htk hlN hYs hY
          go_wp2
          go_ret
          exact ⟨rfl, hb⟩

end Go.Proofs.YtiekcenknniniaaGreatDoor

/-! The contract of the landed code's lineOf; a line put behind others. -/
namespace Go.Proofs.YtiekcenknniniaaGreatDoor
open Go.RowKit

set_option maxHeartbeats 1000000 in
set_option maxRecDepth 100000 in
theorem implLineOf (v : Value) (ts : List (List UInt8)) (base : Nat) (w : World) (h : w.ownsRow base 9 1 v ts.length (strV ts)) (hn : ts.length ≤ 1048576) (hl : (joinBy 32 ts).length ≤ 1048576) :
    Calls Tryz.prog 79 #[v] w fun e w' => e = .returned (.string ⟨(lineT (joinBy 32 ts)).toArray⟩) ∧ Below w.heap.size w w' := by
  have HC : Hid (_) := joinTexts v ts base w h hn hl
  obtain ⟨x, hx⟩ : ∃ x, joinBy 32 ts = x := ⟨_, rfl⟩
  rw [hx] at HC ⊢
  rw [hx] at hl
  have hadd : ∀ X : World, (Op.stringOp .add ⟨x.toArray⟩ ⟨#[10]⟩).run Tryz.prog X = .ok (.string ⟨(lineT x).toArray⟩) X := fun X => run_string_add_lists (P := Tryz.prog) X x [10] (by omega) (by simp)
  clear h hx
  go_enter Tryz.func79, Tryz.ntmps79
  go_wp2_with fail
  refine Calls.mono HC.out ?_
  rintro e w1 ⟨rfl, hb1⟩
  go_wp2
  go_ret
  exact ⟨rfl, hb1⟩

theorem add_plainL (b o j : Nat) : (⟨b, o, none⟩ : Addr).add j = ⟨b, o + j, none⟩ := by rw [Addr.add_mid]
theorem new_strL (w : World) (x : List UInt8) (c : Nat) : Src (w.alloc (.cells #[.string ⟨x.toArray⟩] 9)) (.slice (some ⟨w.heap.size, 0, none⟩) 1 c) 1 1 (strV [x]) := by
  refine ⟨rfl, fun u hu => ?_, Or.inr ⟨_, c, rfl, fun j u hu => ?_⟩⟩
  · simp [strV] at hu; subst hu; rfl
  rw [add_plainL, Nat.zero_add]
  match j, hu with
  | 0, hu => simp [strV] at hu; subst hu; simp
  | j + 1, hu => simp [strV] at hu
/-- A line is put behind the others. -/
theorem push_line {W X : World} {v : Value} {n : Nat} {ls : List (List UInt8)} (x : List UInt8) (hv : X.ownsRow W.heap.size 9 1 v n (strV ls)) (hb : Below W.heap.size W X) (hn : n ≤ 1048576) :
    ∃ v' Y, (Builtin.append_ #[22, 22] 22 #[v, .slice (some ⟨X.heap.size, 0, none⟩) 1 1]).run Tryz.prog (X.alloc (.cells #[.string ⟨x.toArray⟩] 9)) = .ok v' Y ∧ Y.ownsRow W.heap.size 9 1 v' (n + 1) (strV (ls ++ [x])) ∧ Below W.heap.size W Y ∧ (∀ k, k < X.heap.size → v.ownBlock ≠ some k → Y.heap[k]? = X.heap[k]?) := by
  obtain ⟨i0, hi, hz0, hz1, hz2⟩ := info_parts info9
  have hb1 : Below W.heap.size W (X.alloc (.cells #[.string ⟨x.toArray⟩] 9)) := hb.alloc hb.size _
  obtain ⟨v', Y, hrun, hown, hg, _⟩ := run_append_src (P := Tryz.prog) (X.alloc (.cells #[.string ⟨x.toArray⟩] 9)) W.heap.size 22 22 9 i0 _ 1 16 Tryz.underlying22 hi hz0 hz1 hz2 rfl (by decide) _ _ _ (hv.alloc _) _ 1 (strV [x]) (new_strL X x 1) (by unfold maxLen; omega) (by omega) hb1.size
  refine ⟨v', Y, hrun, ?_, hb1.grown hg hb1.size (fun q e => (hv.lt q e).1), fun k hk hne => ?_⟩
  · rw [← strV_snoc]; exact hown
  · exact (hg.block k (by simp; omega) (fun e => hne e.symm)).trans (Below.heap_alloc _ _ _ hk)

end Go.Proofs.YtiekcenknniniaaGreatDoor

/-! The contract of the landed code's headLines: the first line of a package or an object, and one for each import. -/
namespace Go.Proofs.YtiekcenknniniaaGreatDoor
open Go.RowKit

def hdLs (kw nm : List UInt8) (ims : List (List UInt8)) : List (List UInt8) := lineT (kw ++ [32] ++ nm) :: ims.map (fun x => lineT (impLn x))
theorem hdLs_take (kw nm : List UInt8) (ims : List (List UInt8)) (k : Nat) (hk : k < ims.length) : hdLs kw nm (ims.take (k + 1)) = hdLs kw nm (ims.take k) ++ [lineT (impLn (ims.getD k []))] := by
  have e : ims.getD k [] = ims[k] := by rw [List.getD_eq_getElem?_getD, List.getElem?_eq_getElem hk]; rfl
  unfold hdLs
  rw [List.take_succ_eq_append_getElem hk, List.map_append, e]
  simp only [List.map_nil, List.map_cons, List.cons_append]
theorem hdLs_len (kw nm : List UInt8) (ims : List (List UInt8)) : (hdLs kw nm ims).length = ims.length + 1 := by unfold hdLs; simp
theorem join_twoH (a b : List UInt8) : joinBy 32 [a, b] = a ++ [32] ++ b := by simp [joinBy]
theorem getD_memH {α : Type} (ls : List α) (j : Nat) (d : α) (hj : j < ls.length) : ls.getD j d ∈ ls := by
  rw [List.getD_eq_getElem?_getD, List.getElem?_eq_getElem hj]; exact List.getElem_mem hj

set_option maxHeartbeats 4000000 in
set_option maxRecDepth 100000 in
theorem implHeadLines (kw nm : List UInt8) (ia : Option Addr) (ic : Nat) (ims : List (List UInt8)) (w : World) (hi : TextsIn w ia ims.length ims) (hkw : kw.length ≤ 20) (hnm : nm.length ≤ 20) (hims : ∀ x ∈ ims, nameB x = true) (hil : ims.length ≤ 1000) :
    Calls Tryz.prog 38 #[.string ⟨kw.toArray⟩, .string ⟨nm.toArray⟩, .slice ia ims.length ic] w fun e w' => ∃ v, e = .returned v ∧ w'.ownsRow w.heap.size 9 1 v (ims.length + 1) (strV (hdLs kw nm ims)) ∧ Below w.heap.size w w' := by
  have HI : Hid (∀ Z, Below w.heap.size w Z → TextsIn Z ia ims.length ims) := fun Z hz => hi.below hz
  have HNI : Hid (∀ x ∈ ims, nameB x = true) := hims
  have HTk : Hid (∀ k, k < ims.length → hdLs kw nm (ims.take (k + 1)) = hdLs kw nm (ims.take k) ++ [lineT (impLn (ims.getD k []))]) := fun k hk => hdLs_take kw nm ims k hk
  have ho1 := World.ownsRow_lit (base := w.heap.size) (e := 9) (size := 1) w #[.string ⟨kw.toArray⟩, .string ⟨nm.toArray⟩] 2 (Nat.le_refl _) (by decide) rfl
  have HLN : Hid (_) := implLineOf _ [kw, nm] w.heap.size _ ho1 (by simp) (by rw [join_twoH]; simp; omega)
  rw [join_twoH] at HLN
  obtain ⟨q0, hq0⟩ : ∃ q, lineT (kw ++ [32] ++ nm) = q := ⟨_, rfl⟩
  rw [hq0] at HLN
  have HQ0 : Hid (lineT (kw ++ [32] ++ nm) = q0) := hq0
  have hbA : Below w.heap.size w (w.alloc (.cells #[.string ⟨kw.toArray⟩, .string ⟨nm.toArray⟩] 9)) := (Below.refl _ _).alloc (Nat.le_refl _) _
  clear ho1 hq0 hi hims hkw hnm
  go_enter Tryz.func38, Tryz.ntmps38
  go_wp2_with fail
  refine Calls.mono HLN.out ?_
  rintro e w2 ⟨rfl, hb2⟩
  have hb2W := hbA.trans (hb2.mono hbA.size)
  have hb2s : w.heap.size ≤ w2.heap.size := hb2W.size
  have ho2 := World.ownsRow_lit (base := w.heap.size) (e := 9) (size := 1) w2 #[.string ⟨q0.toArray⟩] 1 hb2s (by decide) rfl
  have hbB : Below w.heap.size w (w2.alloc (.cells #[.string ⟨q0.toArray⟩] 9)) := hb2W.alloc hb2s _
  have HO2 : Hid ((w2.alloc (.cells #[.string ⟨q0.toArray⟩] 9)).ownsRow w.heap.size 9 1 (.slice (some ⟨w2.heap.size, 0, none⟩) 1 1) (0 + 1) (strV (hdLs kw nm (ims.take 0)))) := by exact (by rw [show hdLs kw nm (ims.take 0) = [q0] by unfold hdLs; rw [HQ0.out]; simp]; exact ho2 : (w2.alloc (.cells #[.string ⟨q0.toArray⟩] 9)).ownsRow w.heap.size 9 1 (.slice (some ⟨w2.heap.size, 0, none⟩) 1 1) (0 + 1) (strV (hdLs kw nm (ims.take 0))))
  have HBB : Hid (Below w.heap.size w (w2.alloc (.cells #[.string ⟨q0.toArray⟩] 9))) := hbB
  clear HLN hbA hb2 hb2W hb2s ho2 hbB
  go_wp2
  go_loopw [7, 17] (fun v i wr => ∃ k : Nat, k ≤ ims.length ∧ i = .int .i64 k ∧ Hid (wr.ownsRow w.heap.size 9 1 v (k + 1) (strV (hdLs kw nm (ims.take k)))) ∧ Hid (Below w.heap.size w wr)) (fun _ i _ => ims.length - (intOf i).toNat)
  case atStart => exact ⟨0, Nat.zero_le _, rfl, HO2, HBB⟩
  case round =>
    obtain ⟨k, hk, rfl, HV, HBW⟩ := hrel
    clear HO2 HBB
    by_cases hkl : (k : Int) < (ims.length : Int)
    · have hk2 : k < ims.length := by omega
      obtain ⟨b, off, rfl, hbl, c0⟩ := (HI.out _ HBW.out).2 k hk2
      have hst := HTk.out k hk2
      have hxn : nameB (ims.getD k []) = true := HNI.out _ (getD_memH ims k [] hk2)
      obtain ⟨x, hx⟩ : ∃ x, ims.getD k [] = x := ⟨_, rfl⟩
      rw [hx] at c0 hst hxn
      have hxl := (name_letters hxn).1.2
      have ho1 := World.ownsRow_lit (base := wr.heap.size) (e := 9) (size := 1) wr #[.string ⟨kwImport.toArray⟩, .string ⟨x.toArray⟩] 2 (Nat.le_refl _) (by decide) rfl
      have HLN : Hid (_) := implLineOf _ [kwImport, x] wr.heap.size _ ho1 (by simp) (by rw [join_twoH]; simp [kwImport]; omega)
      rw [join_twoH, show kwImport ++ [32] ++ x = impLn x from rfl] at HLN
      obtain ⟨q, hq⟩ : ∃ q, lineT (impLn x) = q := ⟨_, rfl⟩
      rw [hq] at HLN hst
      have HST : Hid (hdLs kw nm (ims.take (k + 1)) = hdLs kw nm (ims.take k) ++ [q]) := hst
      have hbA : Below wr.heap.size wr (wr.alloc (.cells #[.string ⟨kwImport.toArray⟩, .string ⟨x.toArray⟩] 9)) := (Below.refl _ _).alloc (Nat.le_refl _) _
      clear ho1 hst hx hxn hq
      unfold kwImport at HLN hbA
      go_wp2_with fail
      refine Calls.mono HLN.out ?_
      rintro e w3 ⟨rfl, hb3⟩
      have hb3r := hbA.trans (hb3.mono hbA.size)
      have hV3 := own_below HV.out hb3r
      have hB3 := HBW.out.trans (hb3r.mono HBW.out.size)
      obtain ⟨v', Y, hrun, hv', hbY, _⟩ := push_line q hV3 hB3 (by omega)
      have HV4 : Hid (Y.ownsRow w.heap.size 9 1 v' (k + 1 + 1) (strV (hdLs kw nm (ims.take (k + 1))))) := by
        exact (by rw [HST.out]; exact hv' : Y.ownsRow w.heap.size 9 1 v' (k + 1 + 1) (strV (hdLs kw nm (ims.take (k + 1)))))
      have HB4 : Hid (Below w.heap.size w Y) := hbY
      clear HLN hbA hb3 hb3r hV3 hB3 hv' hbY c0 HV HBW
      go_wp2_with (at_builtin; refine wpList_append_run rfl (.tmp 21) (.tmp 25) 22 rfl _ _ _ rfl rfl hrun ?_; clear hrun)
      go_roundw
      case rel => exact ⟨k + 1, by omega, by go_num, HV4, HB4⟩
      case measure => simp [intOf]; omega
    · obtain rfl : k = ims.length := by omega
      have hV := HV.out
      rw [List.take_of_length_le (Nat.le_refl _)] at hV
      have HVv : Hid (_) := hV
      clear hV HV
      go_wp2
      go_ret
      exact ⟨_, rfl, HVv.out, HBW.out⟩

end Go.Proofs.YtiekcenknniniaaGreatDoor

/-! Contracts of chapter 14's landed code: calls (callsOk), ImageOk. -/
namespace Go.Proofs.YtiekcenknniniaaGreatDoor
open Go.RowKit

set_option maxHeartbeats 4000000 in
set_option maxRecDepth 100000 in
theorem implCallsOk (a : Option Addr) (cap : Nat) (rs : List Rt) (ca : Option Addr) (cl cc : Nat) (is : List In13) (w : World) (h : RtsCap w a rs.length cap rs) (hr : RiseR rs) (hn : rs.length ≤ 1048576) (hin : InsIn w ca cl is) (hcl : cl ≤ 1048576) :
    Calls Tryz.prog 90 #[.slice a rs.length cap, .slice ca cl cc] w fun e w' => e = .returned (.bool (is.all (clsB rs))) ∧ Below w.heap.size w w' := by
  obtain rfl : is.length = cl := hin.1
  have HI : Hid (InsIn w ca is.length is) := hin
  have HNm : Hid (∀ s X, Below w.heap.size w X → Calls Tryz.prog 120 #[.slice a rs.length cap, .string ⟨s.toArray⟩] X fun e w' => NdOut X a rs s e ∧ Below X.heap.size X w') := fun s X hX => implNamed a cap rs s X (h.below hX) hr hn
  have HAll : Hid ((∀ k, k < is.length → clsB rs (is.getD k in0) = true) → is.all (clsB rs) = true) := cls_allI.2
  have HNo : Hid (∀ k, k < is.length → clsB rs (is.getD k in0) = false → is.all (clsB rs) = false) := fun k hk h => cls_noI hk h
  have HB0 : Hid (Below w.heap.size w w) := Below.refl _ w
  obtain ⟨m, hm⟩ : ∃ m, is.length = m := ⟨_, rfl⟩
  rw [hm] at HI HAll HNo hcl ⊢
  generalize is.all (clsB rs) = res at HAll HNo ⊢
  obtain ⟨n, hnn⟩ : ∃ n, rs.length = n := ⟨_, rfl⟩
  rw [hnn] at HNm ⊢
  clear hin hm h hr hn hnn
  go_enter Tryz.func90, Tryz.ntmps90
  go_wp2
  go_loopw [11] (fun iv wr => ∃ k : Nat, iv = .int .i64 (k : Int) ∧ k ≤ m ∧ Hid (∀ j, j < k → clsB rs (is.getD j in0) = true) ∧ Hid (Below w.heap.size w wr)) (fun iv _ => m - (intOf iv).toNat)
  case atStart => exact ⟨0, rfl, Nat.zero_le _, (fun j hj => absurd hj (Nat.not_lt_zero _)), HB0⟩
  case round =>
    obtain ⟨k, rfl, hk, HA, HB⟩ := hrel
    clear HB0
    by_cases hlt : (k : Int) < (m : Int)
    · obtain ⟨b, off, rfl, hbl, c0, c1, c2, c3, c4⟩ := (HI.out.below HB.out).2 k (by omega)
      have hno := HNo.out k (by omega)
      have hst : clsB rs (is.getD k in0) = true → ∀ j, j < k + 1 → clsB rs (is.getD j in0) = true := fun h j hj => by
        rcases Nat.lt_or_ge j k with g | g
        · exact HA.out j g
        · obtain rfl : j = k := by omega
          exact h
      obtain ⟨i, hi⟩ : ∃ i, is.getD k in0 = i := ⟨_, rfl⟩
      rw [hi] at c0 c1 c2 c3 c4 hno hst
      obtain ⟨ik, iR, iA, iB, inm⟩ := i
      simp only at c0 c1 c2 c3 c4
      obtain ⟨Y, hY⟩ : ∃ Y, wr.alloc (.cells #[.int .i64 ik, .int .i64 iR, .int .i64 iA, .int .i64 iB, .string ⟨inm.toArray⟩] 104) = Y := ⟨_, rfl⟩
      have hb : Below wr.heap.size wr Y := by rw [← hY]; exact (Below.refl _ _).alloc (Nat.le_refl _) _
      have hsY : Y.heap.size = wr.heap.size + 1 := by rw [← hY]; simp
      have hR : Y.heap[wr.heap.size]? = some (.cells #[.int .i64 ik, .int .i64 iR, .int .i64 iA, .int .i64 iB, .string ⟨inm.toArray⟩] 104) := by rw [← hY]; exact heap_alloc_new wr _
      have HBY : Hid (Below w.heap.size w Y) := HB.out.trans (hb.mono HB.out.size)
      have hcls : clsB rs (ik, iR, iA, iB, inm) = (decide (ik ≠ 9) || (decide (0 ≤ at14 rs inm) && decide ((rs.getD (at14 rs inm).toNat rt0).2.1 = iA))) := rfl
      rw [hcls] at hno hst
      have y0 : Y.cell? ⟨wr.heap.size, 0, none⟩ = some (.int .i64 ik) := by rw [cell_of_row _ _ _ _ _ _ hR]; rfl
      have y4 : Y.cell? ⟨wr.heap.size, 4, none⟩ = some (.string ⟨inm.toArray⟩) := by rw [cell_of_row _ _ _ _ _ _ hR]; rfl
      obtain ⟨E, hE⟩ : ∃ E, wr.heap.size = E := ⟨_, rfl⟩
      rw [hE] at hR hsY y0 y4
      by_cases h9 : ik = 9
      · subst h9
        have HC : Hid (_) := HNm.out inm Y HBY.out
        have HQ : Hid ((0 ≤ at14 rs inm → (rs.getD (at14 rs inm).toNat rt0).2.1 = iA → ∀ j, j < k + 1 → clsB rs (is.getD j in0) = true) ∧ (¬ (0 ≤ at14 rs inm ∧ (rs.getD (at14 rs inm).toNat rt0).2.1 = iA) → res = false)) :=
          ⟨fun e1 e2 => hst (by rw [decide_eq_true e1, decide_eq_true e2]; rfl), fun e => hno (by
            rw [Bool.or_eq_false_iff, Bool.and_eq_false_iff]
            refine ⟨by simp, ?_⟩
            by_cases e1 : 0 ≤ at14 rs inm
            · exact Or.inr (decide_eq_false (fun e2 => e ⟨e1, e2⟩))
            · exact Or.inl (decide_eq_false e1))⟩
        clear hno hst hi hcls HA hb
        go_wp2_with fail
        refine Calls.mono HC.out ?_
        rintro e w1 ⟨hO, hb1⟩
        have z2 : w1.cell? ⟨E, 2, none⟩ = some (.int .i64 iA) := by rw [hb1.cell (p := ⟨E, 2, none⟩) (by show E < _; omega), cell_of_row _ _ _ _ _ _ hR]; rfl
        have hE1 : E < w1.heap.size := by have := hb1.size; omega
        have HB1 : Hid (Below w.heap.size w w1) := HBY.out.trans (hb1.mono HBY.out.size)
        rcases hO with ⟨hat, rfl⟩ | ⟨i, b2, off2, ca2, cl2, cc2, hi2, hat, -, -, -, -, -, rfl⟩
        · have HR : Hid (res = false) := HQ.out.2 (fun e => by rw [hat] at e; have := e.1; omega)
          have HB2 : Hid (Below w.heap.size w (w1.alloc (.cells #[.string ⟨#[]⟩, .int .i64 0, .slice none 0 0] 101))) := HB1.out.alloc HB1.out.size _
          clear hat HQ hb1
          go_wp2
          go_ret
          exact ⟨by rw [HR.out]; rfl, HB2.out⟩
        · have hq := HQ.out
          rw [hat, Int.toNat_natCast] at hq
          generalize (rs.getD i rt0).1 = nm at hq ⊢
          generalize (rs.getD i rt0).2.1 = ar at hq ⊢
          have HB2 : Hid (Below w.heap.size w (w1.alloc (.cells #[.string ⟨nm.toArray⟩, .int .i64 ar, .slice ca2 cl2 cc2] 101))) := HB1.out.alloc HB1.out.size _
          by_cases he : ar = iA
          · have HS : Hid (∀ j, j < k + 1 → clsB rs (is.getD j in0) = true) := hq.1 (by omega) he
            have heb : (ar != iA) = false := by rw [he]; simp
            clear hat HQ hb1 hq hi2 he
            go_wp2
            go_roundw
            case rel => exact ⟨k + 1, by go_num, by omega, HS, HB2⟩
            case measure => simp [intOf]; omega
          · have HR : Hid (res = false) := hq.2 (fun e => he e.2)
            have heb : (ar != iA) = true := bne_iff_ne.2 he
            clear hat HQ hb1 hq hi2 he
            go_wp2
            go_ret
            exact ⟨by rw [HR.out]; rfl, HB2.out⟩
      · have HS : Hid (∀ j, j < k + 1 → clsB rs (is.getD j in0) = true) := hst (by simp [h9])
        clear hno hst hi hcls HA hb
        go_wp2
        go_roundw
        case rel => exact ⟨k + 1, by go_num, by omega, HS, HBY⟩
        case measure => simp [intOf]; omega
    · obtain rfl : k = m := by omega
      have HR : Hid (res = true) := HAll.out HA.out
      go_wp2
      go_ret
      exact ⟨by rw [HR.out]; rfl, HB.out⟩

set_option maxHeartbeats 4000000 in
set_option maxRecDepth 100000 in
theorem implImageOk (a : Option Addr) (len cap : Nat) (rs : List Rt) (w : World) (h : RtOk w a len cap rs) :
    Calls Tryz.prog 54 #[.agg #[.slice a len cap]] w fun e w' => e = .returned (.bool (imageB rs)) ∧ Below w.heap.size w w' := by
  obtain rfl : rs.length = len := h.c.1
  obtain ⟨W, hW⟩ : ∃ W, w.alloc (.cells #[.slice a rs.length cap] 43) = W := ⟨_, rfl⟩
  have hb : Below w.heap.size w W := by rw [← hW]; exact (Below.refl _ _).alloc (Nat.le_refl _) _
  have hsW : W.heap.size = w.heap.size + 1 := by rw [← hW]; simp
  have hR : W.heap[w.heap.size]? = some (.cells #[.slice a rs.length cap] 43) := by rw [← hW]; exact heap_alloc_new w _
  have hW2 := h.below hb
  have HC1 : Hid (_) := implRoutinesOk a rs.length cap rs 64 W hW2
  have HI : Hid (RtsCap W a rs.length cap rs) := hW2.c
  have HSh : Hid (ShortR rs) := h.s
  have hlen := h.l
  have HBW : Hid (Below w.heap.size w W) := hb
  have HNoR : Hid (rtsB rs 64 = false → imageB rs = false) := image_noR
  have HYes : Hid (rtsB rs 64 = true → (∀ j, j < rs.length → (rs.getD j rt0).2.2.all (clsB rs) = true) → imageB rs = true) := image_yes
  have HNoC : Hid (∀ j, j < rs.length → (rs.getD j rt0).2.2.all (clsB rs) = false → imageB rs = false) := fun j hj e => image_noC hj e
  have HRise : Hid (rtsB rs 64 = true → RiseR rs) := rtsB_rise
  have HLn : Hid (rs.length ≤ 1048576) := hlen
  obtain ⟨n, hnn⟩ : ∃ n, rs.length = n := ⟨_, rfl⟩
  have HN : Hid (rs.length = n) := hnn
  rw [hnn] at HI HYes HNoC HC1 hlen hR hW ⊢
  obtain ⟨D, hD⟩ : ∃ D, w.heap.size = D := ⟨_, rfl⟩
  rw [hD] at hR hsW HBW ⊢
  have c0 : W.cell? ⟨D, 0, none⟩ = some (.slice a n cap) := by rw [cell_of_row _ _ _ _ _ _ hR]; rfl
  generalize imageB rs = res at HNoR HYes HNoC ⊢
  generalize rtsB rs 64 = b1 at HNoR HYes HRise HC1
  clear h hW2 hb hnn
  go_enter Tryz.func54, Tryz.ntmps54
  go_wp2_with fail
  refine Calls.mono HC1.out ?_
  rintro e w1 ⟨rfl, hb1⟩
  have d0 : w1.cell? ⟨D, 0, none⟩ = some (.slice a n cap) := (hb1.cell (p := ⟨D, 0, none⟩) (by show D < _; omega)).trans c0
  have hD1 : D < w1.heap.size := by have := hb1.size; omega
  rcases b1 with _ | _
  · have HR : Hid (res = false) := HNoR.out rfl
    go_wp2
    go_ret
    exact ⟨by rw [HR.out]; rfl, HBW.out.trans (hb1.mono (by omega))⟩
  · have HRs : Hid (RiseR rs) := HRise.out rfl
    have HY2 : Hid ((∀ j, j < n → (rs.getD j rt0).2.2.all (clsB rs) = true) → res = true) := HYes.out rfl
    have HB1 : Hid (Below W.heap.size W w1) := hb1
    clear HYes HRise HNoR hb1 c0
    go_wp2
    go_loopw [12] (fun iv wr => ∃ k : Nat, iv = .int .i64 (k : Int) ∧ k ≤ n ∧ Hid (∀ j, j < k → (rs.getD j rt0).2.2.all (clsB rs) = true) ∧ Hid (Below W.heap.size W wr)) (fun iv _ => n - (intOf iv).toNat)
    case atStart => exact ⟨0, rfl, Nat.zero_le _, (fun j hj => absurd hj (Nat.not_lt_zero _)), HB1⟩
    case round =>
      obtain ⟨k, rfl, hk, HA, HB⟩ := hrel
      clear HB1 d0 hD1
      have d0 : wr.cell? ⟨D, 0, none⟩ = some (.slice a n cap) := by rw [HB.out.cell (p := ⟨D, 0, none⟩) (by show D < _; omega), cell_of_row _ _ _ _ _ _ hR]; rfl
      have hD1 : D < wr.heap.size := by have := HB.out.size; omega
      by_cases hlt : (k : Int) < (n : Int)
      · have hc := HI.out.below HB.out
        obtain ⟨b, off, rfl, hbl, c0, c1, ca, cl, cc, c2, hin, hcc, hcm⟩ := hc.2.2.2 k (by omega)
        have hno := HNoC.out k (by omega)
        have hsh := HSh.out k
        have hst : (rs.getD k rt0).2.2.all (clsB rs) = true → ∀ j, j < k + 1 → (rs.getD j rt0).2.2.all (clsB rs) = true := fun h j hj => by
          rcases Nat.lt_or_ge j k with g | g
          · exact HA.out j g
          · obtain rfl : j = k := by omega
            exact h
        obtain ⟨r, hrr⟩ : ∃ r, rs.getD k rt0 = r := ⟨_, rfl⟩
        rw [hrr] at c0 c1 hin hno hsh hst
        obtain ⟨nm, ar, cd⟩ := r
        simp only at c0 c1 hin hno hsh hst
        obtain ⟨Y, hY⟩ : ∃ Y, wr.alloc (.cells #[.string ⟨nm.toArray⟩, .int .i64 ar, .slice ca cl cc] 101) = Y := ⟨_, rfl⟩
        have hbY : Below wr.heap.size wr Y := by rw [← hY]; exact (Below.refl _ _).alloc (Nat.le_refl _) _
        have hRY : Y.heap[wr.heap.size]? = some (.cells #[.string ⟨nm.toArray⟩, .int .i64 ar, .slice ca cl cc] 101) := by rw [← hY]; exact heap_alloc_new wr _
        have HBY : Hid (Below W.heap.size W Y) := HB.out.trans (hbY.mono HB.out.size)
        have e0 : Y.cell? ⟨D, 0, none⟩ = some (.slice (some ⟨b, off, none⟩) n cap) := (hbY.cell (p := ⟨D, 0, none⟩) hD1).trans d0
        have y2 : Y.cell? ⟨wr.heap.size, 2, none⟩ = some (.slice ca cl cc) := by rw [cell_of_row _ _ _ _ _ _ hRY]; rfl
        have HC : Hid (_) := implCallsOk (some ⟨b, off, none⟩) cap rs ca cl cc cd Y (by have := hc.below hbY; rw [HN.out]; exact this) HRs.out HLn.out (hin.below hbY) (by rw [← hin.1]; exact hsh.2.1)
        rw [HN.out] at HC
        generalize cd.all (clsB rs) = b2 at hno hst HC
        clear hrr hsh hin hc hbY hRY
        go_wp2_with fail
        refine Calls.mono HC.out ?_
        rintro e w2 ⟨rfl, hb2⟩
        have HB2 : Hid (Below W.heap.size W w2) := HBY.out.trans (hb2.mono HBY.out.size)
        rcases b2 with _ | _
        · have HR : Hid (res = false) := hno rfl
          clear hno hst HA hb2
          go_wp2
          go_ret
          exact ⟨by rw [HR.out]; rfl, HBW.out.trans (HB2.out.mono (by omega))⟩
        · have HS : Hid (∀ j, j < k + 1 → (rs.getD j rt0).2.2.all (clsB rs) = true) := hst rfl
          clear hno hst HA hb2
          go_wp2
          go_roundw
          case rel => exact ⟨k + 1, by go_num, by omega, HS, HB2⟩
          case measure => simp [intOf]; omega
      · obtain rfl : k = n := by omega
        have HR : Hid (res = true) := HY2.out HA.out
        go_wp2
        go_ret
        exact ⟨by rw [HR.out]; rfl, HBW.out.trans (HB.out.mono (by omega))⟩

end Go.Proofs.YtiekcenknniniaaGreatDoor
