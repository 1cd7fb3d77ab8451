/-
  The contracts of chapter 3's specification: Chunks, Joined.
-/
import Derived.Test.YtfjpbbacibfnmaaMath3C
import Derived.Test.YtfjpbbacibfnmaaOwn
import Derived.Test.YtfjpbbacibfnmaaDraw2
import Derived.Lib.AppendStr
namespace Go.Proofs.Ytfjpbbacibfnmaa
open Go.RowKit

/-- The texts ts lie at a, one behind the other. -/
def TextsIn (w : World) (a : Option Addr) (len : Nat) (ts : List (List UInt8)) : Prop :=
  ts.length = len ∧ ∀ j, j < len → ∃ b off, a = some ⟨b, off, none⟩ ∧ b < w.heap.size ∧ w.cell? ⟨b, off + j, none⟩ = some (.string ⟨(ts.getD j []).toArray⟩)

theorem TextsIn.below {w w' : World} {a : Option Addr} {len : Nat} {ts : List (List UInt8)} (h : TextsIn w a len ts) (hb : Below w.heap.size w w') : TextsIn w' a len ts := by
  refine ⟨h.1, fun j hj => ?_⟩
  obtain ⟨b, off, e, hlt, c⟩ := h.2 j hj
  exact ⟨b, off, e, Nat.lt_of_lt_of_le hlt hb.size, (hb.cell (p := ⟨b, off + j, none⟩) hlt).trans c⟩

theorem TextsIn.at {w : World} {a : Option Addr} {len : Nat} {ts : List (List UInt8)} (h : TextsIn w a len ts) (hz : 0 < len) : ∃ b off, a = some ⟨b, off, none⟩ ∧ b < w.heap.size ∧ ∀ j, j < len → w.cell? ⟨b, off + j, none⟩ = some (.string ⟨(ts.getD j []).toArray⟩) := by
  obtain ⟨b, off, rfl, hb, _⟩ := h.2 0 hz
  refine ⟨b, off, rfl, hb, fun j hj => ?_⟩
  obtain ⟨b', off', e, _, c⟩ := h.2 j hj
  injection e with e
  injection e with e1 e2
  subst e1 e2
  exact c

theorem own_texts {w : World} {base n : Nat} {v : Value} {ts : List (List UInt8)} (h : w.ownsRow base 9 1 v n (strV ts)) : ts.length = n ∧ ∃ a cap, v = .slice a n cap ∧ TextsIn w a n ts := by
  have hlen : ts.length = n := by have := h.1; rw [strV_len] at this; omega
  refine ⟨hlen, ?_⟩
  rcases own_forms h with ⟨rfl, rfl, _⟩ | ⟨g, cp, rfl⟩
  · exact ⟨none, 0, rfl, hlen, fun j hj => by omega⟩
  · refine ⟨some ⟨g, 0, none⟩, cp, rfl, hlen, fun j hj => ⟨g, 0, rfl, (h.lt g rfl).2, ?_⟩⟩
    rw [Nat.zero_add]; exact str_cellsD h hlen j hj

set_option maxHeartbeats 400000 in
theorem specL1Min (x y : Int) (w : World) :
    Calls Try.prog 57 #[.int .i64 x, .int .i64 y] w fun e w' => e = .returned (.int .i64 (if x < y then x else y)) ∧ w' = w := by
  by_cases h : x < y
  · go_enter Try.func57, Try.ntmps57
    go_wp2
    go_ret
    exact ⟨rfl, rfl⟩
  · go_enter Try.func57, Try.ntmps57
    go_wp2
    go_ret
    exact ⟨rfl, rfl⟩

set_option maxHeartbeats 2000000 in
theorem specChunks (l : List UInt8) (size : Int) (w : World) (hl : l.length ≤ 1048576) :
    Calls Try.prog 28 #[.string ⟨l.toArray⟩, .int .i64 size] w fun e w' => ∃ v, e = .returned v ∧ w'.ownsRow w.heap.size 9 1 v (chunksL l size).length (strV (chunksL l size)) ∧ v ≠ .slice none 0 0 ∧ Below w.heap.size w w' := by
  obtain ⟨i0, hi, hz0, hz1, hz2⟩ := info_parts info9
  have hext := ext_list
  have hown0 := (World.ownsRow_lit (base := w.heap.size) (e := 9) (size := 1) w #[] 0 (Nat.le_refl _) (by decide) rfl)
  by_cases hs : size < 1
  · have HC : Hid (chunksL l size = []) := by exact (if_pos hs : chunksL l size = [])
    have hsd : decide (1 ≤ size) = false := decide_eq_false (by omega)
    go_enter Try.func28, Try.ntmps28
    go_wp2
    refine wp_loop_rounds 1 ?_
    rw [rounds_succ]
    go_wp2
    go_ret
    exact ⟨_, rfl, by rw [HC.out]; exact hown0, by simp, (Below.refl _ _).alloc (Nat.le_refl _) _⟩
  · obtain ⟨n, rfl⟩ : ∃ n : Nat, size = (n : Int) := Int.eq_ofNat_of_zero_le (by omega)
    have hn : 1 ≤ n := by omega
    have HC : Hid (chunksL l (n : Int) = chunksGo l.length n l) := by exact (by unfold chunksL; rw [if_neg hs, Int.toNat_natCast] : chunksL l (n : Int) = chunksGo l.length n l)
    have hsd : (1 : Int) ≤ (n : Int) := by omega
    clear hs
    go_enter Try.func28, Try.ntmps28
    go_wp2
    go_loopw [0, 5] (fun s v wr => ∃ (o : List (List UInt8)) (r : List UInt8) (g cp : Nat), s = .string ⟨r.toArray⟩ ∧ v = .slice (some ⟨g, 0, none⟩) o.length cp ∧ o.length + r.length ≤ l.length ∧ Hid (o ++ chunksGo r.length n r = chunksGo l.length n l) ∧ wr.ownsRow w.heap.size 9 1 v o.length (strV o) ∧ Below w.heap.size w wr) (fun s _ _ => match s with | .string b => b.size | _ => 0)
    case atStart => exact ⟨[], l, w.heap.size, 0, rfl, rfl, by simp, (by simp : ([] : List (List UInt8)) ++ chunksGo l.length n l = chunksGo l.length n l), hown0, (Below.refl _ _).alloc (Nat.le_refl _) _⟩
    case round =>
      obtain ⟨o, r, g, cp, rfl, rfl, hle, HG, hown, hb⟩ := hrel
      clear hown0
      by_cases hr : r = []
      · subst hr
        have HF : Hid (o = chunksL l (n : Int)) := by
          have := HG.out
          rw [chunksGo_nil, List.append_nil] at this
          exact (by rw [HC.out]; exact this : o = chunksL l (n : Int))
        go_wp2
        go_ret
        exact ⟨_, rfl, by rw [← HF.out]; exact hown, by simp, hb⟩
      · have hrl : 0 < r.length := List.length_pos_iff.2 hr
        have hrb : r.isEmpty = false := by simp [hr]
        obtain ⟨m, hm⟩ : ∃ m : Nat, (if (n : Int) < (r.length : Int) then (n : Int) else (r.length : Int)) = (m : Int) := by split <;> exact ⟨_, rfl⟩
        have hm2 : m = n ∨ (m = r.length ∧ m ≤ n) := by split at hm <;> omega
        have hm3 : 1 ≤ m ∧ m ≤ r.length := by split at hm <;> omega
        have hst := chunk_step n m r hn hr hm2
        have HM : Hid ((if (n : Int) < (r.length : Int) then (n : Int) else (r.length : Int)) = (m : Int)) := hm
        have HS : Hid (o ++ [r.take m] ++ chunksGo (r.drop m).length n (r.drop m) = chunksGo l.length n l) := by
          exact (by rw [← HG.out, hst, List.append_assoc]; rfl : o ++ [r.take m] ++ chunksGo (r.drop m).length n (r.drop m) = chunksGo l.length n l)
        clear hm hm2 hst hr
        have hmi : (m : Int) ≤ (r.length : Int) := by omega
        have htk : List.take (r.length - m) (List.drop m r) = List.drop m r := List.take_of_length_le (by rw [List.length_drop]; omega)
        go_wp2_with fail
        refine (specL1Min _ _ _).mono ?_
        rintro e w1 ⟨rfl, rfl⟩
        rw [HM.out]
        go_wp2_with (at_builtin; refine wpList_append_own _ rfl _ _ 42 rfl w.heap.size 9 i0 (.string ⟨#[]⟩) 1 16 Try.underlying42 hi hz0 hz1 hz2 rfl (by decide) _ _ _ rfl (hown.alloc _) ⟨w1.heap.size, 0, none⟩ 1 1 [.string ⟨(r.take m).toArray⟩] rfl rfl ?c1 ?c2 ?c3 ?c4 ?c5 ?_)
        case c1 => exact cell_one_new _ _ _
        case c2 => first | rfl | (intro u hu; simp at hu; subst hu; rfl)
        case c3 => unfold maxLen; omega
        case c4 => omega
        case c5 => have := hb.size; simp; omega
        intro v' w3 hown3 hgrow3 hnil3
        have hown4 := own_str hown3
        have hv' : v' ≠ .slice none 0 0 := hnil3
        obtain ⟨g', cp', hv⟩ := own_shape hown4 hv'
        have hb3 : Below w.heap.size w w3 := (hb.alloc hb.size _).grown hgrow3 (by have := hb.size; simp; omega) (fun k e => (hown.lt k e).1)
        clear hown3 hgrow3 hnil3 hown hb hv'
        go_wp2
        go_roundw
        case rel => exact ⟨o ++ [r.take m], r.drop m, g', cp', rfl, hv, by rw [List.length_append, List.length_singleton, List.length_drop]; omega, HS, hown4, hb3⟩
        case measure =>
          show (List.drop m r).toArray.size < r.toArray.size
          rw [List.size_toArray, List.size_toArray, List.length_drop]
          omega

theorem strCells_list (l : List UInt8) : Lib.strCells ⟨l.toArray⟩ = bytesV l := by simp [Lib.strCells, bytesV]

theorem flat_snoc (ts : List (List UInt8)) (k : Nat) (hk : k < ts.length) : (ts.take (k + 1)).flatten = (ts.take k).flatten ++ ts.getD k [] := by
  have hg : ts.getD k [] = ts[k] := by simp [List.getD, hk]
  rw [hg, List.take_succ_eq_append_getElem hk, List.flatten_append]; simp

theorem flat_take (ts : List (List UInt8)) (k : Nat) : (ts.take k).flatten.length ≤ ts.flatten.length := by
  have h := congrArg (fun x => x.flatten.length) (List.take_append_drop k ts)
  simp only [List.flatten_append, List.length_append] at h
  omega

set_option maxHeartbeats 2000000 in
theorem specJoined (a : Option Addr) (len cap : Nat) (ts : List (List UInt8)) (w : World) (hin : TextsIn w a len ts) (hl : ts.flatten.length ≤ 1048576) (hlen : len ≤ 4194304) :
    Calls Try.prog 30 #[.slice a len cap] w fun e w' => e = .returned (.string ⟨ts.flatten.toArray⟩) ∧ Below w.heap.size w w' := by
  obtain ⟨i0, hi, hz0, hz1, hz2⟩ := info_parts info5
  have hlb := hin.1
  have HI : Hid (TextsIn w a len ts) := hin
  clear hin
  have hown0 : (w.alloc (.cells #[] 5)).ownsRow w.heap.size 5 1 (.slice (some ⟨w.heap.size, 0, none⟩) 0 0) ([] : List UInt8).length (bytesV []) := (World.ownsRow_lit (base := w.heap.size) (e := 5) (size := 1) w #[] 0 (Nat.le_refl _) (by decide) rfl)
  go_enter Try.func30, Try.ntmps30
  go_wp2
  go_loopw [3, 4] (fun v i wr => ∃ k : Nat, k ≤ len ∧ i = .int .i64 k ∧ wr.ownsRow w.heap.size 5 1 v (ts.take k).flatten.length (bytesV (ts.take k).flatten) ∧ Below w.heap.size w wr) (fun _ i _ => len - (intOf i).toNat)
  case atStart => exact ⟨0, Nat.zero_le _, rfl, by simpa using hown0, (Below.refl _ _).alloc (Nat.le_refl _) _⟩
  case round =>
    obtain ⟨k, hk, rfl, hown, hb⟩ := hrel
    clear hown0
    by_cases hkl : (k : Int) < (len : Int)
    · obtain ⟨b, off, rfl, hbl, hcells⟩ := (HI.out.below hb).at (by omega)
      have ck := hcells k (by omega)
      have hfs := flat_snoc ts k (by omega)
      have hft := flat_take ts (k + 1)
      obtain ⟨t, ht⟩ : ∃ t, ts.getD k [] = t := ⟨_, rfl⟩
      rw [ht] at ck hfs
      have hlen2 : (ts.take k).flatten.length + t.length ≤ 1048576 := by rw [hfs, List.length_append] at hft; omega
      have HF : Hid ((ts.take (k + 1)).flatten = (ts.take k).flatten ++ t) := hfs
      clear hcells hfs hft ht
      have hts : (⟨t.toArray⟩ : ByteArray).size = t.length := List.size_toArray
      have hbs := hb.size
      go_wp2_with (at_builtin; refine Lib.wpList_append_own_string _ rfl _ _ 22 9 rfl w.heap.size 5 i0 Try.underlying22 Try.underlying9 hi hz0 hz1 hz2 _ _ _ rfl hown ⟨t.toArray⟩ rfl (by rw [hts]; unfold maxLen; omega) (by rw [hts]; omega) hbs ?_; intro v' w3 hown3 hgrow3 _)
      rw [strCells_list, hts] at hown3
      have hown4 : w3.ownsRow w.heap.size 5 1 v' (ts.take (k + 1)).flatten.length (bytesV (ts.take (k + 1)).flatten) := by
        rw [HF.out, List.length_append]
        have : bytesV ((ts.take k).flatten ++ t) = bytesV (ts.take k).flatten ++ bytesV t := by simp [bytesV]
        rw [this]; exact hown3
      have hb3 : Below w.heap.size w w3 := hb.grown hgrow3 hb.size (fun q e => (hown.lt q e).1)
      clear hown3 hgrow3 hown hb
      go_wp2
      go_roundw
      case rel => exact ⟨k + 1, by omega, by go_num, hown4, hb3⟩
      case measure => simp [intOf]; omega
    · have hd : ts.take k = ts := List.take_of_length_le (by omega)
      rw [hd] at hown
      clear hd
      have hbk := back_own _ _ _ _ hown
      go_wp2
      go_ret
      exact ⟨rfl, hb⟩

end Go.Proofs.Ytfjpbbacibfnmaa
