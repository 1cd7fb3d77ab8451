/-
  The contracts of the landed Chunks and Joined.
-/
import Derived.Test.YtfjpbbacibfnmaaChunkS
import Derived.Test.YtfjpbbacibfnmaaTurned
import Derived.Laws.MakeOwn
import Derived.Lib.BufferWrite
import Derived.Lib.Strings
namespace Go.Proofs.Ytfjpbbacibfnmaa
open Go.RowKit

/-- The bytes of r lie in block B, where A says; where there are none, A may be whatever. -/
def BytesAt (w : World) (B : Nat) (A : Option Addr) (r : List UInt8) : Prop :=
  r = [] ∨ ∃ off, A = some ⟨B, off, none⟩ ∧ ∀ j (hj : j < r.length), w.cell? ⟨B, off + j, none⟩ = some (.int .u8 (r[j].toNat : Int))

theorem BytesAt.below {w w' : World} {B : Nat} {A : Option Addr} {r : List UInt8} (h : BytesAt w B A r) (hb : w'.heap[B]? = w.heap[B]?) : BytesAt w' B A r := by
  rcases h with h | ⟨off, hA, hc⟩
  · exact Or.inl h
  · exact Or.inr ⟨off, hA, fun j hj => (World.cell?_of_block (a := ⟨B, off + j, none⟩) hb).trans (hc j hj)⟩

theorem BytesAt.drop {w : World} {B off cp : Nat} {r : List UInt8} (m : Nat) (hm : m ≤ r.length) (hcp : r.length ≤ cp) (hc : ∀ j (hj : j < r.length), w.cell? ⟨B, off + j, none⟩ = some (.int .u8 (r[j].toNat : Int))) : BytesAt w B (if cp = m then some ⟨B, off, none⟩ else some ⟨B, off + m, none⟩) (r.drop m) := by
  by_cases h : r.length = m
  · exact Or.inl (List.drop_eq_nil_of_le (by omega))
  · refine Or.inr ⟨off + m, by rw [if_neg (by omega)], fun j hj => ?_⟩
    rw [List.length_drop] at hj
    have := hc (m + j) (by omega)
    rw [← Nat.add_assoc] at this
    rw [this, List.getElem_drop]

theorem bytes_back {w : World} {B off : Nat} {r : List UInt8} (m : Nat) (hm : m ≤ r.length) (hc : ∀ j (hj : j < r.length), w.cell? ⟨B, off + j, none⟩ = some (.int .u8 (r[j].toNat : Int))) (c : Nat) :
    (convert 22 9 (.slice (some ⟨B, off, none⟩) m c)).run Try.prog w = .ok (.string ⟨(r.take m).toArray⟩) w := by
  have hl : (r.take m).length = m := by rw [List.length_take]; omega
  have h := run_convert_bytes_back (P := Try.prog) w 22 9 5 ⟨B, off, none⟩ c (r.take m) Try.underlying22 Try.underlying5 Try.underlying9 (by
    intro j hj
    have e0 : (⟨B, off, none⟩ : Addr).add j = ⟨B, off + j, none⟩ := by unfold Addr.add; split <;> simp_all
    rw [e0, hc j (by omega)]
    simp)
  rw [hl] at h
  exact h

set_option maxHeartbeats 2000000 in
set_option maxRecDepth 100000 in
theorem implChunksCore (l : List UInt8) (n : Nat) (cap : Nat) (C : Array Value) (w : World) (hl : l.length ≤ 1048576) (hn : 1 ≤ n) (hcap : l.length ≤ cap) (hcap2 : cap ≤ 9223372036854775807)
    (hconv : (convert 9 22 (.string ⟨l.toArray⟩)).run Try.prog (w.alloc (.cells #[] 9)) = .ok (.slice (some ⟨w.heap.size + 1, 0, none⟩) l.length cap) ((w.alloc (.cells #[] 9)).drew.alloc (.cells C 5 (C.size, C.size + 1))))
    (hcell : ∀ j (hj : j < l.length), ((w.alloc (.cells #[] 9)).alloc (.cells C 5 (C.size, C.size + 1))).cell? ⟨w.heap.size + 1, j, none⟩ = some (.int .u8 (l[j].toNat : Int))) :
    Calls Try.prog 25 #[.string ⟨l.toArray⟩, .int .i64 (n : Int)] w fun e w' => ∃ v, e = .returned v ∧ w'.ownsRow w.heap.size 9 1 v (chunksL l (n : Int)).length (strV (chunksL l (n : Int))) ∧ Below w.heap.size w w' := by
  obtain ⟨i0, hi, hz0, hz1, hz2⟩ := info_parts info9
  have hown0 := (World.ownsRow_lit (base := w.heap.size) (e := 9) (size := 1) w #[] 0 (Nat.le_refl _) (by decide) rfl)
  have HC : Hid (chunksL l (n : Int) = chunksGo l.length n l) := by exact (by unfold chunksL; rw [if_neg (by omega), Int.toNat_natCast] : chunksL l (n : Int) = chunksGo l.length n l)
  have hsd : ¬ (n : Int) < 1 := by omega
  have hn1 : (1 : Int) ≤ (n : Int) := by omega
  have HCell : Hid (∀ j (hj : j < l.length), ((w.alloc (.cells #[] 9)).alloc (.cells C 5 (C.size, C.size + 1))).cell? ⟨w.heap.size + 1, j, none⟩ = some (.int .u8 (l[j].toNat : Int))) := hcell
  clear hcell
  go_enter Try.func25, Try.ntmps25
  go_wp2
  go_loopw [5, 6] (fun v s wr => ∃ (o : List (List UInt8)) (r : List UInt8) (A : Option Addr) (cp : Nat), s = .slice A r.length cp ∧ r.length ≤ cp ∧ cp ≤ 9223372036854775807 ∧ o.length + r.length ≤ l.length ∧ Hid (o ++ chunksGo r.length n r = chunksGo l.length n l) ∧ Hid (BytesAt wr (w.heap.size + 1) A r) ∧ w.heap.size + 1 < wr.heap.size ∧ Hid (wr.ownsRow w.heap.size 9 1 v o.length (strV o) ∧ v.ownBlock ≠ some (w.heap.size + 1)) ∧ Below w.heap.size w wr) (fun _ s _ => match s with | .slice _ k _ => k | _ => 0)
  case atStart =>
    exact ⟨[], l, some ⟨w.heap.size + 1, 0, none⟩, cap, rfl, hcap, hcap2, by simp, (by simp : ([] : List (List UInt8)) ++ chunksGo l.length n l = chunksGo l.length n l), (Or.inr ⟨0, rfl, fun j hj => by rw [Nat.zero_add, World.cell?_drew]; exact HCell.out j hj⟩ : BytesAt _ _ _ _), by simp, (⟨(hown0.alloc _).drew, by simp [Value.ownBlock]⟩ : _ ∧ _), (((Below.refl _ _).alloc (Nat.le_refl _) _).alloc (by simp) _).drew⟩
  case round =>
    obtain ⟨o, r, A, cp, rfl, hcp, hcp2, hle, HG, HB, hlt, HO, hb⟩ := hrel
    clear hown0 HCell hconv
    by_cases hr : r = []
    · subst hr
      have HF : Hid (o = chunksL l (n : Int)) := by
        have := HG.out
        rw [chunksGo_nil, List.append_nil] at this
        exact (by rw [HC.out]; exact this : o = chunksL l (n : Int))
      go_wp2
      go_ret
      exact ⟨_, rfl, by rw [← HF.out]; exact HO.out.1, hb⟩
    · have hrl : 0 < r.length := List.length_pos_iff.2 hr
      have hrl2 : (0 : Int) < (r.length : Int) := by omega
      obtain ⟨off, rfl, hc⟩ := HB.out.resolve_left hr
      by_cases hnl : (n : Int) ≤ (r.length : Int)
      · have hm2 : n = n ∨ (n = r.length ∧ n ≤ n) := by omega
        have hm3 : 1 ≤ n ∧ n ≤ r.length := by omega
        have hm4 : (1 : Int) ≤ ((n : Nat) : Int) := by omega
        have hm5 : ((n : Nat) : Int) ≤ (r.length : Int) := by omega
        have hm6 : ((n : Nat) : Int) ≤ (cp : Int) := by omega
        have hst := chunk_step n n r hn hr hm2
        have hbk := bytes_back n hm3.2 hc n
        have hbd := BytesAt.drop n hm3.2 hcp hc
        have hdl : (r.drop n).length = r.length - n := List.length_drop
        have HS : Hid (o ++ [(r.take n)] ++ chunksGo (r.drop n).length n (r.drop n) = chunksGo l.length n l) := by
          exact (by rw [← HG.out, hst, List.append_assoc]; rfl : o ++ [(r.take n)] ++ chunksGo (r.drop n).length n (r.drop n) = chunksGo l.length n l)
        have HBD : Hid (BytesAt wr (w.heap.size + 1) (if cp = n then some ⟨w.heap.size + 1, off, none⟩ else some ⟨w.heap.size + 1, off + n, none⟩) (r.drop n)) := hbd
        have HD : Hid ((r.drop n).length = r.length - n) := hdl
        clear hst hm2 hr hc HB hbd hdl
        go_wp2_with (at_builtin; refine wpList_append_own_at _ rfl _ _ 42 rfl w.heap.size 9 i0 (.string ⟨#[]⟩) 1 16 Try.underlying42 hi hz0 hz1 hz2 rfl (by decide) _ _ _ rfl (HO.out.1.alloc _) ⟨wr.heap.size, 0, none⟩ 1 1 [.string ⟨(r.take n).toArray⟩] rfl rfl ?c1 ?c2 ?c3 ?c4 ?c5 ?_)
        first | (case c1 => exact cell_one_new _ _ _) | skip
        first | (case c2 => first | rfl | (intro u hu; simp at hu; subst hu; rfl)) | skip
        case c3 => unfold maxLen; omega
        case c4 => omega
        case c5 => have := hb.size; simp; omega
        intro v' w3 hown3 hgrow3 hnil3 hat3
        have hown4 := own_str hown3
        have hb3 : Below w.heap.size w w3 := (hb.alloc hb.size _).grown hgrow3 (by have := hb.size; simp; omega) (fun k e => (HO.out.1.lt k e).1)
        have hne3 : v'.ownBlock ≠ some (w.heap.size + 1) := by
          rcases hat3 with h | h
          · rw [h]; exact HO.out.2
          · rw [h]; simp; omega
        have hk3 : w3.heap[w.heap.size + 1]? = wr.heap[w.heap.size + 1]? := (hgrow3.block (w.heap.size + 1) (by simp; omega) (fun e => HO.out.2 e.symm)).trans (Below.heap_alloc _ _ _ hlt)
        have HB3 : Hid (BytesAt w3 (w.heap.size + 1) (if cp = n then some ⟨w.heap.size + 1, off, none⟩ else some ⟨w.heap.size + 1, off + n, none⟩) (r.drop n)) := HBD.out.below hk3
        have HO3 : Hid (w3.ownsRow w.heap.size 9 1 v' (o ++ [(r.take n)]).length (strV (o ++ [(r.take n)])) ∧ v'.ownBlock ≠ some (w.heap.size + 1)) := (⟨hown4, hne3⟩ : _ ∧ _)
        have hlt3 : w.heap.size + 1 < w3.heap.size := by have := hgrow3.size; simp at this; omega
        clear hown3 hgrow3 hnil3 hat3 hown4 hb hne3 hk3 HBD HO
        go_wp2
        refine ⟨⟨o ++ [(r.take n)], (r.drop n), _, _, by first | rfl | rw [HD.out], by rw [HD.out]; omega, by omega, by rw [List.length_append, List.length_singleton, HD.out]; omega, HS, HB3, hlt3, HO3, hb3⟩, ?_⟩
        first | (show r.length - n < r.length; omega) | (show 0 < r.length; omega)
      · have hm2 : r.length = n ∨ (r.length = r.length ∧ r.length ≤ n) := by omega
        have hm3 : 1 ≤ r.length ∧ r.length ≤ r.length := by omega
        have hm4 : (1 : Int) ≤ ((r.length : Nat) : Int) := by omega
        have hm5 : ((r.length : Nat) : Int) ≤ (r.length : Int) := by omega
        have hm6 : ((r.length : Nat) : Int) ≤ (cp : Int) := by omega
        have hst := chunk_step n r.length r hn hr hm2
        have hbk := bytes_back r.length hm3.2 hc r.length
        have hbd := BytesAt.drop r.length hm3.2 hcp hc
        have hdl : (r.drop r.length).length = r.length - r.length := List.length_drop
        rw [List.take_length] at hbk hst
        rw [List.drop_length] at hst hbd hdl
        have HS : Hid (o ++ [r] ++ chunksGo ([] : List UInt8).length n ([] : List UInt8) = chunksGo l.length n l) := by
          exact (by rw [← HG.out, hst, List.append_assoc]; rfl : o ++ [r] ++ chunksGo ([] : List UInt8).length n ([] : List UInt8) = chunksGo l.length n l)
        have HBD : Hid (BytesAt wr (w.heap.size + 1) (if cp = r.length then some ⟨w.heap.size + 1, off, none⟩ else some ⟨w.heap.size + 1, off + r.length, none⟩) ([] : List UInt8)) := hbd
        have HD : Hid (([] : List UInt8).length = r.length - r.length) := hdl
        clear hst hm2 hr hc HB hbd hdl
        go_wp2_with (at_builtin; refine wpList_append_own_at _ rfl _ _ 42 rfl w.heap.size 9 i0 (.string ⟨#[]⟩) 1 16 Try.underlying42 hi hz0 hz1 hz2 rfl (by decide) _ _ _ rfl (HO.out.1.alloc _) ⟨wr.heap.size, 0, none⟩ 1 1 [.string ⟨r.toArray⟩] rfl rfl ?c1 ?c2 ?c3 ?c4 ?c5 ?_)
        first | (case c1 => exact cell_one_new _ _ _) | skip
        first | (case c2 => first | rfl | (intro u hu; simp at hu; subst hu; rfl)) | skip
        case c3 => unfold maxLen; omega
        case c4 => omega
        case c5 => have := hb.size; simp; omega
        intro v' w3 hown3 hgrow3 hnil3 hat3
        have hown4 := own_str hown3
        have hb3 : Below w.heap.size w w3 := (hb.alloc hb.size _).grown hgrow3 (by have := hb.size; simp; omega) (fun k e => (HO.out.1.lt k e).1)
        have hne3 : v'.ownBlock ≠ some (w.heap.size + 1) := by
          rcases hat3 with h | h
          · rw [h]; exact HO.out.2
          · rw [h]; simp; omega
        have hk3 : w3.heap[w.heap.size + 1]? = wr.heap[w.heap.size + 1]? := (hgrow3.block (w.heap.size + 1) (by simp; omega) (fun e => HO.out.2 e.symm)).trans (Below.heap_alloc _ _ _ hlt)
        have HB3 : Hid (BytesAt w3 (w.heap.size + 1) (if cp = r.length then some ⟨w.heap.size + 1, off, none⟩ else some ⟨w.heap.size + 1, off + r.length, none⟩) ([] : List UInt8)) := HBD.out.below hk3
        have HO3 : Hid (w3.ownsRow w.heap.size 9 1 v' (o ++ [r]).length (strV (o ++ [r])) ∧ v'.ownBlock ≠ some (w.heap.size + 1)) := (⟨hown4, hne3⟩ : _ ∧ _)
        have hlt3 : w.heap.size + 1 < w3.heap.size := by have := hgrow3.size; simp at this; omega
        clear hown3 hgrow3 hnil3 hat3 hown4 hb hne3 hk3 HBD HO
        go_wp2
        refine ⟨⟨o ++ [r], ([] : List UInt8), _, _, by first | rfl | rw [HD.out], by rw [HD.out]; omega, by omega, by rw [List.length_append, List.length_singleton, HD.out]; omega, HS, HB3, hlt3, HO3, hb3⟩, ?_⟩
        first | (show r.length - r.length < r.length; omega) | (show 0 < r.length; omega)

set_option maxHeartbeats 1000000 in
theorem implChunks (l : List UInt8) (size : Int) (w : World) (hl : l.length ≤ 1048576) :
    Calls Try.prog 25 #[.string ⟨l.toArray⟩, .int .i64 size] w fun e w' => ∃ v, e = .returned v ∧ w'.ownsRow w.heap.size 9 1 v (chunksL l size).length (strV (chunksL l size)) ∧ Below w.heap.size w w' := by
  by_cases hs : size < 1
  · have HC : Hid (chunksL l size = []) := by exact (if_pos hs : chunksL l size = [])
    have hown0 := (World.ownsRow_lit (base := w.heap.size) (e := 9) (size := 1) w #[] 0 (Nat.le_refl _) (by decide) rfl)
    go_enter Try.func25, Try.ntmps25
    go_wp2
    go_ret
    exact ⟨_, rfl, by rw [HC.out]; exact hown0, (Below.refl _ _).alloc (Nat.le_refl _) _⟩
  · obtain ⟨n, rfl⟩ : ∃ n : Nat, size = (n : Int) := Int.eq_ofNat_of_zero_le (by omega)
    have hconv := run_bytes_of_string (P := Try.prog) (w.alloc (.cells #[] 9)) 9 22 5 ⟨l.toArray⟩ Try.underlying9 Try.underlying22 Try.underlying5
    have hsz : (⟨l.toArray⟩ : ByteArray).size = l.length := List.size_toArray
    rw [hsz, World.size_alloc] at hconv
    refine implChunksCore l n _ _ w hl (by omega) (grownCap_ge _ _ _ _) (by have := grownCap_le_maxLen (w.alloc (.cells #[] 9)) l.length 0 5 (by unfold maxLen; omega); unfold maxLen at this; exact this) hconv ?_
    intro j hj
    have := World.cell?_alloc_mark (w.alloc (.cells #[] 9)) (bytesRow ⟨l.toArray⟩ (grownCap (w.alloc (.cells #[] 9)) l.length 0 5)) 5 ((bytesRow ⟨l.toArray⟩ (grownCap (w.alloc (.cells #[] 9)) l.length 0 5)).size, (bytesRow ⟨l.toArray⟩ (grownCap (w.alloc (.cells #[] 9)) l.length 0 5)).size + 1) j
    rw [World.size_alloc] at this
    rw [this, bytesRow_at ⟨l.toArray⟩ _ j (by simpa using hj)]
    simp

def flatN (ts : List (List UInt8)) (k : Nat) : Nat := (ts.take k).flatten.length
def flatF (ts : List (List UInt8)) (k : Nat) : List UInt8 := (ts.take k).flatten

theorem flatN_step (ts : List (List UInt8)) (k : Nat) (hk : k < ts.length) : flatN ts (k + 1) = flatN ts k + (ts.getD k []).length ∧ flatF ts (k + 1) = flatF ts k ++ ts.getD k [] := by
  unfold flatN flatF
  rw [flat_snoc ts k hk, List.length_append]
  exact ⟨rfl, rfl⟩

theorem flatN_le (ts : List (List UInt8)) (k : Nat) : flatN ts k ≤ ts.flatten.length := flat_take ts k

/-- Block g is a row of N bytes of the call's own, of which the first hold l. -/
def RowAt (w : World) (g N : Nat) (l : List UInt8) : Prop := ∃ Y : Array Value, w.heap[g]? = some (.cells Y 5 (0, 0)) ∧ Y.size = N ∧ l.length ≤ N ∧ Y.toList.take l.length = bytesV l

theorem byteCells_list (l : List UInt8) : Lib.byteCells l = bytesV l := by simp [Lib.byteCells, bytesV]

/-- A text is copied behind what is there. -/
theorem RowAt.copy {w : World} {g N : Nat} {l t : List UInt8} (h : RowAt w g N l) (hfit : l.length + t.length ≤ N) (ty : TypeId) (off : Nat) (hfo : off + t.length ≤ N) (hoff : t = [] ∨ off = l.length) :
    ∃ w', (Builtin.copy_ #[22, 9] ty #[.slice (some ⟨g, off, none⟩) (N - l.length) (N - l.length), .string ⟨t.toArray⟩]).run Try.prog w = .ok (.int .i64 (t.length : Int)) w' ∧ RowAt w' g N (l ++ t) ∧ w.grownBy w' (some g) := by
  obtain ⟨Y, hY, hYs, hlN, htk⟩ := h
  obtain ⟨i0, hi, hz0, hz1, hz2⟩ := info_parts info5
  have hinfo : (Try.prog.info? 5).map (·.size) = some 1 := by rw [hi]; simp [hz1]
  have hts : (⟨t.toArray⟩ : ByteArray).size = t.length := List.size_toArray
  have hcp := Lib.run_copy_row_string (P := Try.prog) w 22 9 ty 5 g off (N - l.length) (N - l.length) ⟨t.toArray⟩ Y 5 Try.underlying22 hinfo hY (by rw [hts]; omega) (by rw [hts]; omega)
  rw [hts] at hcp
  have hYl : Y.toList.length = N := by rw [Array.length_toList]; exact hYs
  have hbl : (Lib.byteCells t).length = t.length := Lib.byteCells_length t
  refine ⟨_, hcp, ⟨_, setRow_heap _ _ Y _ 5 (0, 0) hY, ?_, by rw [List.length_append]; omega, ?_⟩, ⟨rfl, rfl, rfl, by simp, fun k hk hne => setRow_other _ _ _ _ (fun e => hne (by rw [e]))⟩⟩
  · rw [List.size_toArray, List.length_append, List.length_append, List.length_take, List.length_drop, hbl, hYl]
    omega
  · rw [List.toList_toArray]
    rcases hoff with rfl | rfl
    · simp only [Lib.byteCells, List.map_nil, List.append_nil, List.length_nil, Nat.add_zero, List.take_append_drop]
      exact htk
    · rw [htk, byteCells_list, List.length_append]
      have : bytesV (l ++ t) = bytesV l ++ bytesV t := by simp [bytesV]
      rw [← this, List.take_append_of_le_length (by simp [bytesV]), List.take_of_length_le (by simp [bytesV])]

set_option maxHeartbeats 2000000 in
set_option maxRecDepth 100000 in
theorem implJoined (a : Option Addr) (len cap : Nat) (ts : List (List UInt8)) (w : World) (hin : TextsIn w a len ts) (hl : ts.flatten.length ≤ 1048576) (hlen : len ≤ 4194304) :
    Calls Try.prog 29 #[.slice a len cap] w fun e w' => e = .returned (.string ⟨ts.flatten.toArray⟩) ∧ Below w.heap.size w w' := by
  have hlb := hin.1
  have HI : Hid (TextsIn w a len ts) := hin
  have HL : Hid (ts.flatten.length ≤ 1048576) := hl
  clear hin hl
  obtain ⟨i0, hi, hz0, hz1, hz2⟩ := info_parts info5
  have hmk : ∀ (N : Nat) (W : World), N ≤ 1048576 → ∃ M, M.size = N ∧ (Instr.makeSlice 22 (.int .i64 (N : Int)) (.int .i64 (N : Int))).run Try.prog W = .ok (.slice (some ⟨W.heap.size, 0, none⟩) N N) (W.alloc (.cells M 5)) := fun N W hN => by
    have h := run_make (P := Try.prog) W 22 5 i0 (.int .u8 0) Try.underlying22 hi hz0 .i64 .i64 (N : Int) (N : Int) (by omega) (by omega) (by rw [hz2]; omega) (by omega)
    refine ⟨madeCells (Value.int .u8 0).cells (((N : Int)).toNat * i0.size), by rw [size_madeCells, hz1]; simp, ?_⟩
    simpa using h
  have HMK := hmk ts.flatten.length w HL.out
  obtain ⟨M, hMs, hmake⟩ := HMK
  have HN : Hid (flatN ts len = ts.flatten.length) := by exact (by unfold flatN; rw [List.take_of_length_le (by omega)] : flatN ts len = ts.flatten.length)
  rw [← HN.out] at hMs hmake
  obtain ⟨N, hNN⟩ : ∃ N, flatN ts len = N := ⟨_, rfl⟩
  rw [hNN] at hMs hmake
  have HNN : Hid (flatN ts len = N) := hNN
  have HMS : Hid (M.size = N) := hMs
  clear hmk hMs hNN
  go_enter Try.func29, Try.ntmps29
  go_wp2
  go_loop [3, 12] (fun n i => ∃ k : Nat, k ≤ len ∧ i = .int .i64 k ∧ n = .int .i64 (flatN ts k : Nat)) (fun _ i => len - (intOf i).toNat)
  case atStart => exact ⟨0, Nat.zero_le _, rfl, rfl⟩
  case round =>
    obtain ⟨k, hk, rfl, rfl⟩ := hrel
    by_cases hkl : (k : Int) < (len : Int)
    · obtain ⟨b, off, rfl, hbl, hcells⟩ := HI.out.at (by omega)
      have ck := hcells k (by omega)
      have hst := (flatN_step ts k (by omega)).1
      have hft := flatN_le ts (k + 1)
      have hll := HL.out
      obtain ⟨t, ht⟩ : ∃ t, ts.getD k [] = t := ⟨_, rfl⟩
      rw [ht] at ck hst
      have hlen2 : (flatN ts k : Int) + (t.length : Int) ≤ 1048576 := by omega
      have HF : Hid (flatN ts (k + 1) = flatN ts k + t.length) := hst
      clear hcells hst hft ht hll hmake
      go_wp2
      go_round
      case rel => exact ⟨k + 1, by omega, by go_num, by rw [HF.out]; go_num⟩
      case measure => simp [intOf]; omega
    · obtain rfl : k = len := by omega
      have hR0 : RowAt (w.alloc (.cells M 5)) w.heap.size N (flatF ts 0) := ⟨M, heap_alloc_new w _, HMS.out, by simp [flatF], by simp [flatF, bytesV]⟩
      have HR0 : Hid (RowAt (w.alloc (.cells M 5)) w.heap.size N (flatF ts 0)) := hR0
      clear hR0
      rw [HNN.out]
      go_wp2
      go_loopw [7, 25] (fun at_ i wr => ∃ q : Nat, q ≤ k ∧ i = .int .i64 q ∧ at_ = .int .i64 (flatN ts q : Nat) ∧ Hid (RowAt wr w.heap.size N (flatF ts q)) ∧ w.heap.size < wr.heap.size ∧ Below w.heap.size w wr) (fun _ i _ => k - (intOf i).toNat)
      case atStart => exact ⟨0, Nat.zero_le _, rfl, rfl, HR0, by simp, (Below.refl _ _).alloc (Nat.le_refl _) _⟩
      case round =>
        obtain ⟨q, hq, rfl, rfl, HR, hlt, hb⟩ := hrel
        clear hmake HR0
        by_cases hql : (q : Int) < (k : Int)
        · obtain ⟨b, off, rfl, hbl, hcells⟩ := (HI.out.below hb).at (by omega)
          have ck := hcells q (by omega)
          have hst := flatN_step ts q (by omega)
          have hft := flatN_le ts (q + 1)
          have hll := HL.out
          have hn := HN.out
          have hn2 := HNN.out
          obtain ⟨t, ht⟩ : ∃ t, ts.getD q [] = t := ⟨_, rfl⟩
          rw [ht] at ck hst
          have hlen2 : (flatN ts q : Int) + (t.length : Int) ≤ (N : Int) := by omega
          have hlen3 : (N : Int) ≤ 1048576 := by omega
          have hlen4 : (flatN ts q : Int) ≤ (N : Int) := by omega
          have HF : Hid (flatN ts (q + 1) = flatN ts q + t.length) := hst.1
          have HF2 : Hid (flatF ts (q + 1) = flatF ts q ++ t) := hst.2
          have hfl : (flatF ts q).length = flatN ts q := rfl
          have HFL : Hid ((flatF ts q).length = flatN ts q) := hfl
          clear hcells hst hft ht hll hn hn2 hfl
          by_cases hA : flatN ts q = N
          · have ht0 : t = [] := List.eq_nil_of_length_eq_zero (by omega)
            subst ht0
            obtain ⟨w3, hcp, hR3, hg3⟩ := HR.out.copy (t := []) (by simp; rw [HFL.out]; omega) 3 0 (by simp) (Or.inl rfl)
            rw [HFL.out, hA, Nat.sub_self] at hcp
            rw [← HF2.out] at hR3
            have HR3 : Hid (RowAt w3 w.heap.size N (flatF ts (q + 1))) := hR3
            have HA : Hid (flatN ts q = N) := hA
            have hb3 : Below w.heap.size w w3 := hb.grown hg3 hb.size (fun j e => by injection e with e; omega)
            have hlt3 : w.heap.size < w3.heap.size := by have := hg3.size; omega
            rw [hA]
            clear hA hR3 hg3
            go_wp2
            go_roundw
            case rel => exact ⟨q + 1, by omega, by go_num, by rw [HF.out, HA.out]; rfl, HR3, hlt3, hb3⟩
            case measure => simp [intOf]; omega
          · obtain ⟨w3, hcp, hR3, hg3⟩ := HR.out.copy (t := t) (by rw [HFL.out]; omega) 3 (flatN ts q) (by omega) (Or.inr HFL.out.symm)
            rw [HFL.out] at hcp
            rw [← HF2.out] at hR3
            have HR3 : Hid (RowAt w3 w.heap.size N (flatF ts (q + 1))) := hR3
            have hA2 : ¬ N = flatN ts q := fun e => hA e.symm
            have hb3 : Below w.heap.size w w3 := hb.grown hg3 hb.size (fun j e => by injection e with e; omega)
            have hlt3 : w.heap.size < w3.heap.size := by have := hg3.size; omega
            clear hA hR3 hg3
            go_wp2
            go_roundw
            case rel => exact ⟨q + 1, by omega, by go_num, by rw [HF.out]; go_num, HR3, hlt3, hb3⟩
            case measure => simp [intOf]; omega
        · obtain rfl : q = k := by omega
          obtain ⟨Y, hY, hYs, hlN, htk⟩ := HR.out
          have hfl : (flatF ts q).length = N := (rfl : (flatF ts q).length = flatN ts q).trans HNN.out
          rw [hfl] at htk
          have hcells : ∀ j (hj : j < (flatF ts q).length), wr.cell? ⟨w.heap.size, 0 + j, none⟩ = some (.int .u8 ((flatF ts q)[j].toNat : Int)) := fun j hj => by
            have h1 : Y.toList = bytesV (flatF ts q) := by rw [← htk, List.take_of_length_le (by rw [Array.length_toList]; omega)]
            rw [Nat.zero_add]
            simp only [World.cell?, hY]
            simp only [Option.isSome_none, Bool.false_eq_true, if_false]
            rw [← Array.getElem?_toList, h1]
            simp [bytesV, hj]
          have hbk := bytes_back N (by omega) hcells N
          rw [List.take_of_length_le (by omega)] at hbk
          have HT : Hid (flatF ts q = ts.flatten) := by exact (by unfold flatF; rw [List.take_of_length_le (by omega)] : flatF ts q = ts.flatten)
          rw [HT.out] at hbk
          clear hcells hfl htk hlN hYs hY
          go_wp2
          go_ret
          exact ⟨rfl, hb⟩

end Go.Proofs.Ytfjpbbacibfnmaa
