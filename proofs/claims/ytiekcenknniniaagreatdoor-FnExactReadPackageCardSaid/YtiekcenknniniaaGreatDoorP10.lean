/-
  Parts of one proof, one behind the other: Marks, Marks2, Marks3, TextsL, EqT, FnE.
-/
import Derived.Test.YtiekcenknniniaaGreatDoorP9
import Derived.Test.YtiekcenknniniaaGreatDoorP2
import Derived.Test.YtiekcenknniniaaGreatDoorP4
import Derived.Test.YtiekcenknniniaaGreatDoorP3
import Derived.Deep.RegionWith
import Derived.SliceStrings
import Derived.ProofKit
import Derived.OpenShut
import Derived.ShutString
import Derived.ChangeOld
import Derived.Below

/-! The contracts of the exact laws' own helpers over lists of texts: eqStringS, markStringS, heldStringS, markText. -/
namespace Go.Proofs.YtiekcenknniniaaGreatDoor
open Go.RowKit

/-- The digits of k ahead of acc. -/
def markGo : Nat → Nat → List UInt8 → List UInt8
  | 0, _, acc => acc
  | f + 1, k, acc => if k = 0 then acc else markGo f (k / 10) ((48 + UInt8.ofNat (k % 10)) :: acc)
def markL (k : Nat) : List UInt8 := 109 :: markGo k k []

theorem markGo_zero (f : Nat) (acc : List UInt8) : markGo f 0 acc = acc := by
  cases f with
  | zero => rfl
  | succ f => simp [markGo]

theorem markGo_step (f k : Nat) (acc : List UInt8) (h : k ≤ f) (hk : 0 < k) : ∃ f', k / 10 ≤ f' ∧ markGo f k acc = markGo f' (k / 10) ((48 + UInt8.ofNat (k % 10)) :: acc) := by
  obtain ⟨f', rfl⟩ : ∃ f', f = f' + 1 := ⟨f - 1, by omega⟩
  refine ⟨f', by omega, ?_⟩
  conv => lhs; unfold markGo
  rw [if_neg (by omega)]

theorem back1d (t : Int) (h2 : 0 ≤ t) (h3 : t ≤ 255) (W : World) :
    (convert 111 9 (.slice (some ⟨W.heap.size, 0, none⟩) 1 1)).run Tryz.prog (W.alloc (.cells #[.int .u8 t] 5)) = .ok (.string ⟨[UInt8.ofNat t.toNat].toArray⟩) (W.alloc (.cells #[.int .u8 t] 5)) := by
  have ht : ((UInt8.ofNat t.toNat).toNat : Int) = t := by
    rw [UInt8.toNat_ofNat']; omega
  have h := run_convert_bytes_back (P := Tryz.prog) (W.alloc (.cells #[.int .u8 t] 5)) 111 9 5 ⟨W.heap.size, 0, none⟩ 1 [UInt8.ofNat t.toNat] Tryz.underlying111 Tryz.underlying5 Tryz.underlying9 (by
    intro j hj
    have hj' : j < 1 := by simpa using hj
    match j, hj' with
    | 0, _ => simp only [List.getElem_cons_zero, ht]; simp [Addr.add, go_sem])
  exact h

set_option maxHeartbeats 1000000 in
set_option maxRecDepth 100000 in
theorem markTextC (k : Nat) (w : World) (h0 : 0 < k) (h1 : k ≤ 40000000) :
    Calls Tryz.prog 85 #[.int .i64 k] w fun e w' => e = .returned (.string ⟨(markL k).toArray⟩) ∧ w.grownBy w' none := by
  have hcat := cat_list
  go_enter Tryz.func85, Tryz.ntmps85
  go_wp2_with fail
  go_loopw [0, 3] (fun i v wr => ∃ f m : Nat, ∃ o : List UInt8, m ≤ f ∧ m ≤ k ∧ o.length + m ≤ k ∧ i = .int .i64 m ∧ v = .string ⟨o.toArray⟩ ∧ markGo f m o = markGo k k [] ∧ w.grownBy wr none) (fun i _ _ => (intOf i).toNat)
  case atStart => exact ⟨k, k, [], Nat.le_refl _, Nat.le_refl _, by simp, rfl, rfl, rfl, World.grownBy.refl _ _⟩
  case round =>
    obtain ⟨f, m, o, hf, hm, hol, rfl, rfl, hgo, hg⟩ := hrel
    by_cases hlt : 0 < m
    · obtain ⟨f', hf', hst⟩ := markGo_step f m o hf hlt
      have HS : Hid (markGo f' (m / 10) ((48 + UInt8.ofNat (m % 10)) :: o) = markGo k k []) := by
        have := hst.symm.trans hgo
        exact this
      clear hst hgo
      have hbk := back1d (48 + (m : Int) % 10) (by omega) (by omega)
      go_wp2
      go_roundw
      case rel =>
        exact ⟨f', m / 10, (48 + UInt8.ofNat (m % 10)) :: o, hf', by omega, by rw [List.length_cons]; omega, by go_num, rfl, HS.out, hg.trans (World.grownBy_alloc _ _ _)⟩
      case measure => simp [intOf]; omega
    · obtain rfl : m = 0 := by omega
      have HE : Hid (o = markGo k k []) := (markGo_zero f o).symm.trans hgo
      go_wp2
      go_ret
      exact ⟨ret_strl (by unfold markL; rw [← HE.out]), hg⟩

end Go.Proofs.YtiekcenknniniaaGreatDoor

/-! The contracts of the exact laws' own helpers over lists of texts: eqStringS, markStringS, heldStringS. -/
namespace Go.Proofs.YtiekcenknniniaaGreatDoor
open Go.RowKit

set_option maxHeartbeats 1000000 in
set_option maxRecDepth 100000 in
theorem eqStrC (w : World) (ba bb ga gb ca cb : Nat) (ls : List (List UInt8)) (hn : ls.length ≤ 1100000)
    (ha : w.ownsRow ba 9 1 (.slice (some ⟨ga, 0, none⟩) ls.length ca) ls.length (strV ls)) (hb : w.ownsRow bb 9 1 (.slice (some ⟨gb, 0, none⟩) ls.length cb) ls.length (strV ls)) :
    Calls Tryz.prog 41 #[.slice (some ⟨ga, 0, none⟩) ls.length ca, .slice (some ⟨gb, 0, none⟩) ls.length cb] w fun e w' => e = .returned (.bool true) ∧ w.grownBy w' none := by
  have hne : ((ls.length : Int) != (ls.length : Int)) = false := by simp
  have hself : ∀ l : List UInt8, (l != l) = false := by simp
  have HA : Hid (∀ j (hj : j < ls.length), w.cell? ⟨ga, j, none⟩ = some (.string ⟨ls[j].toArray⟩)) := fun j hj => str_cells ha j hj
  have HB : Hid (∀ j (hj : j < ls.length), w.cell? ⟨gb, j, none⟩ = some (.string ⟨ls[j].toArray⟩)) := fun j hj => str_cells hb j hj
  clear ha hb
  go_enter Tryz.func41, Tryz.ntmps41
  go_wp2
  go_loopw [5] (fun i wr => ∃ k : Nat, k ≤ ls.length ∧ i = .int .i64 k ∧ w.grownBy wr none) (fun i _ => ls.length - (intOf i).toNat)
  case atStart => exact ⟨0, Nat.zero_le _, rfl, World.grownBy.refl _ _⟩
  case round =>
    obtain ⟨k, hk, rfl, hg⟩ := hrel
    by_cases hlt : k < ls.length
    · obtain ⟨t, ht⟩ : ∃ t, ls[k] = t := ⟨_, rfl⟩
      have hca : wr.cell? ⟨ga, k, none⟩ = some (.string ⟨t.toArray⟩) := by rw [← ht]; exact hg.cell (HA.out k hlt) (by simp)
      have hcb : wr.cell? ⟨gb, k, none⟩ = some (.string ⟨t.toArray⟩) := by rw [← ht]; exact hg.cell (HB.out k hlt) (by simp)
      clear ht
      go_wp2
      go_region
      all_goals (try go_wp2)
      go_roundw
      case rel => exact ⟨k + 1, by omega, by go_num, hg.trans (grown_drew _ _)⟩
      case measure => simp [intOf]; omega
    · go_wp2
      go_ret
      exact ⟨rfl, hg⟩

/-- The marks from k on. -/
def marksV (k : Nat) : Nat → List Value
  | 0 => []
  | n + 1 => marksV k n ++ [.string ⟨(markL (k + n)).toArray⟩]

theorem marksV_len (k n : Nat) : (marksV k n).length = n := by
  induction n with
  | zero => rfl
  | succ n ih => simp [marksV, ih]

theorem marksV_at (k n j : Nat) (h : j < n) : (marksV k n)[j]? = some (.string ⟨(markL (k + j)).toArray⟩) := by
  induction n with
  | zero => omega
  | succ n ih =>
    unfold marksV
    by_cases hj : j < n
    · rw [List.getElem?_append_left (by rw [marksV_len]; exact hj)]; exact ih hj
    · obtain rfl : j = n := by omega
      rw [List.getElem?_append_right (by rw [marksV_len]; omega), marksV_len]
      simp

theorem marks_set (k i : Nat) (xs : List Value) (h : i < xs.length) : (marksV k i ++ xs.drop i).set i (.string ⟨(markL (k + i)).toArray⟩) = marksV k (i + 1) ++ xs.drop (i + 1) := by
  rw [List.set_append, if_neg (by rw [marksV_len]; omega), marksV_len, Nat.sub_self]
  rw [List.drop_eq_getElem_cons h, List.set_cons_zero]
  conv => rhs; unfold marksV
  rw [List.append_assoc]; rfl

set_option maxHeartbeats 1000000 in
set_option maxRecDepth 100000 in
theorem markStrC (w : World) (base g cp n k0 : Nat) (xs : List Value) (hn : n ≤ 1100000) (hk0 : 0 < k0) (hk1 : k0 ≤ 800000)
    (h : w.ownsRow base 9 1 (.slice (some ⟨g, 0, none⟩) n cp) n xs) :
    Calls Tryz.prog 48 #[.slice (some ⟨g, 0, none⟩) n cp, .int .i64 k0] w fun e w' => e = .returned (.int .i64 ((k0 + n : Nat) : Int)) ∧ w'.ownsRow base 9 1 (.slice (some ⟨g, 0, none⟩) n cp) n (marksV k0 n) ∧ w.grownBy w' (some g) := by
  have hxl : Hid (xs.length = n) := by exact (by have := h.1; omega : xs.length = n)
  have hgl : g < w.heap.size := (h.lt g rfl).2
  go_enter Tryz.func48, Tryz.ntmps48
  go_wp2
  go_loopw [1, 5] (fun k i wr => ∃ m : Nat, m ≤ n ∧ i = .int .i64 m ∧ k = .int .i64 ((k0 + m : Nat) : Int) ∧ wr.ownsRow base 9 1 (.slice (some ⟨g, 0, none⟩) n cp) n (marksV k0 m ++ xs.drop m) ∧ w.grownBy wr (some g)) (fun _ i _ => n - (intOf i).toNat)
  case atStart => exact ⟨0, Nat.zero_le _, rfl, rfl, h, World.grownBy.refl _ _⟩
  case round =>
    obtain ⟨m, hm, rfl, rfl, hown, hg⟩ := hrel
    by_cases hlt : m < n
    · go_wp2_with fail
      refine (markTextC (k0 + m) _ (by omega) (by omega)).mono ?_
      rintro e w1 ⟨rfl, hg1⟩
      have hown1 := own_none hown hg1
      have hc1 : ∃ u, w1.cell? ⟨g, m, none⟩ = some u := by
        rw [hown1.cellAt m (by omega)]
        have hl : m < (marksV k0 m ++ xs.drop m).length := by rw [List.length_append, marksV_len, List.length_drop]; have := hxl.out; omega
        exact ⟨_, List.getElem?_eq_getElem hl⟩
      obtain ⟨u, hc1⟩ := hc1
      have hf1 := hown1.frozenAt m
      have hst := hown1.stored m (.string ⟨(markL (k0 + m)).toArray⟩)
      rw [marks_set k0 m xs (by have := hxl.out; omega)] at hst
      have hg2 : w.grownBy w1 (some g) := hg.andThen hg1 (by simp)
      have hst2 := hg2.trans hst.2
      have hst1 := hst.1
      clear hown hown1 hg1 hst hg2 hg
      go_wp2
      go_roundw
      case rel => exact ⟨m + 1, by omega, by go_num, by go_num, hst1, hst2⟩
      case measure => simp [intOf]; omega
    · obtain rfl : m = n := by omega
      have hd : xs.drop m = [] := List.drop_eq_nil_of_le (by have := hxl.out; omega)
      rw [hd, List.append_nil] at hown
      clear hd
      go_wp2
      go_ret
      exact ⟨rfl, hown, hg⟩

set_option maxHeartbeats 1000000 in
set_option maxRecDepth 100000 in
theorem heldStrC (w : World) (base g cp n k0 : Nat) (hn : n ≤ 1100000) (hk0 : 0 < k0) (hk1 : k0 ≤ 800000)
    (h : w.ownsRow base 9 1 (.slice (some ⟨g, 0, none⟩) n cp) n (marksV k0 n)) :
    Calls Tryz.prog 50 #[.slice (some ⟨g, 0, none⟩) n cp, .int .i64 k0] w fun e w' => e = .returned (.int .i64 ((k0 + n : Nat) : Int)) ∧ w.grownBy w' none := by
  have hself : ∀ l : List UInt8, (l != l) = false := by simp
  have HA : Hid (∀ j, j < n → w.cell? ⟨g, j, none⟩ = some (.string ⟨(markL (k0 + j)).toArray⟩)) := fun j hj => by rw [h.cellAt j (by omega), marksV_at k0 n j hj]
  clear h
  go_enter Tryz.func50, Tryz.ntmps50
  go_wp2
  go_loopw [1, 5] (fun k i wr => ∃ m : Nat, m ≤ n ∧ i = .int .i64 m ∧ k = .int .i64 ((k0 + m : Nat) : Int) ∧ w.grownBy wr none) (fun _ i _ => n - (intOf i).toNat)
  case atStart => exact ⟨0, Nat.zero_le _, rfl, rfl, World.grownBy.refl _ _⟩
  case round =>
    obtain ⟨m, hm, rfl, rfl, hg⟩ := hrel
    by_cases hlt : m < n
    · have hca : wr.cell? ⟨g, m, none⟩ = some (.string ⟨(markL (k0 + m)).toArray⟩) := hg.cell (HA.out m hlt) (by simp)
      go_wp2
      go_region_with (go_at_call 85; refine (markTextC (k0 + m) _ (by omega) (by omega)).mono ?_; rintro e w1 ⟨rfl, hg1⟩; have hca1 := hg1.cell (a := ⟨g, m, none⟩) hca (by simp))
      all_goals (try go_wp2)
      all_goals
        go_roundw
        case rel => exact ⟨m + 1, by omega, by go_num, by go_num, by first | exact hg.trans hg1 | exact (hg.trans (grown_drew _ _)).trans hg1⟩
        case measure => simp [intOf]; omega
    · obtain rfl : m = n := by omega
      go_wp2
      go_ret
      exact ⟨rfl, hg⟩

end Go.Proofs.YtiekcenknniniaaGreatDoor

/-! The helpers over lists of texts, whatever the list's value: nil, empty or not. -/
namespace Go.Proofs.YtiekcenknniniaaGreatDoor
open Go.RowKit

set_option maxHeartbeats 400000 in
set_option maxRecDepth 100000 in
theorem eqStrEmpty (w : World) (aa ab : Option Addr) (ca cb : Nat) :
    Calls Tryz.prog 41 #[.slice aa 0 ca, .slice ab 0 cb] w fun e w' => e = .returned (.bool true) ∧ w.grownBy w' none := by
  go_enter Tryz.func41, Tryz.ntmps41
  go_wp2
  refine wp_loop_rounds 1 ?_
  rw [rounds_succ]
  go_wp2
  go_ret
  exact ⟨rfl, World.grownBy.refl _ _⟩

theorem eqStrV (w : World) (ba bb : Nat) (va vb : Value) (ls : List (List UInt8)) (hn : ls.length ≤ 1100000)
    (ha : w.ownsRow ba 9 1 va ls.length (strV ls)) (hb : w.ownsRow bb 9 1 vb ls.length (strV ls)) :
    Calls Tryz.prog 41 #[va, vb] w fun e w' => e = .returned (.bool true) ∧ w.grownBy w' none := by
  rcases own_forms ha with ⟨rfl, h0, _⟩ | ⟨ga, ca, rfl⟩
  · rcases own_forms hb with ⟨rfl, _, _⟩ | ⟨gb, cb, rfl⟩
    · exact eqStrEmpty w none none 0 0
    · rw [h0]; exact eqStrEmpty w none (some ⟨gb, 0, none⟩) 0 cb
  · rcases own_forms hb with ⟨rfl, h0, _⟩ | ⟨gb, cb, rfl⟩
    · rw [h0]; exact eqStrEmpty w (some ⟨ga, 0, none⟩) none ca 0
    · exact eqStrC w ba bb ga gb ca cb ls hn ha hb

set_option maxHeartbeats 400000 in
set_option maxRecDepth 100000 in
theorem markStrNil (w : World) (k0 : Nat) :
    Calls Tryz.prog 48 #[.slice none 0 0, .int .i64 k0] w fun e w' => e = .returned (.int .i64 (k0 : Int)) ∧ w' = w := by
  go_enter Tryz.func48, Tryz.ntmps48
  go_wp2
  refine wp_loop_rounds 1 ?_
  rw [rounds_succ]
  go_wp2
  go_ret
  exact ⟨rfl, rfl⟩

theorem markStrV (w : World) (base n k0 : Nat) (v : Value) (xs : List Value) (hn : n ≤ 1100000) (hk0 : 0 < k0) (hk1 : k0 ≤ 800000) (h : w.ownsRow base 9 1 v n xs) :
    Calls Tryz.prog 48 #[v, .int .i64 k0] w fun e w' => e = .returned (.int .i64 ((k0 + n : Nat) : Int)) ∧ w'.ownsRow base 9 1 v n (marksV k0 n) ∧ w.grownBy w' v.ownBlock := by
  rcases own_forms h with ⟨rfl, rfl, rfl⟩ | ⟨g, cp, rfl⟩
  · refine (markStrNil w k0).mono ?_
    rintro e w' ⟨rfl, rfl⟩
    exact ⟨rfl, h, World.grownBy.refl _ _⟩
  · exact markStrC w base g cp n k0 xs hn hk0 hk1 h

set_option maxHeartbeats 400000 in
set_option maxRecDepth 100000 in
theorem heldStrNil (w : World) (k0 : Nat) :
    Calls Tryz.prog 50 #[.slice none 0 0, .int .i64 k0] w fun e w' => e = .returned (.int .i64 (k0 : Int)) ∧ w' = w := by
  go_enter Tryz.func50, Tryz.ntmps50
  go_wp2
  refine wp_loop_rounds 1 ?_
  rw [rounds_succ]
  go_wp2
  go_ret
  exact ⟨rfl, rfl⟩

theorem heldStrV (w : World) (base n k0 : Nat) (v : Value) (hn : n ≤ 1100000) (hk0 : 0 < k0) (hk1 : k0 ≤ 800000) (h : w.ownsRow base 9 1 v n (marksV k0 n)) :
    Calls Tryz.prog 50 #[v, .int .i64 k0] w fun e w' => e = .returned (.int .i64 ((k0 + n : Nat) : Int)) ∧ w.grownBy w' none := by
  rcases own_forms h with ⟨rfl, rfl, _⟩ | ⟨g, cp, rfl⟩
  · refine (heldStrNil w k0).mono ?_
    rintro e w' ⟨rfl, rfl⟩
    exact ⟨rfl, World.grownBy.refl _ _⟩
  · exact heldStrC w base g cp n k0 hn hk0 hk1 h

end Go.Proofs.YtiekcenknniniaaGreatDoor

/-! A list of texts that came in, as the walks take it; the exact laws' helpers over such lists: szStringS, toStringS. -/
namespace Go.Proofs.YtiekcenknniniaaGreatDoor
open Go.ChangeShapes Go.WideShapes Go.ChangeAt Go.RowKit

set_option maxRecDepth 100000 in
theorem open_texts {H : Type} {enc : TypeId × Value → H} {W : World} {base b0 : Nat} {spare : Nat → Bool} {held : Bool} {v : Value} {d : DataW H} {p : List MemPlace}
    (hv : Value.okWide Tryz.prog W .any b0 22 v) (h : DataW.Trod enc Tryz.prog W base spare held 22 v d p) :
    ∃ a len cap ts, v = .slice a len cap ∧ TextsIn W a len ts ∧ len ≤ maxLen ∧ ∀ j, (ts.getD j []).length ≤ maxLen := by
  obtain ⟨a0, len, cap, rfl⟩ := okWide_slice Tryz.underlying22 hv
  obtain ⟨fuel, hf⟩ := h
  rcases open_strings Tryz.underlying22 Tryz.underlying9 (by kernel_rfl) hf with ⟨hcs, _⟩ | ⟨a, l, c, ss, hcs, _, hl, hm, hlen, _, hcell, hsz⟩
  · simp [Value.cells] at hcs
    obtain ⟨rfl, rfl, rfl⟩ := hcs
    exact ⟨none, 0, 0, [], rfl, ⟨rfl, fun j hj => by omega⟩, by decide, fun j => by simp⟩
  · simp [Value.cells] at hcs
    obtain ⟨rfl, rfl, rfl⟩ := hcs
    have hls : len ≤ ss.length := by rw [hlen]; split <;> omega
    have hgd : ∀ j, j < len → ((ss.take len).map (fun s => s.data.toList)).getD j [] = (ss.getD j ByteArray.empty).data.toList := by
      intro j hj
      have hj2 : j < ss.length := by omega
      simp [List.getD, hj, hj2]
    refine ⟨some a, len, cap, (ss.take len).map (fun s => s.data.toList), rfl, ⟨by simp; omega, fun j hj => ?_⟩, by omega, fun j => ?_⟩
    · have hc := hcell j (by omega)
      have hsp : a.spot = none := by
        have h0 := hcell 0 (by omega)
        simpa [Addr.add] using World.cell?_spot h0
      obtain ⟨b, off, spot⟩ := a
      simp at hsp
      subst hsp
      have e : ∀ i, (⟨b, off, none⟩ : Addr).add i = ⟨b, off + i, none⟩ := fun i => by unfold Addr.add; split <;> simp_all
      rw [e] at hc
      refine ⟨b, off, rfl, World.block_lt_of_cell? W ⟨b, off + j, none⟩ hc, ?_⟩
      rw [hc, hgd j hj]
    · by_cases hj : j < len
      · rw [hgd j hj]
        have hj2 : j < ss.length := by omega
        have : ss.getD j ByteArray.empty ∈ ss := by simp [List.getD, hj2]
        have hz := hsz _ this
        simpa using hz
      · have : ((ss.take len).map (fun s => s.data.toList)).getD j [] = [] := by rw [List.getD, List.getElem?_eq_none (by simp; omega)]; rfl
        rw [this]; simp

def szT (m n : Nat) (left : Int) : Int := if (m : Int) + (n : Int) ≤ left then left - (m : Int) - (n : Int) else -1
theorem szT_yes {m n : Nat} {left : Int} (h : (m : Int) + (n : Int) ≤ left) : szT m n left = left - (m : Int) - (n : Int) := by unfold szT; rw [if_pos h]
theorem szT_no {m n : Nat} {left : Int} (h : ¬ (m : Int) + (n : Int) ≤ left) : szT m n left = -1 := by unfold szT; rw [if_neg h]

/-- How many bytes in all. -/
def joinN (ts : List (List UInt8)) : Nat := ts.flatten.length

theorem joinN_snoc (ts : List (List UInt8)) (k : Nat) (hk : k < ts.length) : joinN (ts.take (k + 1)) = joinN (ts.take k) + (ts.getD k []).length := by
  have := congrArg List.length (flat_snoc ts k hk)
  rw [List.length_append] at this
  exact this

theorem joinN_take (ts : List (List UInt8)) (k : Nat) : joinN (ts.take k) ≤ joinN ts := flat_take ts k

set_option maxHeartbeats 1000000 in
set_option maxRecDepth 100000 in
theorem szStringSC (a : Option Addr) (len cap : Nat) (ts : List (List UInt8)) (left : Int) (w : World) (hin : TextsIn w a len ts) (h0 : 0 ≤ left) (h1 : left ≤ 1048576) (hl : len ≤ maxLen) (hm : ∀ j, (ts.getD j []).length ≤ maxLen) :
    Calls Tryz.prog 31 #[.slice a len cap, .int .i64 left] w fun e w' => e = .returned (.int .i64 (szT len (joinN ts) left)) ∧ w' = w := by
  unfold maxLen at hl
  have hl2 : (len : Int) ≤ 9223372036854775807 := by omega
  have hlb := hin.1
  by_cases h : (len : Int) ≤ left
  · have hlen : len ≤ 1048576 := by omega
    have HI : Hid (TextsIn w a len ts) := hin
    have HM : Hid (∀ j, (ts.getD j []).length ≤ maxLen) := hm
    clear hin hm
    go_enter Tryz.func31, Tryz.ntmps31
    go_wp2
    go_loop [1, 5] (fun l i => ∃ k : Nat, k ≤ len ∧ i = .int .i64 k ∧ l = .int .i64 (left - (len : Int) - (joinN (ts.take k) : Int)) ∧ (joinN (ts.take k) : Int) ≤ left - (len : Int)) (fun _ i => len - (intOf i).toNat)
    case atStart => exact ⟨0, Nat.zero_le _, rfl, by simp [joinN], by simp [joinN]; omega⟩
    case round =>
      obtain ⟨k, hk, rfl, rfl, hle⟩ := hrel
      by_cases hkl : (k : Int) < (len : Int)
      · obtain ⟨b, off, rfl, hbl, hcells⟩ := HI.out.at (by omega)
        have ck := hcells k (by omega)
        have hmk := HM.out k
        have hfs := joinN_snoc ts k (by omega)
        have hft := joinN_take ts (k + 1)
        obtain ⟨t, ht⟩ : ∃ t, ts.getD k [] = t := ⟨_, rfl⟩
        rw [ht] at ck hmk hfs
        unfold maxLen at hmk
        have hmk2 : (t.length : Int) ≤ 9223372036854775807 := by omega
        obtain ⟨m, hmm⟩ : ∃ m, joinN (ts.take k) = m := ⟨_, rfl⟩
        have HS : Hid (joinN (ts.take (k + 1)) = m + t.length) := by rw [← hmm]; exact hfs
        rw [hmm] at hle ⊢
        clear hcells ht hfs
        by_cases hfit : (t.length : Int) ≤ left - (len : Int) - (m : Int)
        · have hge : (0 : Int) ≤ left - (len : Int) - (m : Int) - (t.length : Int) := by omega
          have HR : Hid ((joinN (ts.take (k + 1)) : Int) ≤ left - (len : Int) ∧ left - (len : Int) - (joinN (ts.take (k + 1)) : Int) = left - (len : Int) - (m : Int) - (t.length : Int)) := by
            exact (by rw [HS.out]; omega : (joinN (ts.take (k + 1)) : Int) ≤ left - (len : Int) ∧ left - (len : Int) - (joinN (ts.take (k + 1)) : Int) = left - (len : Int) - (m : Int) - (t.length : Int))
          clear hmm hft
          go_wp2
          go_round
          case rel => exact ⟨k + 1, by omega, by go_num, by rw [HR.out.2], HR.out.1⟩
          case measure => simp [intOf]; omega
        · have HR : Hid (szT len (joinN ts) left = -1) := szT_no (by have := HS.out; omega)
          have hlt : left - (len : Int) - (m : Int) - (t.length : Int) < 0 := by omega
          clear hmm hft
          go_wp2
          go_ret
          exact ⟨by rw [HR.out]; rfl, rfl⟩
      · have HT : Hid (ts.take k = ts) := List.take_of_length_le (by omega)
        have HR : Hid (szT len (joinN ts) left = left - (len : Int) - (joinN (ts.take k) : Int)) := by exact (by rw [HT.out] at hle ⊢; exact szT_yes (by omega) : szT len (joinN ts) left = left - (len : Int) - (joinN (ts.take k) : Int))
        go_wp2
        go_ret
        exact ⟨by rw [HR.out]; rfl, rfl⟩
  · have HR : Hid (szT len (joinN ts) left = -1) := szT_no (by omega)
    clear hin hm
    go_enter Tryz.func31, Tryz.ntmps31
    go_wp2
    go_ret
    exact ⟨by rw [HR.out]; rfl, rfl⟩

theorem made_texts (n : Nat) : (madeCells (Value.cells (.string ⟨#[]⟩)) (n * 1)).toList = strV (List.replicate n []) := by
  have hc : Value.cells (.string ⟨#[]⟩) = #[.string ⟨#[]⟩] := rfl
  rw [hc, Nat.mul_one]
  apply List.ext_getElem?
  intro j
  by_cases hj : j < n
  · rw [strV_at _ j (by simpa using hj)]
    simp [madeCells, hj, Nat.mod_one]
  · rw [List.getElem?_eq_none (by simp [madeCells]; omega), List.getElem?_eq_none (by rw [strV_len]; simp; omega)]

theorem fill_text (ts : List (List UInt8)) (k : Nat) (hk : k < ts.length) : (strV (ts.take k ++ List.replicate (ts.length - k) [])).set k (.string ⟨(ts.getD k []).toArray⟩) = strV (ts.take (k + 1) ++ List.replicate (ts.length - (k + 1)) []) := by
  have hg : ts.getD k [] = ts[k] := by simp [List.getD, hk]
  have e : (ts.take k ++ List.replicate (ts.length - k) []).set k ts[k] = ts.take (k + 1) ++ List.replicate (ts.length - (k + 1)) [] := by
    rw [List.set_append_right _ _ (by rw [List.length_take]; omega), List.length_take, Nat.min_eq_left (by omega), Nat.sub_self, show ts.length - k = (ts.length - (k + 1)) + 1 by omega, List.replicate_succ, List.set_cons_zero, List.take_succ_eq_append_getElem hk, List.append_assoc]
    rfl
  rw [hg, ← e]
  unfold strV
  rw [List.map_set]

set_option maxHeartbeats 2000000 in
set_option maxRecDepth 100000 in
theorem toStringSC (a : Option Addr) (len cap : Nat) (ts : List (List UInt8)) (w : World) (hin : TextsIn w a len ts) (hlen : len ≤ 1048576) :
    Calls Tryz.prog 35 #[.slice a len cap] w fun e w' => ∃ v, e = .returned v ∧ w'.ownsRow w.heap.size 9 1 v len (strV ts) ∧ v ≠ .slice none 0 0 ∧ Below w.heap.size w w' := by
  obtain ⟨i0, hi, hz0, hz1, hz2⟩ := info_parts info9
  have hlb := hin.1
  have HI : Hid (TextsIn w a len ts) := hin
  clear hin
  go_enter Tryz.func35, Tryz.ntmps35
  go_wp2_with (at_make; refine wpList_make_full _ rfl _ _ 22 rfl w.heap.size 9 i0 _ 1 Tryz.underlying22 hi hz0 hz1 .i64 .i64 _ _ len rfl rfl rfl rfl (by rw [hz2]; omega) (by unfold maxLen; omega) (Nat.le_refl _) ?_; intro w1 hown1 hgrow1)
  rw [made_texts] at hown1
  have hB1 : Below w.heap.size w w1 := (Below.refl _ _).grown hgrow1 (Nat.le_refl _) (by simp)
  clear hgrow1
  go_loopw [4] (fun i wr => ∃ k : Nat, k ≤ len ∧ i = .int .i64 k ∧ wr.ownsRow w.heap.size 9 1 (.slice (some ⟨w.heap.size, 0, none⟩) len len) len (strV (ts.take k ++ List.replicate (ts.length - k) [])) ∧ Below w.heap.size w wr) (fun i _ => len - (intOf i).toNat)
  case atStart => exact ⟨0, Nat.zero_le _, rfl, by simpa [hlb] using hown1, hB1⟩
  case round =>
    obtain ⟨k, hk, rfl, hown, hB⟩ := hrel
    clear hown1 hB1
    by_cases hkl : (k : Int) < (len : Int)
    · obtain ⟨b, off, rfl, hbl, hcells⟩ := (HI.out.below hB).at (by omega)
      have ck := hcells k (by omega)
      have hst := (hown.stored k (.string ⟨(ts.getD k []).toArray⟩)).1
      rw [fill_text ts k (by omega)] at hst
      obtain ⟨u0, d0⟩ : ∃ u, wr.cell? ⟨w.heap.size, k, none⟩ = some u := by
        rw [hown.cellAt k (by omega), strV_at _ k (by rw [List.length_append, List.length_take, List.length_replicate]; omega)]; exact ⟨_, rfl⟩
      have e0 := hown.frozenAt k
      obtain ⟨t, ht⟩ : ∃ t, ts.getD k [] = t := ⟨_, rfl⟩
      rw [ht] at ck hst
      have hB3 := hB.setCell (p := ⟨w.heap.size, k, none⟩) (Nat.le_refl _) (.string ⟨t.toArray⟩)
      clear hcells ht hown
      go_wp2
      go_roundw
      case rel => exact ⟨k + 1, by omega, by go_num, hst, hB3⟩
      case measure => simp [intOf]; omega
    · have hd : ts.take k ++ List.replicate (ts.length - k) [] = ts := by rw [List.take_of_length_le (by omega), show ts.length - k = 0 by omega]; simp
      rw [hd] at hown
      clear hd
      go_wp2
      go_ret
      exact ⟨_, rfl, hown, by simp, hB⟩

end Go.Proofs.YtiekcenknniniaaGreatDoor

/-! The laws' own helper eqStringS over texts that can be read. -/
namespace Go.Proofs.YtiekcenknniniaaGreatDoor
open Go.RowKit

set_option maxHeartbeats 1000000 in
set_option maxRecDepth 100000 in
theorem eqTextsC (a b : Option Addr) (len ca cb : Nat) (ts : List (List UInt8)) (w : World) (ha : TextsIn w a len ts) (hb : TextsIn w b len ts) (hlen : len ≤ 4194304) :
    Calls Tryz.prog 41 #[.slice a len ca, .slice b len cb] w fun e w' => e = .returned (.bool true) ∧ Below w.heap.size w w' := by
  have hne : ((len : Int) != (len : Int)) = false := by simp
  have hself : ∀ l : List UInt8, (l != l) = false := by simp
  have HA : Hid (TextsIn w a len ts) := ha
  have HB : Hid (TextsIn w b len ts) := hb
  clear ha hb
  go_enter Tryz.func41, Tryz.ntmps41
  go_wp2
  go_loopw [5] (fun i wr => ∃ k : Nat, k ≤ len ∧ i = .int .i64 k ∧ Below w.heap.size w wr) (fun i _ => len - (intOf i).toNat)
  case atStart => exact ⟨0, Nat.zero_le _, rfl, Below.refl _ _⟩
  case round =>
    obtain ⟨k, hk, rfl, hB⟩ := hrel
    by_cases hkl : (k : Int) < (len : Int)
    · obtain ⟨b1, o1, rfl, hb1, hca⟩ := (HA.out.below hB).2 k (by omega)
      obtain ⟨b2, o2, rfl, hb2, hcb⟩ := (HB.out.below hB).2 k (by omega)
      obtain ⟨t, ht⟩ : ∃ t, ts.getD k [] = t := ⟨_, rfl⟩
      rw [ht] at hca hcb
      clear ht
      go_wp2
      go_region
      all_goals (try go_wp2)
      go_roundw
      case rel => exact ⟨k + 1, by omega, by go_num, hB.drew⟩
      case measure => simp [intOf]; omega
    · go_wp2
      go_ret
      exact ⟨rfl, hB⟩

end Go.Proofs.YtiekcenknniniaaGreatDoor

/-! The laws' own helpers over functions and packages: eqFunc, eqFuncS, eqStringS over texts that can be read, eqPackage. -/
namespace Go.Proofs.YtiekcenknniniaaGreatDoor
open Go.RowKit

set_option maxHeartbeats 1000000 in
set_option maxRecDepth 100000 in
theorem eqFuncC (s : List UInt8) (n : Int) (t : List Nd) (ta tb : Option Addr) (tl ca cb : Nat) (w : World) (ha : NodesIn w ta tl t) (hb : NodesIn w tb tl t) (hlen : tl ≤ 4194304) :
    Calls Tryz.prog 100 #[.agg #[.string ⟨s.toArray⟩, .int .i64 n, .slice ta tl ca], .agg #[.string ⟨s.toArray⟩, .int .i64 n, .slice tb tl cb]] w fun e w' => e = .returned (.bool true) ∧ Below w.heap.size w w' := by
  have h1 : ∀ n : Int, (n != n) = false := by simp
  have h2 : ∀ l : List UInt8, (l != l) = false := by simp
  have hbW : Below w.heap.size w ((w.alloc (.cells #[.string ⟨s.toArray⟩, .int .i64 n, .slice ta tl ca] 85)).alloc (.cells #[.string ⟨s.toArray⟩, .int .i64 n, .slice tb tl cb] 85)) := ((Below.refl _ _).alloc (Nat.le_refl _) _).alloc (by simp) _
  have HC := eqNodeSC ta tb tl ca cb t _ (ha.below hbW) (hb.below hbW) hlen
  clear ha hb
  go_enter Tryz.func100, Tryz.ntmps100
  go_wp2_with fail
  refine HC.mono ?_
  rintro e w1 ⟨rfl, hb1⟩
  have hbd : Below w.heap.size w w1 := hbW.trans (hb1.mono hbW.size)
  clear HC hb1 hbW
  go_wp2
  go_ret
  exact ⟨rfl, hbd⟩

set_option maxHeartbeats 2000000 in
set_option maxRecDepth 100000 in
theorem eqFuncSC (a b : Option Addr) (len ca cb : Nat) (fs : List Fn) (w : World) (ha : FuncsIn w a len fs) (hb : FuncsIn w b len fs) (hlen : len ≤ 4194304) (hsh : ∀ j, (fs.getD j fn0).2.2.length ≤ 4194304) :
    Calls Tryz.prog 64 #[.slice a len ca, .slice b len cb] w fun e w' => e = .returned (.bool true) ∧ Below w.heap.size w w' := by
  have HA : Hid (FuncsIn w a len fs) := ha
  have HB : Hid (FuncsIn w b len fs) := hb
  have HSH : Hid (∀ j, (fs.getD j fn0).2.2.length ≤ 4194304) := hsh
  clear ha hb hsh
  have h1 : ((len : Int) != (len : Int)) = false := by simp
  go_enter Tryz.func64, Tryz.ntmps64
  go_wp2
  go_loopw [5] (fun i wr => ∃ k : Nat, k ≤ len ∧ i = .int .i64 k ∧ Below w.heap.size w wr) (fun i _ => len - (intOf i).toNat)
  case atStart => exact ⟨0, Nat.zero_le _, rfl, Below.refl _ _⟩
  case round =>
    obtain ⟨k, hk, rfl, hB⟩ := hrel
    by_cases hkl : (k : Int) < (len : Int)
    · obtain ⟨b1, o1, rfl, hb1, x0, x1, ta, tl, tc, x2, _, hn1⟩ := (HA.out.below hB).2 k (by omega)
      obtain ⟨b2, o2, rfl, hb2, y0, y1, tb, tl2, tc2, y2, _, hn2⟩ := (HB.out.below hB).2 k (by omega)
      have hts := HSH.out k
      obtain ⟨f, hf⟩ : ∃ f, fs.getD k fn0 = f := ⟨_, rfl⟩
      rw [hf] at x0 x1 y0 y1 hn1 hn2 hts
      obtain ⟨s, n, t⟩ := f
      simp only at x0 x1 y0 y1 hn1 hn2 hts
      obtain rfl : t.length = tl := hn1.1
      obtain rfl : t.length = tl2 := hn2.1
      have hn1' : NodesIn wr.drew ta t.length t := hn1.below ⟨rfl, rfl, rfl, Nat.le_refl _, fun _ _ => rfl⟩
      have hn2' : NodesIn wr.drew tb t.length t := hn2.below ⟨rfl, rfl, rfl, Nat.le_refl _, fun _ _ => rfl⟩
      clear hf hn1 hn2
      go_wp2
      go_region_held3 (fun w' => w'.cell? ⟨b1, o1 + k * 3, none⟩ = some (.string ⟨s.toArray⟩) ∧ w'.cell? ⟨b1, o1 + k * 3 + 1, none⟩ = some (.int .i64 n) ∧ w'.cell? ⟨b1, o1 + k * 3 + 2, none⟩ = some (.slice ta t.length tc) ∧ w'.cell? ⟨b2, o2 + k * 3, none⟩ = some (.string ⟨s.toArray⟩) ∧ w'.cell? ⟨b2, o2 + k * 3 + 1, none⟩ = some (.int .i64 n) ∧ w'.cell? ⟨b2, o2 + k * 3 + 2, none⟩ = some (.slice tb t.length tc2)) (go_keep) (first | (go_at_call 100; refine (eqFuncC s n t ta tb t.length tc tc2 _ hn1' hn2' hts).mono ?_; rintro e w1 ⟨rfl, hw1⟩; have d0 : w1.cell? ⟨b1, o1 + k * 3, none⟩ = some (.string ⟨s.toArray⟩) := (hw1.cell (p := ⟨b1, o1 + k * 3, none⟩) hb1).trans x0; have d1 : w1.cell? ⟨b1, o1 + k * 3 + 1, none⟩ = some (.int .i64 n) := (hw1.cell (p := ⟨b1, o1 + k * 3 + 1, none⟩) hb1).trans x1; have d2 : w1.cell? ⟨b1, o1 + k * 3 + 2, none⟩ = some (.slice ta t.length tc) := (hw1.cell (p := ⟨b1, o1 + k * 3 + 2, none⟩) hb1).trans x2; have e0 : w1.cell? ⟨b2, o2 + k * 3, none⟩ = some (.string ⟨s.toArray⟩) := (hw1.cell (p := ⟨b2, o2 + k * 3, none⟩) hb2).trans y0; have e1 : w1.cell? ⟨b2, o2 + k * 3 + 1, none⟩ = some (.int .i64 n) := (hw1.cell (p := ⟨b2, o2 + k * 3 + 1, none⟩) hb2).trans y1; have e2 : w1.cell? ⟨b2, o2 + k * 3 + 2, none⟩ = some (.slice tb t.length tc2) := (hw1.cell (p := ⟨b2, o2 + k * 3 + 2, none⟩) hb2).trans y2))
      all_goals go_wp2
      go_roundw
      case rel => exact ⟨k + 1, by omega, by go_num, hB.trans ⟨hw1.os, hw1.tape, hw1.output, hw1.size, fun q hq => hw1.block q (by have := hB.size; show q < wr.heap.size; omega)⟩⟩
      case measure => simp [intOf]; omega
    · go_wp2
      go_ret
      exact ⟨rfl, hB⟩

set_option maxHeartbeats 2000000 in
set_option maxRecDepth 100000 in
theorem eqPackageC (nm : List UInt8) (ia ib fa fb : Option Addr) (il ica icb fl fca fcb : Nat) (ims : List (List UInt8)) (fs : List Fn) (w : World) (hia : TextsIn w ia il ims) (hib : TextsIn w ib il ims) (hfa : FuncsIn w fa fl fs) (hfb : FuncsIn w fb fl fs) (hil : il ≤ 4194304) (hfl : fl ≤ 4194304) (hsh : ∀ j, (fs.getD j fn0).2.2.length ≤ 4194304) :
    Calls Tryz.prog 28 #[.agg #[.string ⟨nm.toArray⟩, .slice ia il ica, .slice fa fl fca], .agg #[.string ⟨nm.toArray⟩, .slice ib il icb, .slice fb fl fcb]] w fun e w' => e = .returned (.bool true) ∧ Below w.heap.size w w' := by
  have h2 : ∀ l : List UInt8, (l != l) = false := by simp
  obtain ⟨sa, hBa⟩ := PkIn.new (w := w) (nm := nm) (ic := ica) (fc := fca) hia hfa
  obtain ⟨W1, hW1⟩ : ∃ W, w.alloc (.cells #[.string ⟨nm.toArray⟩, .slice ia il ica, .slice fa fl fca] 52) = W := ⟨_, rfl⟩
  rw [hW1] at sa hBa
  obtain ⟨sb, hBb⟩ := PkIn.new (w := W1) (nm := nm) (ic := icb) (fc := fcb) (hib.below hBa) (hfb.below hBa)
  obtain ⟨W, hW⟩ : ∃ W, W1.alloc (.cells #[.string ⟨nm.toArray⟩, .slice ib il icb, .slice fb fl fcb] 52) = W := ⟨_, rfl⟩
  rw [hW] at sb hBb
  have hs1 : W1.heap.size = w.heap.size + 1 := by rw [← hW1]; simp
  have sa2 := sa.below hBb
  have hB : Below w.heap.size w W := hBa.trans (hBb.mono hBa.size)
  rw [hs1] at sb
  have HC := eqTextsC ia ib il ica icb ims W sa2.i sb.i hil
  have k0 := sa2.k0
  have k1 := sa2.k1
  have k2 := sa2.k2
  have j0 := sb.k0
  have j1 := sb.k1
  have j2 := sb.k2
  clear hia hib hfa hfb sa hBa hBb
  go_enter Tryz.func28, Tryz.ntmps28
  go_wp2_with fail
  refine HC.mono ?_
  rintro e w1 ⟨rfl, hb1⟩
  have ta := sa2.below hb1
  have tb := sb.below hb1
  have HC2 := eqFuncSC fa fb fl fca fcb fs w1 ta.f tb.f hfl hsh
  have hB1 : Below w.heap.size w w1 := hB.trans (hb1.mono hB.size)
  replace k0 := ta.k0
  replace k1 := ta.k1
  replace k2 := ta.k2
  replace j0 := tb.k0
  replace j1 := tb.k1
  replace j2 := tb.k2
  clear HC hb1 sa2 sb hB
  go_wp2_with fail
  refine HC2.mono ?_
  rintro e w2 ⟨rfl, hb2⟩
  have hB2 : Below w.heap.size w w2 := hB1.trans (hb2.mono hB1.size)
  clear HC2 hb2 ta tb hB1 k0 k1 k2 j0 j1 j2
  go_wp2
  go_ret
  exact ⟨rfl, hB2⟩

end Go.Proofs.YtiekcenknniniaaGreatDoor
