/-
  Parts of one proof, one behind the other: PackW, Marks, Marks2, Marks3, TextsL, FnL, PackK.
-/
import Derived.Test.YtaidhjjpdkkmcaaGreatDoorP10
import Derived.Test.YtaidhjjpdkkmcaaGreatDoorP1
import Derived.Test.YtaidhjjpdkkmcaaGreatDoorP4
import Derived.Test.YtaidhjjpdkkmcaaGreatDoorP3
import Derived.Deep.RegionWith
import Derived.SliceStrings
import Derived.ProofKit
import Derived.OpenShut
import Derived.ShutString
import Derived.ChangeOld
import Derived.Below
import Derived.Test.YtaidhjjpdkkmcaaGreatDoorP7
import Derived.Test.YtaidhjjpdkkmcaaGreatDoorP9

/-! What the writing of several blocks leaves; rows that lie apart. -/
namespace Go.Proofs.YtaidhjjpdkkmcaaGreatDoor
open Go.RowKit

/-- Of what was there nothing but the blocks of S was written. -/
structure Wrote (w w' : World) (S : Nat → Prop) : Prop where
 os : w'.os = w.os
 tape : w'.tape = w.tape
 output : w'.output = w.output
 size : w.heap.size ≤ w'.heap.size
 block : ∀ k, k < w.heap.size → ¬ S k → w'.heap[k]? = w.heap[k]?

theorem Wrote.refl (w : World) (S : Nat → Prop) : Wrote w w S := ⟨rfl, rfl, rfl, Nat.le_refl _, fun _ _ _ => rfl⟩
theorem Wrote.trans {a b c : World} {S : Nat → Prop} (h : Wrote a b S) (k : Wrote b c S) : Wrote a c S :=
 ⟨k.os.trans h.os, k.tape.trans h.tape, k.output.trans h.output, Nat.le_trans h.size k.size, fun i hi hs => (k.block i (Nat.lt_of_lt_of_le hi h.size) hs).trans (h.block i hi hs)⟩
theorem Wrote.mono {w w' : World} {S T : Nat → Prop} (h : Wrote w w' S) (hs : ∀ k, S k → T k) : Wrote w w' T := ⟨h.os, h.tape, h.output, h.size, fun k hk hn => h.block k hk (fun e => hn (hs k e))⟩
theorem Wrote.of_grown {w w' : World} {row : Option Nat} {S : Nat → Prop} (h : w.grownBy w' row) (hs : ∀ k, row = some k → S k) : Wrote w w' S :=
 ⟨h.os, h.tape, h.output, h.size, fun k hk hn => h.block k hk (fun e => hn (hs k e.symm))⟩
theorem Wrote.of_below {w w' : World} {S : Nat → Prop} (h : Below w.heap.size w w') : Wrote w w' S := ⟨h.os, h.tape, h.output, h.size, fun k hk _ => h.block k hk⟩
theorem Wrote.below {w w' : World} {S : Nat → Prop} {B : Nat} (h : Wrote w w' S) (hB : B ≤ w.heap.size) (hs : ∀ k, S k → B ≤ k) : Below B w w' :=
 ⟨h.os, h.tape, h.output, h.size, fun k hk => h.block k (Nat.lt_of_lt_of_le hk hB) (fun e => by have := hs k e; omega)⟩
theorem own_wrote {w w' : World} {base e size n : Nat} {v : Value} {xs : List Value} {S : Nat → Prop} (h : w.ownsRow base e size v n xs) (hw : Wrote w w' S) (hv : ∀ k, v.ownBlock = some k → ¬ S k) : w'.ownsRow base e size v n xs := by
 refine ⟨h.1, ?_⟩
 rcases h.2 with hn | ⟨g, cap, cur, rfl, hb, hgg, rest⟩
 ·
  exact .inl hn
 ·
  refine .inr ⟨g, cap, cur, rfl, hb, ?_, rest⟩
  rw [hw.block g (Array.getElem?_eq_some_iff.1 hgg).1 (hv g rfl)]
  exact hgg

/-- The trees lie apart, one by one. -/
def Apart (vs : List Value) : Prop := vs.Pairwise (fun a b => a.ownBlock = none ∨ a.ownBlock ≠ b.ownBlock)
theorem Apart.ne {vs : List Value} (h : Apart vs) {i j : Nat} (hi : i < vs.length) (hj : j < vs.length) (hij : i ≠ j) : vs[i].ownBlock = none ∨ vs[i].ownBlock ≠ vs[j].ownBlock := by
 rcases Nat.lt_or_gt_of_ne hij with hl | hl
 ·
  exact List.pairwise_iff_getElem.1 h i j hi hj hl
 ·
  rcases List.pairwise_iff_getElem.1 h j i hj hi hl with e | e
  ·
   rw [e]; cases vs[i].ownBlock <;> simp
  ·
   exact Or.inr (fun e2 => e e2.symm)

theorem Apart.nil : Apart [] := List.Pairwise.nil
theorem Apart.snoc {vs : List Value} {u : Value} (h : Apart vs) (hu : ∀ v ∈ vs, v.ownBlock = none ∨ v.ownBlock ≠ u.ownBlock) : Apart (vs ++ [u]) :=
 List.pairwise_append.2 ⟨h, List.pairwise_singleton _ _, fun a ha b hb => by rw [List.mem_singleton] at hb; subst hb; exact hu a ha⟩
/-- A row that lies ahead of a place, and one that lies behind it. -/
theorem own_ahead {w w' : World} {b1 b2 e1 e2 s1 s2 n1 n2 : Nat} {v1 v2 : Value} {xs ys : List Value} (h1 : w.ownsRow b1 e1 s1 v1 n1 xs) (h2 : w'.ownsRow b2 e2 s2 v2 n2 ys) (hb : w.heap.size ≤ b2) : v1.ownBlock = none ∨ v1.ownBlock ≠ v2.ownBlock := by
 cases hv : v1.ownBlock with
 | none => exact Or.inl rfl
 | some k =>
  refine Or.inr (fun e => ?_)
  have l1 := (h1.lt k hv).2
  have l2 := (h2.lt k e.symm).1
  omega

end Go.Proofs.YtaidhjjpdkkmcaaGreatDoor

/-! The contracts of the exact laws' own helpers over lists of texts: eqStringS, markStringS, heldStringS, markText. -/
namespace Go.Proofs.YtaidhjjpdkkmcaaGreatDoor
open Go.RowKit

/-- The digits of k ahead of acc. -/
def markGo : Nat → Nat → List UInt8 → List UInt8
 | 0, _, acc => acc
 | f + 1, k, acc => if k = 0 then acc else markGo f (k / 10) ((48 + UInt8.ofNat (k % 10)) :: acc)
def markL (k : Nat) : List UInt8 := 109 :: markGo k k []

theorem markGo_zero (f : Nat) (acc : List UInt8) : markGo f 0 acc = acc := by
 cases f with
 | zero => rfl
 | succ f => simp [markGo]

theorem markGo_step (f k : Nat) (acc : List UInt8) (h : k ≤ f) (hk : 0 < k) : ∃ f', k / 10 ≤ f' ∧ markGo f k acc = markGo f' (k / 10) ((48 + UInt8.ofNat (k % 10)) :: acc) := by
 obtain ⟨f', rfl⟩ : ∃ f', f = f' + 1 := ⟨f - 1, by omega⟩
 refine ⟨f', by omega, ?_⟩
 conv => lhs; unfold markGo
 rw [if_neg (by omega)]

theorem back1d (t : Int) (h2 : 0 ≤ t) (h3 : t ≤ 255) (W : World) :
 (convert 95 9 (.slice (some ⟨W.heap.size, 0, none⟩) 1 1)).run Tryz.prog (W.alloc (.cells #[.int .u8 t] 5)) = .ok (.string ⟨[UInt8.ofNat t.toNat].toArray⟩) (W.alloc (.cells #[.int .u8 t] 5)) := by
 have ht : ((UInt8.ofNat t.toNat).toNat : Int) = t := by
  rw [UInt8.toNat_ofNat']; omega
 have h := run_convert_bytes_back (P := Tryz.prog) (W.alloc (.cells #[.int .u8 t] 5)) 95 9 5 ⟨W.heap.size, 0, none⟩ 1 [UInt8.ofNat t.toNat] Tryz.underlying95 Tryz.underlying5 Tryz.underlying9 (by
  intro j hj
  have hj' : j < 1 := by simpa using hj
  match j, hj' with
  | 0, _ => simp only [List.getElem_cons_zero, ht]; simp [Addr.add, go_sem])
 exact h

set_option maxHeartbeats 1000000 in
set_option maxRecDepth 100000 in
theorem markTextC (k : Nat) (w : World) (h0 : 0 < k) (h1 : k ≤ 40000000) :
 Calls Tryz.prog 27 #[.int .i64 k] w fun e w' => e = .returned (.string ⟨(markL k).toArray⟩) ∧ w.grownBy w' none := by
 have hcat := cat_list
 go_enter Tryz.func27, Tryz.ntmps27
 go_wp2_with fail
 go_loopw [0, 3] (fun i v wr => ∃ f m : Nat, ∃ o : List UInt8, m ≤ f ∧ m ≤ k ∧ o.length + m ≤ k ∧ i = .int .i64 m ∧ v = .string ⟨o.toArray⟩ ∧ markGo f m o = markGo k k [] ∧ w.grownBy wr none) (fun i _ _ => (intOf i).toNat)
 case atStart => exact ⟨k, k, [], Nat.le_refl _, Nat.le_refl _, by simp, rfl, rfl, rfl, World.grownBy.refl _ _⟩
 case round =>
  obtain ⟨f, m, o, hf, hm, hol, rfl, rfl, hgo, hg⟩ := hrel
  by_cases hlt : 0 < m
  ·
   obtain ⟨f', hf', hst⟩ := markGo_step f m o hf hlt
   have HS : Hid (markGo f' (m / 10) ((48 + UInt8.ofNat (m % 10)) :: o) = markGo k k []) := by
    have := hst.symm.trans hgo
    exact this
   clear hst hgo
   have hbk := back1d (48 + (m : Int) % 10) (by omega) (by omega)
   go_wp2
   go_roundw
   case rel =>
    exact ⟨f', m / 10, (48 + UInt8.ofNat (m % 10)) :: o, hf', by omega, by rw [List.length_cons]; omega, by go_num, rfl, HS.out, hg.trans (World.grownBy_alloc _ _ _)⟩
   case measure => simp [intOf]; omega
  ·
   obtain rfl : m = 0 := by omega
   have HE : Hid (o = markGo k k []) := (markGo_zero f o).symm.trans hgo
   go_wp2
   go_ret
   exact ⟨ret_strl (by unfold markL; rw [← HE.out]), hg⟩

end Go.Proofs.YtaidhjjpdkkmcaaGreatDoor

/-! The contracts of the exact laws' own helpers over lists of texts: eqStringS, markStringS, heldStringS. -/
namespace Go.Proofs.YtaidhjjpdkkmcaaGreatDoor
open Go.RowKit

/-- The marks from k on. -/
def marksV (k : Nat) : Nat → List Value
 | 0 => []
 | n + 1 => marksV k n ++ [.string ⟨(markL (k + n)).toArray⟩]

theorem marksV_len (k n : Nat) : (marksV k n).length = n := by
 induction n with
 | zero => rfl
 | succ n ih => simp [marksV, ih]

theorem marks_set (k i : Nat) (xs : List Value) (h : i < xs.length) : (marksV k i ++ xs.drop i).set i (.string ⟨(markL (k + i)).toArray⟩) = marksV k (i + 1) ++ xs.drop (i + 1) := by
 rw [List.set_append, if_neg (by rw [marksV_len]; omega), marksV_len, Nat.sub_self]
 rw [List.drop_eq_getElem_cons h, zB]
 conv => rhs; unfold marksV
 rw [List.append_assoc]; rfl

end Go.Proofs.YtaidhjjpdkkmcaaGreatDoor

/-! The helpers over lists of texts, whatever the list's value: nil, empty or not. -/
namespace Go.Proofs.YtaidhjjpdkkmcaaGreatDoor
open Go.RowKit

set_option maxHeartbeats 400000 in
set_option maxRecDepth 100000 in
theorem markStrNil (w : World) (k0 : Nat) :
 Calls Tryz.prog 28 #[.slice none 0 0, .int .i64 k0] w fun e w' => e = .returned (.int .i64 (k0 : Int)) ∧ w' = w := by
 go_enter Tryz.func28, Tryz.ntmps28
 go_wp2
 refine wp_loop_rounds 1 ?_
 rw [rounds_succ]
 go_wp2
 go_ret
 exact ⟨rfl, rfl⟩

end Go.Proofs.YtaidhjjpdkkmcaaGreatDoor

/-! A list of texts that came in, as the walks take it; the exact laws' helpers over such lists: szStringS, toStringS. -/
namespace Go.Proofs.YtaidhjjpdkkmcaaGreatDoor
open Go.ChangeShapes Go.WideShapes Go.ChangeAt Go.RowKit

def szT (m n : Nat) (left : Int) : Int := if (m : Int) + (n : Int) ≤ left then left - (m : Int) - (n : Int) else -1
theorem szT_yes {m n : Nat} {left : Int} (h : (m : Int) + (n : Int) ≤ left) : szT m n left = left - (m : Int) - (n : Int) := by unfold szT; rw [if_pos h]
theorem szT_no {m n : Nat} {left : Int} (h : ¬ (m : Int) + (n : Int) ≤ left) : szT m n left = -1 := by unfold szT; rw [if_neg h]

/-- How many bytes in all. -/
def joinN (ts : List (List UInt8)) : Nat := ts.flatten.length

theorem joinN_snoc (ts : List (List UInt8)) (k : Nat) (hk : k < ts.length) : joinN (ts.take (k + 1)) = joinN (ts.take k) + (ts.getD k []).length := by
 have := congrArg List.length (flat_snoc ts k hk)
 rw [List.length_append] at this
 exact this

theorem joinN_take (ts : List (List UInt8)) (k : Nat) : joinN (ts.take k) ≤ joinN ts := flat_take ts k

set_option maxHeartbeats 1000000 in
set_option maxRecDepth 100000 in
theorem szStringSC (a : Option Addr) (len cap : Nat) (ts : List (List UInt8)) (left : Int) (w : World) (hin : TextsIn w a len ts) (h0 : 0 ≤ left) (h1 : left ≤ 1048576) (hl : len ≤ maxLen) (hm : ∀ j, (ts.getD j []).length ≤ maxLen) :
 Calls Tryz.prog 32 #[.slice a len cap, .int .i64 left] w fun e w' => e = .returned (.int .i64 (szT len (joinN ts) left)) ∧ w' = w := by
 unfold maxLen at hl
 have hl2 : (len : Int) ≤ 9223372036854775807 := by omega
 have hlb := hin.1
 by_cases h : (len : Int) ≤ left
 ·
  have hlen : len ≤ 1048576 := by omega
  have HI : Hid (TextsIn w a len ts) := hin
  have HM : Hid (∀ j, (ts.getD j []).length ≤ maxLen) := hm
  clear hin hm
  go_enter Tryz.func32, Tryz.ntmps32
  go_wp2
  go_loop [1, 5] (fun l i => ∃ k : Nat, k ≤ len ∧ i = .int .i64 k ∧ l = .int .i64 (left - (len : Int) - (joinN (ts.take k) : Int)) ∧ (joinN (ts.take k) : Int) ≤ left - (len : Int)) (fun _ i => len - (intOf i).toNat)
  case atStart => exact ⟨0, Nat.zero_le _, rfl, by simp [joinN], by simp [joinN]; omega⟩
  case round =>
   obtain ⟨k, hk, rfl, rfl, hle⟩ := hrel
   by_cases hkl : (k : Int) < (len : Int)
   ·
    obtain ⟨b, off, rfl, hbl, hcells⟩ := HI.out.at (by omega)
    have ck := hcells k (by omega)
    have hmk := HM.out k
    have hfs := joinN_snoc ts k (by omega)
    have hft := joinN_take ts (k + 1)
    obtain ⟨t, ht⟩ : ∃ t, ts.getD k [] = t := ⟨_, rfl⟩
    rw [ht] at ck hmk hfs
    unfold maxLen at hmk
    have hmk2 : (t.length : Int) ≤ 9223372036854775807 := by omega
    obtain ⟨m, hmm⟩ : ∃ m, joinN (ts.take k) = m := ⟨_, rfl⟩
    have HS : Hid (joinN (ts.take (k + 1)) = m + t.length) := by rw [← hmm]; exact hfs
    rw [hmm] at hle ⊢
    clear hcells ht hfs
    by_cases hfit : (t.length : Int) ≤ left - (len : Int) - (m : Int)
    ·
     have hge : (0 : Int) ≤ left - (len : Int) - (m : Int) - (t.length : Int) := by omega
     have HR : Hid ((joinN (ts.take (k + 1)) : Int) ≤ left - (len : Int) ∧ left - (len : Int) - (joinN (ts.take (k + 1)) : Int) = left - (len : Int) - (m : Int) - (t.length : Int)) := by
      exact (by rw [HS.out]; omega : (joinN (ts.take (k + 1)) : Int) ≤ left - (len : Int) ∧ left - (len : Int) - (joinN (ts.take (k + 1)) : Int) = left - (len : Int) - (m : Int) - (t.length : Int))
     clear hmm hft
     go_wp2
     go_round
     case rel => exact ⟨k + 1, by omega, by go_num, by rw [HR.out.2], HR.out.1⟩
     case measure => simp [intOf]; omega
    ·
     have HR : Hid (szT len (joinN ts) left = -1) := szT_no (by have := HS.out; omega)
     have hlt : left - (len : Int) - (m : Int) - (t.length : Int) < 0 := by omega
     clear hmm hft
     go_wp2
     go_ret
     exact ⟨by rw [HR.out]; rfl, rfl⟩
   ·
    have HT : Hid (ts.take k = ts) := List.take_of_length_le (by omega)
    have HR : Hid (szT len (joinN ts) left = left - (len : Int) - (joinN (ts.take k) : Int)) := by exact (by rw [HT.out] at hle ⊢; exact szT_yes (by omega) : szT len (joinN ts) left = left - (len : Int) - (joinN (ts.take k) : Int))
    go_wp2
    go_ret
    exact ⟨by rw [HR.out]; rfl, rfl⟩
 ·
  have HR : Hid (szT len (joinN ts) left = -1) := szT_no (by omega)
  clear hin hm
  go_enter Tryz.func32, Tryz.ntmps32
  go_wp2
  go_ret
  exact ⟨by rw [HR.out]; rfl, rfl⟩

theorem made_texts (n : Nat) : (madeCells (Value.cells (.string ⟨#[]⟩)) (n * 1)).toList = strV (List.replicate n []) := by
 have hc : Value.cells (.string ⟨#[]⟩) = #[.string ⟨#[]⟩] := rfl
 rw [hc, Nat.mul_one]
 apply List.ext_getElem?
 intro j
 by_cases hj : j < n
 ·
  rw [strV_at _ j (by simpa using hj)]
  simp [madeCells, hj, Nat.mod_one]
 ·
  rw [List.getElem?_eq_none (by simp [madeCells]; omega), List.getElem?_eq_none (by rw [strV_len]; simp; omega)]

theorem fill_text (ts : List (List UInt8)) (k : Nat) (hk : k < ts.length) : (strV (ts.take k ++ List.replicate (ts.length - k) [])).set k (.string ⟨(ts.getD k []).toArray⟩) = strV (ts.take (k + 1) ++ List.replicate (ts.length - (k + 1)) []) := by
 have hg : ts.getD k [] = ts[k] := by simp [List.getD, hk]
 have e : (ts.take k ++ List.replicate (ts.length - k) []).set k ts[k] = ts.take (k + 1) ++ List.replicate (ts.length - (k + 1)) [] := by
  rw [List.set_append_right _ _ (by rw [List.length_take]; omega), List.length_take, Nat.min_eq_left (by omega), Nat.sub_self, show ts.length - k = (ts.length - (k + 1)) + 1 by omega, List.replicate_succ, zB, List.take_succ_eq_append_getElem hk, List.append_assoc]
  rfl
 rw [hg, ← e]
 unfold strV
 rw [List.map_set]

set_option maxHeartbeats 2000000 in
set_option maxRecDepth 100000 in
theorem toStringSC (a : Option Addr) (len cap : Nat) (ts : List (List UInt8)) (w : World) (hin : TextsIn w a len ts) (hlen : len ≤ 1048576) :
 Calls Tryz.prog 47 #[.slice a len cap] w fun e w' => ∃ v, e = .returned v ∧ w'.ownsRow w.heap.size 9 1 v len (strV ts) ∧ v ≠ .slice none 0 0 ∧ Below w.heap.size w w' := by
 obtain ⟨i0, hi, hz0, hz1, hz2⟩ := info_parts info9
 have hlb := hin.1
 have HI : Hid (TextsIn w a len ts) := hin
 clear hin
 go_enter Tryz.func47, Tryz.ntmps47
 go_wp2_with (at_make; refine wpList_make_full _ rfl _ _ 37 rfl w.heap.size 9 i0 _ 1 Tryz.underlying37 hi hz0 hz1 .i64 .i64 _ _ len rfl rfl rfl rfl (by rw [hz2]; omega) (by unfold maxLen; omega) (Nat.le_refl _) ?_; intro w1 hown1 hgrow1)
 rw [made_texts] at hown1
 have hB1 : Below w.heap.size w w1 := (Below.refl _ _).grown hgrow1 (Nat.le_refl _) (by simp)
 clear hgrow1
 go_loopw [4] (fun i wr => ∃ k : Nat, k ≤ len ∧ i = .int .i64 k ∧ wr.ownsRow w.heap.size 9 1 (.slice (some ⟨w.heap.size, 0, none⟩) len len) len (strV (ts.take k ++ List.replicate (ts.length - k) [])) ∧ Below w.heap.size w wr) (fun i _ => len - (intOf i).toNat)
 case atStart => exact ⟨0, Nat.zero_le _, rfl, by simpa [hlb] using hown1, hB1⟩
 case round =>
  obtain ⟨k, hk, rfl, hown, hB⟩ := hrel
  clear hown1 hB1
  by_cases hkl : (k : Int) < (len : Int)
  ·
   obtain ⟨b, off, rfl, hbl, hcells⟩ := (HI.out.below hB).at (by omega)
   have ck := hcells k (by omega)
   have hst := (hown.stored k (.string ⟨(ts.getD k []).toArray⟩)).1
   rw [fill_text ts k (by omega)] at hst
   obtain ⟨u0, d0⟩ : ∃ u, wr.cell? ⟨w.heap.size, k, none⟩ = some u := by
    rw [hown.cellAt k (by omega), strV_at _ k (by rw [List.length_append, List.length_take, List.length_replicate]; omega)]; exact ⟨_, rfl⟩
   have e0 := hown.frozenAt k
   obtain ⟨t, ht⟩ : ∃ t, ts.getD k [] = t := ⟨_, rfl⟩
   rw [ht] at ck hst
   have hB3 := hB.setCell (p := ⟨w.heap.size, k, none⟩) (Nat.le_refl _) (.string ⟨t.toArray⟩)
   clear hcells ht hown
   go_wp2
   go_roundw
   case rel => exact ⟨k + 1, by omega, by go_num, hst, hB3⟩
   case measure => simp [intOf]; omega
  ·
   have hd : ts.take k ++ List.replicate (ts.length - k) [] = ts := by rw [List.take_of_length_le (by omega), show ts.length - k = 0 by omega]; simp
   rw [hd] at hown
   clear hd
   go_wp2
   go_ret
   exact ⟨_, rfl, hown, by simp, hB⟩

end Go.Proofs.YtaidhjjpdkkmcaaGreatDoor

/-! The laws' own helpers over functions and packages: szFunc, szFuncS, szPackage, eqFunc, eqFuncS, eqStringS, eqPackage. -/
namespace Go.Proofs.YtaidhjjpdkkmcaaGreatDoor
open Go.RowKit

def szM (m : Nat) (left : Int) : Int := if (m : Int) ≤ left then left - (m : Int) else -1
theorem szM_yes {m : Nat} {left : Int} (h : (m : Int) ≤ left) : szM m left = left - (m : Int) := by unfold szM; rw [if_pos h]
theorem szM_no {m : Nat} {left : Int} (h : ¬ (m : Int) ≤ left) : szM m left = -1 := by unfold szM; rw [if_neg h]

def fnSz (f : Fn) : Nat := f.1.length + (f.2.2.length + textsN f.2.2)
def fnsSz : List Fn → Nat
 | [] => 0
 | f :: r => fnSz f + fnsSz r
theorem fnsSz_append (x y : List Fn) : fnsSz (x ++ y) = fnsSz x + fnsSz y := by
 induction x with
 | nil => simp [fnsSz]
 | cons n r ih => simp only [List.cons_append, fnsSz, ih]; omega
theorem fnsSz_snoc (fs : List Fn) (k : Nat) (hk : k < fs.length) : fnsSz (fs.take (k + 1)) = fnsSz (fs.take k) + fnSz (fs.getD k fn0) := by
 have hg : fs.getD k fn0 = fs[k] := by simp [List.getD, hk]
 rw [hg, List.take_succ_eq_append_getElem hk, fnsSz_append]
 simp [fnsSz]
theorem fnsSz_take (fs : List Fn) (k : Nat) : fnsSz (fs.take k) ≤ fnsSz fs := by
 have := fnsSz_append (fs.take k) (fs.drop k)
 rw [List.take_append_drop] at this
 omega
theorem fnsSz_at (fs : List Fn) (j : Nat) : fnSz (fs.getD j fn0) ≤ fnsSz fs := by
 by_cases hj : j < fs.length
 ·
  have h1 := fnsSz_snoc fs j hj
  have h2 := fnsSz_take fs (j + 1)
  omega
 ·
  have : fs.getD j fn0 = fn0 := by rw [List.getD, List.getElem?_eq_none (by omega)]; rfl
  rw [this]; simp [fn0, fnSz, textsN]

/-- How much a package has in all. -/
def pkSz (nm : List UInt8) (ims : List (List UInt8)) (fs : List Fn) : Nat := nm.length + (ims.length + joinN ims) + (fs.length + fnsSz fs)

def LongF (fs : List Fn) : Prop := ∀ j, (fs.getD j fn0).1.length ≤ maxLen ∧ (fs.getD j fn0).2.2.length ≤ maxLen ∧ LongT (fs.getD j fn0).2.2

theorem shortF_of {fs : List Fn} (h : fnsSz fs ≤ 1048576) : ShortF fs := fun j => by
 have h1 := fnsSz_at fs j
 unfold fnSz at h1
 exact ⟨by omega, by omega, short_of (by omega)⟩

set_option maxHeartbeats 1000000 in
set_option maxRecDepth 100000 in
theorem szFuncC (s : List UInt8) (n : Int) (t : List Nd) (ta : Option Addr) (tl tc : Nat) (left : Int) (w : World) (hin : NodesIn w ta tl t) (h0 : 0 ≤ left) (h1 : left ≤ 1048576) (hs : s.length ≤ maxLen) (ht : t.length ≤ maxLen) (hm : LongT t) :
 Calls Tryz.prog 71 #[.agg #[.string ⟨s.toArray⟩, .int .i64 n, .slice ta tl tc], .int .i64 left] w fun e w' => e = .returned (.int .i64 (szM (fnSz (s, n, t)) left)) ∧ Below w.heap.size w w' := by
 obtain rfl : t.length = tl := hin.1
 unfold maxLen at hs
 have hs2 : (s.length : Int) ≤ 9223372036854775807 := by omega
 obtain ⟨W, hW⟩ : ∃ W, w.alloc (.cells #[.string ⟨s.toArray⟩, .int .i64 n, .slice ta t.length tc] 104) = W := ⟨_, rfl⟩
 have hbW : Below w.heap.size w W := by rw [← hW]; exact (Below.refl _ _).alloc (Nat.le_refl _) _
 have hA : W.heap[w.heap.size]? = some (.cells #[.string ⟨s.toArray⟩, .int .i64 n, .slice ta t.length tc] 104) := by rw [← hW]; exact heap_alloc_new w _
 have k0 : W.cell? ⟨w.heap.size, 0, none⟩ = some (.string ⟨s.toArray⟩) := by simp [World.cell?, hA]
 have k2 : W.cell? ⟨w.heap.size, 2, none⟩ = some (.slice ta t.length tc) := by simp [World.cell?, hA]
 have hinW := hin.below hbW
 clear hin hA
 by_cases hfit : (s.length : Int) ≤ left
 ·
  have HC := szNodeSC ta t.length tc t (left - (s.length : Int)) W hinW (by omega) (by omega) ht hm
  by_cases hfit2 : (t.length : Int) + (textsN t : Int) ≤ left - (s.length : Int)
  ·
   have HZ : Hid (szN t.length (textsN t) (left - (s.length : Int)) = szM (fnSz (s, n, t)) left) := by exact (by rw [szN_yes hfit2, szM_yes (by unfold fnSz; simp only; omega)]; unfold fnSz; simp only; omega : szN t.length (textsN t) (left - (s.length : Int)) = szM (fnSz (s, n, t)) left)
   have hge : 0 ≤ szM (fnSz (s, n, t)) left := by rw [← HZ.out, szN_yes hfit2]; omega
   have hge2 : 0 ≤ left - (s.length : Int) := by omega
   rw [HZ.out] at HC
   generalize szM (fnSz (s, n, t)) left = z at HC hge ⊢
   clear HZ
   go_enter Tryz.func71, Tryz.ntmps71
   go_wp2_with fail
   refine HC.mono ?_
   rintro e w1 ⟨rfl, hb1⟩
   have hb : Below w.heap.size w w1 := hbW.trans (hb1.mono hbW.size)
   clear HC hb1
   go_wp2
   go_ret
   exact ⟨rfl, hb⟩
  ·
   have HZ : Hid (szN t.length (textsN t) (left - (s.length : Int)) = -1) := szN_no hfit2
   have HR : Hid (szM (fnSz (s, n, t)) left = -1) := szM_no (by unfold fnSz; simp only; omega)
   have hge2 : 0 ≤ left - (s.length : Int) := by omega
   rw [HZ.out] at HC
   go_enter Tryz.func71, Tryz.ntmps71
   go_wp2_with fail
   refine HC.mono ?_
   rintro e w1 ⟨rfl, hb1⟩
   have hb : Below w.heap.size w w1 := hbW.trans (hb1.mono hbW.size)
   clear HC hb1
   go_wp2
   go_ret
   exact ⟨by rw [HR.out]; rfl, hb⟩
 ·
  have HR : Hid (szM (fnSz (s, n, t)) left = -1) := szM_no (by unfold fnSz; simp only; omega)
  have hlt : left - (s.length : Int) < 0 := by omega
  go_enter Tryz.func71, Tryz.ntmps71
  go_wp2
  go_ret
  exact ⟨by rw [HR.out]; rfl, hbW⟩

set_option maxHeartbeats 2000000 in
set_option maxRecDepth 100000 in
theorem szFuncSC (a : Option Addr) (len cap : Nat) (fs : List Fn) (left : Int) (w : World) (hin : FuncsIn w a len fs) (h0 : 0 ≤ left) (h1 : left ≤ 1048576) (hl : len ≤ maxLen) (hm : LongF fs) :
 Calls Tryz.prog 33 #[.slice a len cap, .int .i64 left] w fun e w' => e = .returned (.int .i64 (szM (len + fnsSz fs) left)) ∧ Below w.heap.size w w' := by
 unfold maxLen at hl
 have hl2 : (len : Int) ≤ 9223372036854775807 := by omega
 have hlb := hin.1
 by_cases h : (len : Int) ≤ left
 ·
  have hlen : len ≤ 1048576 := by omega
  have HI : Hid (FuncsIn w a len fs) := hin
  have HM : Hid (LongF fs) := hm
  clear hin hm
  go_enter Tryz.func33, Tryz.ntmps33
  go_wp2
  go_loopw [1, 5] (fun l i wr => ∃ k : Nat, k ≤ len ∧ i = .int .i64 k ∧ l = .int .i64 (left - (len : Int) - (fnsSz (fs.take k) : Int)) ∧ (fnsSz (fs.take k) : Int) ≤ left - (len : Int) ∧ Below w.heap.size w wr) (fun _ i _ => len - (intOf i).toNat)
  case atStart => exact ⟨0, Nat.zero_le _, rfl, by simp [fnsSz], by simp [fnsSz]; omega, Below.refl _ _⟩
  case round =>
   obtain ⟨k, hk, rfl, rfl, hle, hB⟩ := hrel
   by_cases hkl : (k : Int) < (len : Int)
   ·
    obtain ⟨b, off, rfl, hbl, c0, c1, ta, tl, tc, c2, hnc, hnin⟩ := (HI.out.below hB).2 k (by omega)
    have hmk := HM.out k
    have hst := fnsSz_snoc fs k (by omega)
    have htt := fnsSz_take fs (k + 1)
    obtain ⟨f, hf⟩ : ∃ f, fs.getD k fn0 = f := ⟨_, rfl⟩
    rw [hf] at c0 c1 hmk hst hnin
    obtain ⟨s, n, t⟩ := f
    simp only at c0 c1 hmk hnin
    obtain ⟨m, hmm⟩ : ∃ m, fnsSz (fs.take k) = m := ⟨_, rfl⟩
    rw [hmm] at hle hst ⊢
    obtain ⟨z, hz⟩ : ∃ z, fnSz (s, n, t) = z := ⟨_, rfl⟩
    have HC := szFuncC s n t ta tl tc (left - (len : Int) - (m : Int)) wr hnin (by omega) (by omega) hmk.1 hmk.2.1 hmk.2.2
    rw [hz] at hst HC
    have HS : Hid (fnsSz (fs.take (k + 1)) = m + z) := hst
    clear hst hf hmm hz hnin hnc
    by_cases hfit : (z : Int) ≤ left - (len : Int) - (m : Int)
    ·
     have HZ : Hid (szM z (left - (len : Int) - (m : Int)) = left - (len : Int) - (fnsSz (fs.take (k + 1)) : Int)) := by
      exact (by rw [HS.out, szM_yes (by omega)]; omega : szM z (left - (len : Int) - (m : Int)) = left - (len : Int) - (fnsSz (fs.take (k + 1)) : Int))
     rw [HZ.out] at HC
     go_wp2_with fail
     refine HC.mono ?_
     rintro e w1 ⟨rfl, hb1⟩
     have hle2 : (fnsSz (fs.take (k + 1)) : Int) ≤ left - (len : Int) := by rw [HS.out]; omega
     have hge : (0 : Int) ≤ left - (len : Int) - (fnsSz (fs.take (k + 1)) : Int) := by omega
     clear HC
     go_wp2
     go_roundw
     case rel => exact ⟨k + 1, by omega, by go_num, rfl, hle2, hB.trans (hb1.mono hB.size)⟩
     case measure => simp [intOf]; omega
    ·
     have HZ : Hid (szM z (left - (len : Int) - (m : Int)) = -1) := szM_no (by omega)
     have HR : Hid (szM (len + fnsSz fs) left = -1) := szM_no (by have := HS.out; omega)
     rw [HZ.out] at HC
     go_wp2_with fail
     refine HC.mono ?_
     rintro e w1 ⟨rfl, hb1⟩
     clear HC
     go_wp2
     go_ret
     exact ⟨by rw [HR.out]; rfl, hB.trans (hb1.mono hB.size)⟩
   ·
    have HT : Hid (fs.take k = fs) := List.take_of_length_le (by omega)
    have HR : Hid (szM (len + fnsSz fs) left = left - (len : Int) - (fnsSz (fs.take k) : Int)) := by exact (by rw [HT.out] at hle ⊢; rw [szM_yes (by omega)]; omega : szM (len + fnsSz fs) left = left - (len : Int) - (fnsSz (fs.take k) : Int))
    go_wp2
    go_ret
    exact ⟨by rw [HR.out]; rfl, hB⟩
 ·
  have HR : Hid (szM (len + fnsSz fs) left = -1) := szM_no (by omega)
  clear hin hm
  go_enter Tryz.func33, Tryz.ntmps33
  go_wp2
  go_ret
  exact ⟨by rw [HR.out]; rfl, Below.refl _ _⟩

set_option maxHeartbeats 2000000 in
set_option maxRecDepth 100000 in
theorem szPackageC (nm : List UInt8) (ia : Option Addr) (il ic : Nat) (fa : Option Addr) (fl fc : Nat) (ims : List (List UInt8)) (fs : List Fn) (left : Int) (w : World) (hi : TextsIn w ia il ims) (hf : FuncsIn w fa fl fs) (h0 : 0 ≤ left) (h1 : left ≤ 1048576) (hnm : nm.length ≤ maxLen) (hil : il ≤ maxLen) (him : ∀ j, (ims.getD j []).length ≤ maxLen) (hfl : fl ≤ maxLen) (hfm : LongF fs) :
 Calls Tryz.prog 13 #[.agg #[.string ⟨nm.toArray⟩, .slice ia il ic, .slice fa fl fc], .int .i64 left] w fun e w' => e = .returned (.int .i64 (szM (pkSz nm ims fs) left)) ∧ Below w.heap.size w w' := by
 obtain rfl : ims.length = il := hi.1
 obtain rfl : fs.length = fl := hf.1
 unfold maxLen at hnm
 have hs2 : (nm.length : Int) ≤ 9223372036854775807 := by omega
 obtain ⟨W, hW⟩ : ∃ W, w.alloc (.cells #[.string ⟨nm.toArray⟩, .slice ia ims.length ic, .slice fa fs.length fc] 40) = W := ⟨_, rfl⟩
 have hbW : Below w.heap.size w W := by rw [← hW]; exact (Below.refl _ _).alloc (Nat.le_refl _) _
 have hA : W.heap[w.heap.size]? = some (.cells #[.string ⟨nm.toArray⟩, .slice ia ims.length ic, .slice fa fs.length fc] 40) := by rw [← hW]; exact heap_alloc_new w _
 have k0 : W.cell? ⟨w.heap.size, 0, none⟩ = some (.string ⟨nm.toArray⟩) := by simp [World.cell?, hA]
 have k1 : W.cell? ⟨w.heap.size, 1, none⟩ = some (.slice ia ims.length ic) := by simp [World.cell?, hA]
 have k2 : W.cell? ⟨w.heap.size, 2, none⟩ = some (.slice fa fs.length fc) := by simp [World.cell?, hA]
 have hlt : w.heap.size < W.heap.size := by rw [← hW]; simp
 have hiW := hi.below hbW
 have hfW := hf.below hbW
 have hpk : pkSz nm ims fs = nm.length + (ims.length + joinN ims) + (fs.length + fnsSz fs) := rfl
 clear hi hf hA
 by_cases hfit : (nm.length : Int) ≤ left
 ·
  have hge1 : 0 ≤ left - (nm.length : Int) := by omega
  have HC := szStringSC ia ims.length ic ims (left - (nm.length : Int)) W hiW (by omega) (by omega) hil him
  by_cases hfit2 : (ims.length : Int) + (joinN ims : Int) ≤ left - (nm.length : Int)
  ·
   rw [szT_yes hfit2] at HC
   have hge2 : 0 ≤ left - (nm.length : Int) - (ims.length : Int) - (joinN ims : Int) := by omega
   have HC2 := szFuncSC fa fs.length fc fs (left - (nm.length : Int) - (ims.length : Int) - (joinN ims : Int)) W hfW (by omega) (by omega) hfl hfm
   by_cases hfit3 : ((fs.length + fnsSz fs : Nat) : Int) ≤ left - (nm.length : Int) - (ims.length : Int) - (joinN ims : Int)
   ·
    have HZ : Hid (szM (fs.length + fnsSz fs) (left - (nm.length : Int) - (ims.length : Int) - (joinN ims : Int)) = szM (pkSz nm ims fs) left) := by exact (by rw [szM_yes hfit3, szM_yes (by rw [hpk]; omega), hpk]; omega : szM (fs.length + fnsSz fs) (left - (nm.length : Int) - (ims.length : Int) - (joinN ims : Int)) = szM (pkSz nm ims fs) left)
    have hge : 0 ≤ szM (pkSz nm ims fs) left := by rw [← HZ.out, szM_yes hfit3]; omega
    rw [HZ.out] at HC2
    generalize szM (pkSz nm ims fs) left = z at HC2 hge ⊢
    generalize left - (nm.length : Int) - (ims.length : Int) - (joinN ims : Int) = y at HC HC2 hge2
    clear HZ hfit3 hfit2
    go_enter Tryz.func13, Tryz.ntmps13
    go_wp2_with fail
    refine HC.mono ?_
    rintro e w1 ⟨rfl, rfl⟩
    go_wp2_with fail
    refine HC2.mono ?_
    rintro e w2 ⟨rfl, hb2⟩
    have hb : Below w.heap.size w w2 := hbW.trans (hb2.mono hbW.size)
    clear HC HC2 hb2
    go_wp2
    go_ret
    exact ⟨rfl, hb⟩
   ·
    have HR : Hid (szM (pkSz nm ims fs) left = -1) := szM_no (by rw [hpk]; omega)
    rw [szM_no hfit3] at HC2
    generalize left - (nm.length : Int) - (ims.length : Int) - (joinN ims : Int) = y at HC HC2 hge2
    clear hfit3 hfit2
    go_enter Tryz.func13, Tryz.ntmps13
    go_wp2_with fail
    refine HC.mono ?_
    rintro e w1 ⟨rfl, rfl⟩
    go_wp2_with fail
    refine HC2.mono ?_
    rintro e w2 ⟨rfl, hb2⟩
    have hb : Below w.heap.size w w2 := hbW.trans (hb2.mono hbW.size)
    clear HC HC2 hb2
    go_wp2
    go_ret
    exact ⟨by rw [HR.out]; rfl, hb⟩
  ·
   have HR : Hid (szM (pkSz nm ims fs) left = -1) := szM_no (by rw [hpk]; omega)
   rw [szT_no hfit2] at HC
   go_enter Tryz.func13, Tryz.ntmps13
   go_wp2_with fail
   refine HC.mono ?_
   rintro e w1 ⟨rfl, rfl⟩
   clear HC
   go_wp2
   go_ret
   exact ⟨by rw [HR.out]; rfl, hbW⟩
 ·
  have HR : Hid (szM (pkSz nm ims fs) left = -1) := szM_no (by rw [hpk]; omega)
  have hlt2 : left - (nm.length : Int) < 0 := by omega
  clear hpk
  go_enter Tryz.func13, Tryz.ntmps13
  go_wp2
  go_ret
  exact ⟨by rw [HR.out]; rfl, hbW⟩

end Go.Proofs.YtaidhjjpdkkmcaaGreatDoor

/-! What the landed functions of chapter 7 are told of a package; what the laws hold. -/
namespace Go.Proofs.YtaidhjjpdkkmcaaGreatDoor
open Go.RowKit

def IntF (fs : List Fn) : Prop := ∀ j, (-9223372036854775808 ≤ (fs.getD j fn0).2.1 ∧ (fs.getD j fn0).2.1 ≤ 9223372036854775807) ∧ IntT (fs.getD j fn0).2.2

/-- What the landed functions are told of a package that they are handed. -/
structure PkOk (w : World) (nm : List UInt8) (ia : Option Addr) (il ic : Nat) (fa : Option Addr) (fl fc : Nat) (ims : List (List UInt8)) (fs : List Fn) : Prop where
 i : TextsIn w ia il ims
 f : FuncsIn w fa fl fs
 ic : ia = none → ic = 0
 fc : (fa = none → fc = 0) ∧ fl ≤ fc
 int : IntF fs
 il : il ≤ 1048576
 fl : fl ≤ 1048576
 nm : nm.length ≤ 1048576
 is : ∀ i, (ims.getD i []).length ≤ 1048576
 fs : ShortF fs

theorem PkOk.below {w w' : World} {nm : List UInt8} {ia : Option Addr} {il ic : Nat} {fa : Option Addr} {fl fc : Nat} {ims : List (List UInt8)} {fs : List Fn} (h : PkOk w nm ia il ic fa fl fc ims fs) (hb : Below w.heap.size w w') : PkOk w' nm ia il ic fa fl fc ims fs :=
 ⟨h.i.below hb, h.f.below hb, h.ic, h.fc, h.int, h.il, h.fl, h.nm, h.is, h.fs⟩

theorem own_texts0 {w : World} {base n : Nat} {v : Value} {ts : List (List UInt8)} (h : w.ownsRow base 9 1 v n (strV ts)) : ∃ a c, v = .slice a n c ∧ (a = none → c = 0) ∧ TextsIn w a n ts := by
 obtain ⟨_, a, c, rfl, hin⟩ := own_texts h
 refine ⟨a, c, rfl, fun e => ?_, hin⟩
 rcases own_forms h with ⟨e2, _, _⟩ | ⟨g, cp, e2⟩
 ·
  injection e2
 ·
  injection e2 with e3; rw [e] at e3; cases e3

/-- A package small enough: every bound. -/
theorem pk_small {nm : List UInt8} {ims : List (List UInt8)} {fs : List Fn} (h : pkSz nm ims fs ≤ 1048576) : ims.length ≤ 1048576 ∧ fs.length ≤ 1048576 ∧ nm.length ≤ 1048576 ∧ (∀ i, (ims.getD i []).length ≤ 1048576) ∧ ShortF fs := by
 unfold pkSz at h
 refine ⟨by omega, by omega, by omega, fun i => ?_, shortF_of (by omega)⟩
 have h1 := part_le ims i
 have h2 : joinN ims = ims.flatten.length := rfl
 omega

/-- Three cells of a block. -/
structure Box3 (V : World) (k : Nat) (a b c : Value) : Prop where
 c0 : V.cell? ⟨k, 0, none⟩ = some a
 c1 : V.cell? ⟨k, 1, none⟩ = some b
 c2 : V.cell? ⟨k, 2, none⟩ = some c

theorem Box3.lt {V : World} {k : Nat} {a b c : Value} (h : Box3 V k a b c) : k < V.heap.size := World.block_lt_of_cell? V ⟨k, 0, none⟩ h.c0
theorem Box3.keep {V V' : World} {k : Nat} {a b c : Value} (h : Box3 V k a b c) (hb : V'.heap[k]? = V.heap[k]?) : Box3 V' k a b c :=
 ⟨(World.cell?_of_block (a := ⟨k, 0, none⟩) hb).trans h.c0, (World.cell?_of_block (a := ⟨k, 1, none⟩) hb).trans h.c1, (World.cell?_of_block (a := ⟨k, 2, none⟩) hb).trans h.c2⟩
theorem Box3.below {V V' : World} {k : Nat} {a b c : Value} (h : Box3 V k a b c) (hb : Below V.heap.size V V') : Box3 V' k a b c := h.keep (hb.block k h.lt)
theorem Box3.wrote {V V' : World} {k : Nat} {a b c : Value} {S : Nat → Prop} (h : Box3 V k a b c) (hw : Wrote V V' S) (hk : ¬ S k) : Box3 V' k a b c := h.keep (hw.block k h.lt hk)
theorem Box3.grown {V V' : World} {k : Nat} {a b c : Value} {row : Option Nat} (h : Box3 V k a b c) (hg : V.grownBy V' row) (hk : some k ≠ row) : Box3 V' k a b c := h.keep (hg.block k h.lt hk)
theorem Box3.drew {V : World} {k : Nat} {a b c : Value} (h : Box3 V k a b c) : Box3 V.drew k a b c := ⟨h.c0, h.c1, h.c2⟩
theorem Box3.new (V : World) (a b c : Value) (t : TypeId) : Box3 (V.alloc (.cells #[a, b, c] t)) V.heap.size a b c ∧ Below V.heap.size V (V.alloc (.cells #[a, b, c] t)) := by
 have hb : Below V.heap.size V (V.alloc (.cells #[a, b, c] t)) := (Below.refl _ _).alloc (Nat.le_refl _) _
 have hA := heap_alloc_new V (.cells #[a, b, c] t)
 generalize V.alloc (.cells #[a, b, c] t) = W at hb hA ⊢
 exact ⟨⟨by simp [World.cell?, hA], by simp [World.cell?, hA], by simp [World.cell?, hA]⟩, hb⟩

/-- A package that a call owns can be read. -/
theorem own_pk {w : World} {base : Nat} {vi vf : Value} {ims : List (List UInt8)} {xs : List FV} {fs : List Fn} (hoi : w.ownsRow base 9 1 vi ims.length (strV ims)) (hof : FnsOwn w base vf xs) (hxs : xs.map (·.1) = fs) :
 ∃ ai ci af cf, vi = .slice ai ims.length ci ∧ vf = .slice af fs.length cf ∧ (ai = none → ci = 0) ∧ ((af = none → cf = 0) ∧ fs.length ≤ cf) ∧ TextsIn w ai ims.length ims ∧ FuncsIn w af fs.length fs := by
 obtain ⟨ai, ci, rfl, hic, hit⟩ := own_texts0 hoi
 obtain ⟨af, cf, rfl, hfc, hif⟩ := hof.in
 have hl : xs.length = fs.length := by rw [← hxs, List.length_map]
 have hcp : fs.length ≤ cf := by
  rcases hof.row.2 with ⟨e, h0⟩ | ⟨g, cap, cur, e, _, _, hc, _⟩
  ·
   rw [← hl, h0]; exact Nat.zero_le _
  ·
   injection e with _ _ e3
   rw [e3, ← hl]; exact hc
 rw [hxs, hl] at hif
 exact ⟨ai, ci, af, cf, rfl, by rw [hl], hic, ⟨hfc, hcp⟩, hit, hif⟩

end Go.Proofs.YtaidhjjpdkkmcaaGreatDoor
