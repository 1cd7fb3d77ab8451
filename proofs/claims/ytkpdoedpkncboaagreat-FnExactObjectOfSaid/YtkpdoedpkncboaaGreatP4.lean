/-
  Parts of one proof, one behind the other: NodeL, PackC2, PackS5, PackO, PackW, Marks, Marks2, Marks3, TextsL.
-/
import Derived.Test.YtkpdoedpkncboaaGreatP3
import Derived.Test.YtkpdoedpkncboaaGreatP2
import Derived.Test.YtkpdoedpkncboaaGreatP1
import Derived.Deep.RegionWith
import Derived.SliceStrings
import Derived.ProofKit
import Derived.OpenShut
import Derived.ShutString
import Derived.ChangeOld
import Derived.Below
namespace Go.Proofs.YtkpdoedpkncboaaGreat
open Go.RowKit
def zaR : List Nd → Nat
 | [] => 0
 | n :: r => n.2.2.1.length + n.2.2.2.length + zaR r
theorem zdr (x y : List Nd) : zaR (x ++ y) = zaR x + zaR y := by
 induction x with
 | nil => simp [zaR]
 | cons n r ih => simp only [List.cons_append, zaR, ih]; omega
theorem zep (ns : List Nd) (k : Nat) (hk : k < ns.length) : zaR (ns.take (k + 1)) = zaR (ns.take k) + ((ns.getD k nd0).2.2.1.length + (ns.getD k nd0).2.2.2.length) := by
 have hg : ns.getD k nd0 = ns[k] := by simp [List.getD, hk]
 rw [hg, List.take_succ_eq_append_getElem hk, zdr]
 simp [zaR]
theorem zeo (ns : List Nd) (k : Nat) : zaR (ns.take k) ≤ zaR ns := by
 have := zdr (ns.take k) (ns.drop k)
 rw [List.take_append_drop] at this
 omega
theorem zjV (ns : List Nd) (j : Nat) : (ns.getD j nd0).2.2.1.length + (ns.getD j nd0).2.2.2.length ≤ zaR ns := by
 by_cases hj : j < ns.length
 ·
  have h1 := zep ns j hj
  have h2 := zeo ns (j + 1)
  omega
 ·
  have : ns.getD j nd0 = nd0 := by rw [List.getD, List.getElem?_eq_none (by omega)]; rfl
  rw [this]; simp [nd0]
theorem short_of {ns : List Nd} (h : zaR ns ≤ 1048576) : zam ns := fun j => by have := zjV ns j; omega
def szN (m n : Nat) (left : Int) : Int := if (m : Int) + (n : Int) ≤ left then left - (m : Int) - (n : Int) else -1
theorem zeq {m n : Nat} {left : Int} (h : (m : Int) + (n : Int) ≤ left) : szN m n left = left - (m : Int) - (n : Int) := by unfold szN; rw [if_pos h]
theorem zfG {m n : Nat} {left : Int} (h : ¬ (m : Int) + (n : Int) ≤ left) : szN m n left = -1 := by unfold szN; rw [if_neg h]
def IntN (n : Nd) : Prop := (-9223372036854775808 ≤ n.1 ∧ n.1 ≤ 9223372036854775807) ∧ (-9223372036854775808 ≤ n.2.1 ∧ n.2.1 ≤ 9223372036854775807)
def IntT (ns : List Nd) : Prop := ∀ j, IntN (ns.getD j nd0)
theorem ziD : IntN nd0 := by unfold IntN nd0; decide
theorem IntT.nil : IntT [] := fun j => by rw [show ([] : List Nd).getD j nd0 = nd0 by simp]; exact ziD
def zht (ns : List Nd) : Prop := ∀ j, (ns.getD j nd0).2.2.1.length ≤ maxLen ∧ (ns.getD j nd0).2.2.2.length ≤ maxLen
set_option maxHeartbeats 400000 in
set_option maxRecDepth 100000 in
theorem zjZ (k a left : Int) (p f : List UInt8) (w : World) (h0 : 0 ≤ left) (h1 : left ≤ 1048576) (hp : p.length ≤ maxLen) (hf : f.length ≤ maxLen) :
 Calls Tryz.prog 92 #[.agg #[.int .i64 k, .int .i64 a, .string ⟨p.toArray⟩, .string ⟨f.toArray⟩], .int .i64 left] w fun e w' => e = .returned (.int .i64 (szN p.length f.length left)) ∧ Below w.heap.size w w' := by
 unfold maxLen at hp hf
 have hp2 : (p.length : Int) ≤ 9223372036854775807 := by omega
 have hf2 : (f.length : Int) ≤ 9223372036854775807 := by omega
 by_cases hA : (p.length : Int) ≤ left
 ·
  by_cases hC : (p.length : Int) + (f.length : Int) ≤ left
  ·
   have HS : Hid (szN p.length f.length left = left - (p.length : Int) - (f.length : Int)) := zeq hC
   go_enter Tryz.func92, Tryz.ntmps92
   go_wp2
   go_ret
   exact ⟨by rw [HS.out]; rfl, (Below.refl _ w).alloc (Nat.le_refl _) _⟩
  ·
   have HS : Hid (szN p.length f.length left = -1) := zfG hC
   go_enter Tryz.func92, Tryz.ntmps92
   go_wp2
   go_ret
   exact ⟨by rw [HS.out]; rfl, (Below.refl _ w).alloc (Nat.le_refl _) _⟩
 ·
  have HS : Hid (szN p.length f.length left = -1) := zfG (by omega)
  go_enter Tryz.func92, Tryz.ntmps92
  go_wp2
  go_ret
  exact ⟨by rw [HS.out]; rfl, (Below.refl _ w).alloc (Nat.le_refl _) _⟩
set_option maxHeartbeats 1000000 in
set_option maxRecDepth 100000 in
theorem szNodeSC (a : Option Addr) (len cap : Nat) (ns : List Nd) (left : Int) (w : World) (hin : za4 w a len ns) (h0 : 0 ≤ left) (h1 : left ≤ 1048576) (hl : len ≤ maxLen) (hm : zht ns) :
 Calls Tryz.prog 60 #[.slice a len cap, .int .i64 left] w fun e w' => e = .returned (.int .i64 (szN len (zaR ns) left)) ∧ Below w.heap.size w w' := by
 unfold maxLen at hl
 have hl2 : (len : Int) ≤ 9223372036854775807 := by omega
 have hlb := hin.1
 by_cases h : (len : Int) ≤ left
 ·
  have hlen : len ≤ 1048576 := by omega
  have HI : Hid (za4 w a len ns) := hin
  have HM : Hid (zht ns) := hm
  clear hin hm
  go_enter Tryz.func60, Tryz.ntmps60
  go_wp2
  go_loopw [1, 5] (fun l i wr => ∃ k : Nat, k ≤ len ∧ i = .int .i64 k ∧ l = .int .i64 (left - (len : Int) - (zaR (ns.take k) : Int)) ∧ (zaR (ns.take k) : Int) ≤ left - (len : Int) ∧ Below w.heap.size w wr) (fun _ i _ => len - (intOf i).toNat)
  case atStart => exact ⟨0, Nat.zero_le _, rfl, by simp [zaR], by simp [zaR]; omega, Below.refl _ _⟩
  case round =>
   obtain ⟨k, hk, rfl, rfl, hle, hB⟩ := hrel
   by_cases hkl : (k : Int) < (len : Int)
   ·
    obtain ⟨b, off, rfl, hbl, hcells⟩ := (HI.out.below hB).at (by omega)
    obtain ⟨c0, c1, c2, c3⟩ := hcells k (by omega)
    have hmk := HM.out k
    have hst := zep ns k (by omega)
    have htt := zeo ns (k + 1)
    obtain ⟨n, hn⟩ : ∃ n, ns.getD k nd0 = n := ⟨_, rfl⟩
    rw [hn] at c0 c1 c2 c3 hmk hst
    obtain ⟨kd, aa, p, f⟩ := n
    simp only at c0 c1 c2 c3 hmk hst
    obtain ⟨m, hmm⟩ : ∃ m, zaR (ns.take k) = m := ⟨_, rfl⟩
    rw [hmm] at hle hst ⊢
    have HS : Hid (zaR (ns.take (k + 1)) = m + (p.length + f.length)) := hst
    clear hst hn hcells hmm
    by_cases hfit : (p.length : Int) + (f.length : Int) ≤ left - (len : Int) - (m : Int)
    ·
     have HZ : Hid (szN p.length f.length (left - (len : Int) - (m : Int)) = left - (len : Int) - (zaR (ns.take (k + 1)) : Int)) := by
      exact (by rw [HS.out, zeq (by omega)]; omega : szN p.length f.length (left - (len : Int) - (m : Int)) = left - (len : Int) - (zaR (ns.take (k + 1)) : Int))
     go_wp2_with fail
     refine (zjZ kd aa _ p f _ (by omega) (by omega) hmk.1 hmk.2).mono ?_
     rintro e w1 ⟨rfl, hb1⟩
     rw [HZ.out]
     have hle2 : (zaR (ns.take (k + 1)) : Int) ≤ left - (len : Int) := by rw [HS.out]; omega
     have hge : (0 : Int) ≤ left - (len : Int) - (zaR (ns.take (k + 1)) : Int) := by omega
     go_wp2
     go_roundw
     case rel => exact ⟨k + 1, by omega, by go_num, rfl, hle2, hB.trans (hb1.mono hB.size)⟩
     case measure => simp [intOf]; omega
    ·
     have HZ : Hid (szN p.length f.length (left - (len : Int) - (m : Int)) = -1) := zfG (by omega)
     have HR : Hid (szN len (zaR ns) left = -1) := zfG (by have := HS.out; omega)
     go_wp2_with fail
     refine (zjZ kd aa _ p f _ (by omega) (by omega) hmk.1 hmk.2).mono ?_
     rintro e w1 ⟨rfl, hb1⟩
     rw [HZ.out]
     go_wp2
     go_ret
     exact ⟨by rw [HR.out]; rfl, hB.trans (hb1.mono hB.size)⟩
   ·
    have HT : Hid (ns.take k = ns) := List.take_of_length_le (by omega)
    have HR : Hid (szN len (zaR ns) left = left - (len : Int) - (zaR (ns.take k) : Int)) := by exact (by rw [HT.out] at hle ⊢; exact zeq (by omega) : szN len (zaR ns) left = left - (len : Int) - (zaR (ns.take k) : Int))
    go_wp2
    go_ret
    exact ⟨by rw [HR.out]; rfl, hB⟩
 ·
  have HR : Hid (szN len (zaR ns) left = -1) := zfG (by omega)
  clear hin hm
  go_enter Tryz.func60, Tryz.ntmps60
  go_wp2
  go_ret
  exact ⟨by rw [HR.out]; rfl, Below.refl _ _⟩
set_option maxHeartbeats 400000 in
set_option maxRecDepth 100000 in
theorem toNodeC (k a : Int) (p f : List UInt8) (w : World) :
 Calls Tryz.prog 99 #[.agg #[.int .i64 k, .int .i64 a, .string ⟨p.toArray⟩, .string ⟨f.toArray⟩]] w fun e w' => e = .returned (.agg #[.int .i64 k, .int .i64 a, .string ⟨p.toArray⟩, .string ⟨f.toArray⟩]) ∧ Below w.heap.size w w' := by
 go_enter Tryz.func99, Tryz.ntmps99
 go_wp2
 refine bodyPost_ret (v := .agg #[.int .i64 k, .int .i64 a, .string ⟨p.toArray⟩, .string ⟨f.toArray⟩]) (by simp [results, Tryz.results99, go_sem]) rfl ?_
 exact ⟨rfl, (((Below.refl _ w).alloc (Nat.le_refl _) _).alloc (by simp) _).alloc (by simp; omega) _⟩
theorem zfN (ns : List Nd) (j : Nat) (k a : Int) (p f : List UInt8) : ((((za0 ns).set (j * 4) (.int .i64 k)).set (j * 4 + 1) (.int .i64 a)).set (j * 4 + 2) (.string ⟨p.toArray⟩)).set (j * 4 + 3) (.string ⟨f.toArray⟩) = za0 (ns.set j (k, a, p, f)) := by
 induction ns generalizing j with
 | nil => simp [za0]
 | cons b r ih =>
  cases j with
  | zero => simp [za0]
  | succ j => rw [show (j + 1) * 4 = j * 4 + 1 + 1 + 1 + 1 by omega]; simp [za0, ih]
theorem zjt (n : Nat) : (madeCells (Value.agg #[.int .i64 0, .int .i64 0, .string ⟨#[]⟩, .string ⟨#[]⟩]).cells (n * 4)).toList = za0 (List.replicate n nd0) := by
 have hc : (Value.agg #[.int .i64 0, .int .i64 0, .string ⟨#[]⟩, .string ⟨#[]⟩]).cells = #[.int .i64 0, .int .i64 0, .string ⟨#[]⟩, .string ⟨#[]⟩] := rfl
 rw [hc]
 apply List.ext_getElem?
 intro j
 by_cases hj : j < n * 4
 ·
  obtain ⟨v0, v1, v2, v3⟩ := zcv (List.replicate n nd0) (j / 4) (by simp; omega)
  have hg : (List.replicate n nd0).getD (j / 4) nd0 = nd0 := by simp [List.getD, List.getElem?_replicate]; split <;> rfl
  rw [hg] at v0 v1 v2 v3
  have h4 : j % 4 = 0 ∨ j % 4 = 1 ∨ j % 4 = 2 ∨ j % 4 = 3 := by omega
  rcases h4 with h' | h' | h' | h'
  ·
   have ej : j = j / 4 * 4 := by omega
   rw [← ej] at v0
   rw [v0]
   simp [madeCells, hj, h', nd0]
  ·
   have ej : j = j / 4 * 4 + 1 := by omega
   rw [← ej] at v1
   rw [v1]
   simp [madeCells, hj, h', nd0]
  ·
   have ej : j = j / 4 * 4 + 2 := by omega
   rw [← ej] at v2
   rw [v2]
   simp [madeCells, hj, h', nd0]
  ·
   have ej : j = j / 4 * 4 + 3 := by omega
   rw [← ej] at v3
   rw [v3]
   simp [madeCells, hj, h', nd0]
 ·
  rw [List.getElem?_eq_none (by simp [madeCells]; omega), List.getElem?_eq_none (by rw [zd5]; simp; omega)]
theorem zlR (ns : List Nd) (k : Nat) (hk : k < ns.length) : (ns.take k ++ List.replicate (ns.length - k) nd0).set k (ns.getD k nd0) = ns.take (k + 1) ++ List.replicate (ns.length - (k + 1)) nd0 := by
 have hg : ns.getD k nd0 = ns[k] := by simp [List.getD, hk]
 rw [hg, List.set_append_right _ _ (by rw [List.length_take]; omega), List.length_take, Nat.min_eq_left (by omega), Nat.sub_self, show ns.length - k = (ns.length - (k + 1)) + 1 by omega, List.replicate_succ, zB, List.take_succ_eq_append_getElem hk, List.append_assoc]
 rfl
set_option maxHeartbeats 2000000 in
set_option maxRecDepth 100000 in
theorem toNodeSC (a : Option Addr) (len cap : Nat) (ns : List Nd) (w : World) (hin : za4 w a len ns) (hlen : len ≤ 1048576) :
 Calls Tryz.prog 71 #[.slice a len cap] w fun e w' => ∃ v, e = .returned v ∧ w'.ownsRow w.heap.size 90 4 v len (za0 ns) ∧ v ≠ .slice none 0 0 ∧ Below w.heap.size w w' := by
 obtain ⟨i0, hi, hz0, hz1, hz2⟩ := info_parts zd8
 have hlb := hin.1
 have HI : Hid (za4 w a len ns) := hin
 clear hin
 go_enter Tryz.func71, Tryz.ntmps71
 go_wp2_with (at_make; refine wpList_make_full _ rfl _ _ 46 rfl w.heap.size 90 i0 _ 4 Tryz.underlying46 hi hz0 hz1 .i64 .i64 _ _ len rfl rfl rfl rfl (by rw [hz2]; omega) (by unfold maxLen; omega) (Nat.le_refl _) ?_; intro w1 hown1 hgrow1)
 rw [zjt] at hown1
 have hB1 : Below w.heap.size w w1 := (Below.refl _ _).grown hgrow1 (Nat.le_refl _) (by simp)
 clear hgrow1
 go_loopw [4] (fun i wr => ∃ k : Nat, k ≤ len ∧ i = .int .i64 k ∧ wr.ownsRow w.heap.size 90 4 (.slice (some ⟨w.heap.size, 0, none⟩) len len) len (za0 (ns.take k ++ List.replicate (ns.length - k) nd0)) ∧ Below w.heap.size w wr) (fun i _ => len - (intOf i).toNat)
 case atStart => exact ⟨0, Nat.zero_le _, rfl, by simpa [hlb] using hown1, hB1⟩
 case round =>
  obtain ⟨k, hk, rfl, hown, hB⟩ := hrel
  clear hown1 hB1
  by_cases hkl : (k : Int) < (len : Int)
  ·
   obtain ⟨b, off, rfl, hbl, hcells⟩ := (HI.out.below hB).at (by omega)
   obtain ⟨c0, c1, c2, c3⟩ := hcells k (by omega)
   have hfs := zlR ns k (by omega)
   obtain ⟨x, hx⟩ : ∃ x, ns.getD k nd0 = x := ⟨_, rfl⟩
   rw [hx] at c0 c1 c2 c3 hfs
   obtain ⟨kd, aa, p, f⟩ := x
   simp only at c0 c1 c2 c3
   have HF : Hid ((ns.take k ++ List.replicate (ns.length - k) nd0).set k (kd, aa, p, f) = ns.take (k + 1) ++ List.replicate (ns.length - (k + 1)) nd0) := hfs
   have HOW : Hid (wr.ownsRow w.heap.size 90 4 (.slice (some ⟨w.heap.size, 0, none⟩) len len) len (za0 (ns.take k ++ List.replicate (ns.length - k) nd0))) := hown
   clear hx hcells hfs hown
   go_wp2_with fail
   refine (toNodeC kd aa p f _).mono ?_
   rintro e w2 ⟨rfl, hb2⟩
   have hown2 := za2 HOW.out hb2
   have hl2 : (ns.take k ++ List.replicate (ns.length - k) nd0).length = len := by rw [List.length_append, List.length_take, List.length_replicate]; omega
   obtain ⟨v0, v1, v2, v3⟩ := zcv (ns.take k ++ List.replicate (ns.length - k) nd0) k (by omega)
   obtain ⟨u0, d0⟩ : ∃ u, w2.cell? ⟨w.heap.size, k * 4, none⟩ = some u := by
    rw [hown2.cellAt (k * 4) (by omega), v0]; exact ⟨_, rfl⟩
   obtain ⟨u1, d1⟩ : ∃ u, w2.cell? ⟨w.heap.size, k * 4 + 1, none⟩ = some u := by
    rw [hown2.cellAt (k * 4 + 1) (by omega), v1]; exact ⟨_, rfl⟩
   obtain ⟨u2, d2⟩ : ∃ u, w2.cell? ⟨w.heap.size, k * 4 + 2, none⟩ = some u := by
    rw [hown2.cellAt (k * 4 + 2) (by omega), v2]; exact ⟨_, rfl⟩
   obtain ⟨u3, d3⟩ : ∃ u, w2.cell? ⟨w.heap.size, k * 4 + 3, none⟩ = some u := by
    rw [hown2.cellAt (k * 4 + 3) (by omega), v3]; exact ⟨_, rfl⟩
   have e0 := hown2.frozenAt (k * 4)
   have e1 := hown2.frozenAt (k * 4 + 1)
   have e2 := hown2.frozenAt (k * 4 + 2)
   have e3 := hown2.frozenAt (k * 4 + 3)
   have hs1 := hown2.stored (k * 4) (.int .i64 kd)
   have hs2 := hs1.1.stored (k * 4 + 1) (.int .i64 aa)
   have hs3 := hs2.1.stored (k * 4 + 2) (.string ⟨p.toArray⟩)
   have hs4 := hs3.1.stored (k * 4 + 3) (.string ⟨f.toArray⟩)
   have hnew := hs4.1
   rw [zfN, HF.out] at hnew
   have hB2 : Below w.heap.size w w2 := hB.trans (hb2.mono hB.size)
   have hB3 := (((hB2.setCell (p := ⟨w.heap.size, k * 4, none⟩) (Nat.le_refl _) (.int .i64 kd)).setCell (p := ⟨w.heap.size, k * 4 + 1, none⟩) (Nat.le_refl _) (.int .i64 aa)).setCell (p := ⟨w.heap.size, k * 4 + 2, none⟩) (Nat.le_refl _) (.string ⟨p.toArray⟩)).setCell (p := ⟨w.heap.size, k * 4 + 3, none⟩) (Nat.le_refl _) (.string ⟨f.toArray⟩)
   clear hown2 hs1 hs2 hs3 hs4 hl2 v0 v1 v2 v3
   go_wp2
   go_roundw
   case rel => exact ⟨k + 1, by omega, by go_num, hnew, hB3⟩
   case measure => simp [intOf]; omega
  ·
   have hd : ns.take k ++ List.replicate (ns.length - k) nd0 = ns := by rw [List.take_of_length_le (by omega), show ns.length - k = 0 by omega]; simp
   rw [hd] at hown
   clear hd
   go_wp2
   go_ret
   exact ⟨_, rfl, hown, by simp, hB⟩
set_option maxHeartbeats 400000 in
set_option maxRecDepth 100000 in
theorem eqNodeC (k a : Int) (p f : List UInt8) (w : World) :
 Calls Tryz.prog 134 #[.agg #[.int .i64 k, .int .i64 a, .string ⟨p.toArray⟩, .string ⟨f.toArray⟩], .agg #[.int .i64 k, .int .i64 a, .string ⟨p.toArray⟩, .string ⟨f.toArray⟩]] w fun e w' => e = .returned (.bool true) ∧ Below w.heap.size w w' := by
 have h1 : ∀ n : Int, (n != n) = false := by simp
 have h2 : ∀ l : List UInt8, (l != l) = false := by simp
 go_enter Tryz.func134, Tryz.ntmps134
 go_wp2
 go_ret
 exact ⟨rfl, ((Below.refl _ w).alloc (Nat.le_refl _) _).alloc (by simp) _⟩
set_option maxHeartbeats 2000000 in
set_option maxRecDepth 100000 in
theorem eqNodeSC (a b : Option Addr) (len ca cb : Nat) (ns : List Nd) (w : World) (ha : za4 w a len ns) (hb : za4 w b len ns) (hlen : len ≤ 4194304) :
 Calls Tryz.prog 91 #[.slice a len ca, .slice b len cb] w fun e w' => e = .returned (.bool true) ∧ Below w.heap.size w w' := by
 have hlb := ha.1
 have HA : Hid (za4 w a len ns) := ha
 have HB : Hid (za4 w b len ns) := hb
 clear ha hb
 have h1 : ((len : Int) != (len : Int)) = false := by simp
 go_enter Tryz.func91, Tryz.ntmps91
 go_wp2
 go_loopw [5] (fun i wr => ∃ k : Nat, k ≤ len ∧ i = .int .i64 k ∧ Below w.heap.size w wr) (fun i _ => len - (intOf i).toNat)
 case atStart => exact ⟨0, Nat.zero_le _, rfl, Below.refl _ _⟩
 case round =>
  obtain ⟨k, hk, rfl, hB⟩ := hrel
  by_cases hkl : (k : Int) < (len : Int)
  ·
   obtain ⟨b1, o1, rfl, hb1, hc1⟩ := (HA.out.below hB).at (by omega)
   obtain ⟨b2, o2, rfl, hb2, hc2⟩ := (HB.out.below hB).at (by omega)
   obtain ⟨x0, x1, x2, x3⟩ := hc1 k (by omega)
   obtain ⟨y0, y1, y2, y3⟩ := hc2 k (by omega)
   obtain ⟨x, hx⟩ : ∃ x, ns.getD k nd0 = x := ⟨_, rfl⟩
   rw [hx] at x0 x1 x2 x3 y0 y1 y2 y3
   obtain ⟨kd, aa, p, f⟩ := x
   simp only at x0 x1 x2 x3 y0 y1 y2 y3
   clear hx hc1 hc2
   go_wp2
   go_region_held3 (fun w' => w'.cell? ⟨b1, o1 + k * 4, none⟩ = some (.int .i64 kd) ∧ w'.cell? ⟨b1, o1 + k * 4 + 1, none⟩ = some (.int .i64 aa) ∧ w'.cell? ⟨b1, o1 + k * 4 + 2, none⟩ = some (.string ⟨p.toArray⟩) ∧ w'.cell? ⟨b1, o1 + k * 4 + 3, none⟩ = some (.string ⟨f.toArray⟩) ∧ w'.cell? ⟨b2, o2 + k * 4, none⟩ = some (.int .i64 kd) ∧ w'.cell? ⟨b2, o2 + k * 4 + 1, none⟩ = some (.int .i64 aa) ∧ w'.cell? ⟨b2, o2 + k * 4 + 2, none⟩ = some (.string ⟨p.toArray⟩) ∧ w'.cell? ⟨b2, o2 + k * 4 + 3, none⟩ = some (.string ⟨f.toArray⟩)) (go_keep) (first | (go_at_call 134; refine (eqNodeC kd aa p f _).mono ?_; rintro e w1 ⟨rfl, hw1⟩; have d0 : w1.cell? ⟨b1, o1 + k * 4, none⟩ = some (.int .i64 kd) := (hw1.cell (p := ⟨b1, o1 + k * 4, none⟩) hb1).trans x0; have d1 : w1.cell? ⟨b1, o1 + k * 4 + 1, none⟩ = some (.int .i64 aa) := (hw1.cell (p := ⟨b1, o1 + k * 4 + 1, none⟩) hb1).trans x1; have d2 : w1.cell? ⟨b1, o1 + k * 4 + 2, none⟩ = some (.string ⟨p.toArray⟩) := (hw1.cell (p := ⟨b1, o1 + k * 4 + 2, none⟩) hb1).trans x2; have d3 : w1.cell? ⟨b1, o1 + k * 4 + 3, none⟩ = some (.string ⟨f.toArray⟩) := (hw1.cell (p := ⟨b1, o1 + k * 4 + 3, none⟩) hb1).trans x3; have e0 : w1.cell? ⟨b2, o2 + k * 4, none⟩ = some (.int .i64 kd) := (hw1.cell (p := ⟨b2, o2 + k * 4, none⟩) hb2).trans y0; have e1 : w1.cell? ⟨b2, o2 + k * 4 + 1, none⟩ = some (.int .i64 aa) := (hw1.cell (p := ⟨b2, o2 + k * 4 + 1, none⟩) hb2).trans y1; have e2 : w1.cell? ⟨b2, o2 + k * 4 + 2, none⟩ = some (.string ⟨p.toArray⟩) := (hw1.cell (p := ⟨b2, o2 + k * 4 + 2, none⟩) hb2).trans y2; have e3 : w1.cell? ⟨b2, o2 + k * 4 + 3, none⟩ = some (.string ⟨f.toArray⟩) := (hw1.cell (p := ⟨b2, o2 + k * 4 + 3, none⟩) hb2).trans y3))
   all_goals go_wp2
   go_roundw
   case rel => exact ⟨k + 1, by omega, by go_num, hB.trans ⟨hw1.os, hw1.tape, hw1.output, hw1.size, fun q hq => hw1.block q (by have := hB.size; show q < wr.heap.size; omega)⟩⟩
   case measure => simp [intOf]; omega
  ·
   go_wp2
   go_ret
   exact ⟨rfl, hB⟩

theorem set3 {X : World} {R : Nat} {a0 a1 a2 : Value} (u0 u1 u2 : Value) (r0 : X.cell? ⟨R, 0, none⟩ = some a0) (r1 : X.cell? ⟨R, 1, none⟩ = some a1) (r2 : X.cell? ⟨R, 2, none⟩ = some a2) :
 ∃ Y, ((X.setCell ⟨R, 0, none⟩ u0).setCell ⟨R, 1, none⟩ u1).setCell ⟨R, 2, none⟩ u2 = Y ∧ Y.cell? ⟨R, 0, none⟩ = some u0 ∧ Y.cell? ⟨R, 1, none⟩ = some u1 ∧ Y.cell? ⟨R, 2, none⟩ = some u2 ∧ X.grownBy Y (some R) := by
 refine ⟨_, rfl, ?_, ?_, ?_, ?_⟩
 ·
  exact (World.cell?_setCell_other _ _ _ _ (by simp)).trans ((World.cell?_setCell_other _ _ _ _ (by simp)).trans (World.cell?_setCell_same _ _ _ r0))
 ·
  exact (World.cell?_setCell_other _ _ _ _ (by simp)).trans (World.cell?_setCell_same _ _ _ ((World.cell?_setCell_other _ _ _ _ (by simp)).trans r1))
 ·
  exact World.cell?_setCell_same _ _ _ ((World.cell?_setCell_other _ _ _ _ (by simp)).trans ((World.cell?_setCell_other _ _ _ _ (by simp)).trans r2))
 ·
  exact ((zcJ _ _ _ _).trans (zcJ _ _ _ _)).trans (zcJ _ _ _ _)
theorem zhy {X W : World} {R : Nat} {u0 u1 u2 : Value} {T : TypeId} (hX : Below W.heap.size W X) (hlt : R < W.heap.size) (hR : W.heap[R]? = some (.cells #[u0, u1, u2] T)) :
 X.cell? ⟨R, 0, none⟩ = some u0 ∧ X.cell? ⟨R, 1, none⟩ = some u1 ∧ X.cell? ⟨R, 2, none⟩ = some u2 ∧ ∀ j, X.frozen? ⟨R, j, none⟩ = false := by
 have e := (hX.block R hlt).trans hR
 clear hX hR
 exact ⟨by simp [World.cell?, e], by simp [World.cell?, e], by simp [World.cell?, e], fun j => by simp [World.frozen?, e]⟩
theorem zcs {w : World} {base e size n R : Nat} {v : Value} {xs : List Value} (h : w.ownsRow base e size v n xs) (hR : R < base) : v.ownBlock = none ∨ v.ownBlock ≠ some R := by
 rcases hv : v.ownBlock with _ | k
 ·
  exact Or.inl rfl
 ·
  refine Or.inr (fun e => ?_)
  have := (h.lt k hv).1
  injection e with e
  omega
abbrev FV := Fn × Option Addr × Nat
def fvT (x : FV) : Value := .slice x.2.1 x.1.2.2.length x.2.2
def fnsV : List FV → List Value
 | [] => []
 | x :: r => .string ⟨x.1.1.toArray⟩ :: .int .i64 x.1.2.1 :: fvT x :: fnsV r
def fv0 : FV := (fn0, none, 0)
theorem fnsV_len (xs : List FV) : (fnsV xs).length = xs.length * 3 := by
 induction xs with
 | nil => rfl
 | cons n r ih => simp only [fnsV, List.length_cons, ih]; omega
theorem zi4 (x y : List FV) : fnsV (x ++ y) = fnsV x ++ fnsV y := by
 induction x with
 | nil => rfl
 | cons n r ih => simp [fnsV, ih]
theorem fnsV_one (xs : List FV) : ∀ u ∈ fnsV xs, u.oneCell' = true := by
 induction xs with
 | nil => intro u hu; cases hu
 | cons n r ih =>
  intro u hu
  simp only [fnsV, List.mem_cons] at hu
  rcases hu with rfl | rfl | rfl | h
  ·
   rfl
  ·
   rfl
  ·
   rfl
  ·
   exact ih u h
theorem zeT (xs : List FV) (j : Nat) (hj : j < xs.length) : (fnsV xs)[j * 3]? = some (.string ⟨(xs.getD j fv0).1.1.toArray⟩) ∧ (fnsV xs)[j * 3 + 1]? = some (.int .i64 (xs.getD j fv0).1.2.1) ∧ (fnsV xs)[j * 3 + 2]? = some (fvT (xs.getD j fv0)) := by
 induction xs generalizing j with
 | nil => simp at hj
 | cons n r ih =>
  cases j with
  | zero => simp [fnsV]
  | succ j =>
   obtain ⟨h0, h1, h2⟩ := ih j (by simpa using hj)
   refine ⟨?_, ?_, ?_⟩
   ·
    rw [show (j + 1) * 3 = j * 3 + 1 + 1 + 1 by omega]; simpa [fnsV] using h0
   ·
    rw [show (j + 1) * 3 + 1 = j * 3 + 1 + 1 + 1 + 1 by omega]; simpa [fnsV] using h1
   ·
    rw [show (j + 1) * 3 + 2 = j * 3 + 2 + 1 + 1 + 1 by omega]; simpa [fnsV] using h2
theorem zah {w : World} {b1 b2 e1 e2 s1 s2 n1 n2 : Nat} {v1 v2 : Value} {xs ys : List Value} (h1 : w.ownsRow b1 e1 s1 v1 n1 xs) (h2 : w.ownsRow b2 e2 s2 v2 n2 ys) (he : e1 ≠ e2) : v1.ownBlock = none ∨ v1.ownBlock ≠ v2.ownBlock := by
 rcases h1.2 with ⟨rfl, _⟩ | ⟨g, c, cur, rfl, _, hg, _⟩
 ·
  exact Or.inl rfl
 ·
  rcases h2.2 with ⟨rfl, _⟩ | ⟨g2, c2, cur2, rfl, _, hg2, _⟩
  ·
   exact Or.inr (by simp [Value.ownBlock])
  ·
   refine Or.inr (fun e => ?_)
   simp only [Value.ownBlock, Option.some.injEq] at e
   subst e
   rw [hg] at hg2
   simp only [Option.some.injEq, Obj.cells.injEq] at hg2
   exact he hg2.2.1
structure zas (w : World) (base : Nat) (v : Value) (xs : List FV) : Prop where
 row : w.ownsRow base 48 3 v xs.length (fnsV xs)
 trees : ∀ x ∈ xs, w.ownsRow base 90 4 (fvT x) x.1.2.2.length (za0 x.1.2.2)
theorem zas.below {w w' : World} {base : Nat} {v : Value} {xs : List FV} (h : zas w base v xs) (hb : Below w.heap.size w w') : zas w' base v xs := ⟨za2 h.row hb, fun x hx => za2 (h.trees x hx) hb⟩
theorem zas.kept {w w' : World} {base : Nat} {v : Value} {xs : List FV} {row : Option Nat} (h : zas w base v xs) (hg : w.grownBy w' row) (h1 : v.ownBlock = none ∨ v.ownBlock ≠ row) (h2 : ∀ x ∈ xs, (fvT x).ownBlock = none ∨ (fvT x).ownBlock ≠ row) : zas w' base v xs :=
 ⟨h.row.kept hg h1, fun x hx => (h.trees x hx).kept hg (h2 x hx)⟩
theorem zas.base {w : World} {base b2 : Nat} {v : Value} {xs : List FV} (h : zas w base v xs) (hb : b2 ≤ base) : zas w b2 v xs := ⟨zaj h.row hb, fun x hx => zaj (h.trees x hx) hb⟩
theorem zas.nil (w : World) (base : Nat) : zas w base (.slice none 0 0) [] := ⟨World.ownsRow_nil w _ _ _, fun x hx => by cases hx⟩
theorem zcK (xs : List FV) (j : Nat) : (xs.map (·.1)).getD j fn0 = (xs.getD j fv0).1 := by
 rw [List.getD_eq_getElem?_getD, List.getD_eq_getElem?_getD, List.getElem?_map]
 cases xs[j]? <;> rfl
theorem zas.in {w : World} {base : Nat} {v : Value} {xs : List FV} (h : zas w base v xs) : ∃ a cap, v = .slice a xs.length cap ∧ (a = none → cap = 0) ∧ zav w a xs.length (xs.map (·.1)) := by
 rcases zar h.row with ⟨rfl, h0, _⟩ | ⟨g, cp, rfl⟩
 ·
  exact ⟨none, 0, by rw [h0], fun _ => rfl, by simp, fun j hj => by omega⟩
 ·
  refine ⟨some ⟨g, 0, none⟩, cp, rfl, fun e => (by cases e), by simp, fun j hj => ?_⟩
  obtain ⟨v0, v1, v2⟩ := zeT xs j hj
  have hc := fun k (hk : k < xs.length * 3) => World.ownsRow.cellAt h.row k hk
  have hmem : xs.getD j fv0 ∈ xs := by rw [List.getD_eq_getElem?_getD, List.getElem?_eq_getElem hj]; exact List.getElem_mem hj
  obtain ⟨hl, a, cap, e, hn⟩ := zaq (h.trees _ hmem)
  refine ⟨g, 0, rfl, (h.row.lt g rfl).2, ?_, ?_, (xs.getD j fv0).2.1, (xs.getD j fv0).1.2.2.length, (xs.getD j fv0).2.2, ?_, ?_, ?_⟩
  ·
   rw [Nat.zero_add, hc _ (by omega), v0, zcK]
  ·
   rw [Nat.zero_add, hc _ (by omega), v1, zcK]
  ·
   rw [Nat.zero_add, hc _ (by omega), v2]; rfl
  ·
   intro e2
   rcases zar (h.trees _ hmem) with ⟨e3, _⟩ | ⟨g3, cp3, e3⟩
   ·
    unfold fvT at e3; injection e3
   ·
    unfold fvT at e3; rw [e2] at e3; injection e3 with e4; cases e4
  ·
   rw [zcK]
   unfold fvT at e
   injection e with e1 e2 e3
   rw [e1]; exact hn
theorem ziF : (Tryz.prog.info? 48).map (fun i => (i.zero, i.size, i.bytes)) = some (some (.agg #[.string ⟨#[]⟩, .int .i64 0, .slice none 0 0]), 3, 48) := by kernel_rfl
theorem new_fn (w : World) (x : FV) (c : Nat) : Src (w.alloc (.cells #[.string ⟨x.1.1.toArray⟩, .int .i64 x.1.2.1, fvT x] 48)) (.slice (some ⟨w.heap.size, 0, none⟩) 1 c) 1 3 (fnsV [x]) := by
 refine ⟨rfl, fnsV_one _, Or.inr ⟨_, c, rfl, fun j u hu => ?_⟩⟩
 rw [zdC, Nat.zero_add]
 match j, hu with
 | 0, hu => simp [fnsV] at hu; subst hu; simp
 | 1, hu => simp [fnsV] at hu; subst hu; simp
 | 2, hu => simp [fnsV] at hu; subst hu; simp
 | j + 3, hu => simp [fnsV] at hu
theorem new_str (w : World) (x : List UInt8) (c : Nat) : Src (w.alloc (.cells #[.string ⟨x.toArray⟩] 9)) (.slice (some ⟨w.heap.size, 0, none⟩) 1 c) 1 1 (strV [x]) := by
 refine ⟨rfl, fun u hu => ?_, Or.inr ⟨_, c, rfl, fun j u hu => ?_⟩⟩
 ·
  simp [strV] at hu; subst hu; rfl
 rw [zdC, Nat.zero_add]
 match j, hu with
 | 0, hu => simp [strV] at hu; subst hu; simp
 | j + 1, hu => simp [strV] at hu
section
variable {X Y w : World} {D P B gL : Nat} {ls : List (List UInt8)} {nm : List UInt8} {ims : List (List UInt8)} {xs : List FV} {ia : Option Addr} {ic : Nat} {fa : Option Addr} {fc : Nat}
end
structure zb4 (w w' : World) (S : Nat → Prop) : Prop where
 os : w'.os = w.os
 tape : w'.tape = w.tape
 output : w'.output = w.output
 size : w.heap.size ≤ w'.heap.size
 block : ∀ k, k < w.heap.size → ¬ S k → w'.heap[k]? = w.heap[k]?
theorem zb4.refl (w : World) (S : Nat → Prop) : zb4 w w S := ⟨rfl, rfl, rfl, Nat.le_refl _, fun _ _ _ => rfl⟩
theorem zb4.trans {a b c : World} {S : Nat → Prop} (h : zb4 a b S) (k : zb4 b c S) : zb4 a c S :=
 ⟨k.os.trans h.os, k.tape.trans h.tape, k.output.trans h.output, Nat.le_trans h.size k.size, fun i hi hs => (k.block i (Nat.lt_of_lt_of_le hi h.size) hs).trans (h.block i hi hs)⟩
theorem zb4.mono {w w' : World} {S T : Nat → Prop} (h : zb4 w w' S) (hs : ∀ k, S k → T k) : zb4 w w' T := ⟨h.os, h.tape, h.output, h.size, fun k hk hn => h.block k hk (fun e => hn (hs k e))⟩
theorem zb4.of_grown {w w' : World} {row : Option Nat} {S : Nat → Prop} (h : w.grownBy w' row) (hs : ∀ k, row = some k → S k) : zb4 w w' S :=
 ⟨h.os, h.tape, h.output, h.size, fun k hk hn => h.block k hk (fun e => hn (hs k e.symm))⟩
theorem zb4.of_below {w w' : World} {S : Nat → Prop} (h : Below w.heap.size w w') : zb4 w w' S := ⟨h.os, h.tape, h.output, h.size, fun k hk _ => h.block k hk⟩
theorem zb4.below {w w' : World} {S : Nat → Prop} {B : Nat} (h : zb4 w w' S) (hB : B ≤ w.heap.size) (hs : ∀ k, S k → B ≤ k) : Below B w w' :=
 ⟨h.os, h.tape, h.output, h.size, fun k hk => h.block k (Nat.lt_of_lt_of_le hk hB) (fun e => by have := hs k e; omega)⟩
theorem zbH {w w' : World} {base e size n : Nat} {v : Value} {xs : List Value} {S : Nat → Prop} (h : w.ownsRow base e size v n xs) (hw : zb4 w w' S) (hv : ∀ k, v.ownBlock = some k → ¬ S k) : w'.ownsRow base e size v n xs := by
 refine ⟨h.1, ?_⟩
 rcases h.2 with hn | ⟨g, cap, cur, rfl, hb, hgg, rest⟩
 ·
  exact .inl hn
 ·
  refine .inr ⟨g, cap, cur, rfl, hb, ?_, rest⟩
  rw [hw.block g (Array.getElem?_eq_some_iff.1 hgg).1 (hv g rfl)]
  exact hgg
def zc5 (vs : List Value) : Prop := vs.Pairwise (fun a b => a.ownBlock = none ∨ a.ownBlock ≠ b.ownBlock)
theorem zc5.ne {vs : List Value} (h : zc5 vs) {i j : Nat} (hi : i < vs.length) (hj : j < vs.length) (hij : i ≠ j) : vs[i].ownBlock = none ∨ vs[i].ownBlock ≠ vs[j].ownBlock := by
 rcases Nat.lt_or_gt_of_ne hij with hl | hl
 ·
  exact List.pairwise_iff_getElem.1 h i j hi hj hl
 ·
  rcases List.pairwise_iff_getElem.1 h j i hj hi hl with e | e
  ·
   rw [e]; cases vs[i].ownBlock <;> simp
  ·
   exact Or.inr (fun e2 => e e2.symm)
theorem zc5.nil : zc5 [] := List.Pairwise.nil
theorem zc5.snoc {vs : List Value} {u : Value} (h : zc5 vs) (hu : ∀ v ∈ vs, v.ownBlock = none ∨ v.ownBlock ≠ u.ownBlock) : zc5 (vs ++ [u]) :=
 List.pairwise_append.2 ⟨h, List.pairwise_singleton _ _, fun a ha b hb => by rw [List.mem_singleton] at hb; subst hb; exact hu a ha⟩
theorem zgQ {w w' : World} {b1 b2 e1 e2 s1 s2 n1 n2 : Nat} {v1 v2 : Value} {xs ys : List Value} (h1 : w.ownsRow b1 e1 s1 v1 n1 xs) (h2 : w'.ownsRow b2 e2 s2 v2 n2 ys) (hb : w.heap.size ≤ b2) : v1.ownBlock = none ∨ v1.ownBlock ≠ v2.ownBlock := by
 cases hv : v1.ownBlock with
 | none => exact Or.inl rfl
 | some k =>
  refine Or.inr (fun e => ?_)
  have l1 := (h1.lt k hv).2
  have l2 := (h2.lt k e.symm).1
  omega
def zcP : Nat → Nat → List UInt8 → List UInt8
 | 0, _, acc => acc
 | f + 1, k, acc => if k = 0 then acc else zcP f (k / 10) ((48 + UInt8.ofNat (k % 10)) :: acc)
def zaZ (k : Nat) : List UInt8 := 109 :: zcP k k []
theorem zhQ (f : Nat) (acc : List UInt8) : zcP f 0 acc = acc := by
 cases f with
 | zero => rfl
 | succ f => simp [zcP]
theorem zhR (f k : Nat) (acc : List UInt8) (h : k ≤ f) (hk : 0 < k) : ∃ f', k / 10 ≤ f' ∧ zcP f k acc = zcP f' (k / 10) ((48 + UInt8.ofNat (k % 10)) :: acc) := by
 obtain ⟨f', rfl⟩ : ∃ f', f = f' + 1 := ⟨f - 1, by omega⟩
 refine ⟨f', by omega, ?_⟩
 conv => lhs; unfold zcP
 rw [if_neg (by omega)]
theorem back1d (t : Int) (h2 : 0 ≤ t) (h3 : t ≤ 255) (W : World) :
 (convert 119 9 (.slice (some ⟨W.heap.size, 0, none⟩) 1 1)).run Tryz.prog (W.alloc (.cells #[.int .u8 t] 5)) = .ok (.string ⟨[UInt8.ofNat t.toNat].toArray⟩) (W.alloc (.cells #[.int .u8 t] 5)) := by
 have ht : ((UInt8.ofNat t.toNat).toNat : Int) = t := by
  rw [UInt8.toNat_ofNat']; omega
 have h := run_convert_bytes_back (P := Tryz.prog) (W.alloc (.cells #[.int .u8 t] 5)) 119 9 5 ⟨W.heap.size, 0, none⟩ 1 [UInt8.ofNat t.toNat] Tryz.underlying119 Tryz.underlying5 Tryz.underlying9 (by
  intro j hj
  have hj' : j < 1 := by simpa using hj
  match j, hj' with
  | 0, _ => simp only [List.getElem_cons_zero, ht]; simp [Addr.add, go_sem])
 exact h
set_option maxHeartbeats 1000000 in
set_option maxRecDepth 100000 in
theorem zbJ (k : Nat) (w : World) (h0 : 0 < k) (h1 : k ≤ 40000000) :
 Calls Tryz.prog 56 #[.int .i64 k] w fun e w' => e = .returned (.string ⟨(zaZ k).toArray⟩) ∧ w.grownBy w' none := by
 have hcat := cat_list
 go_enter Tryz.func56, Tryz.ntmps56
 go_wp2_with fail
 go_loopw [0, 3] (fun i v wr => ∃ f m : Nat, ∃ o : List UInt8, m ≤ f ∧ m ≤ k ∧ o.length + m ≤ k ∧ i = .int .i64 m ∧ v = .string ⟨o.toArray⟩ ∧ zcP f m o = zcP k k [] ∧ w.grownBy wr none) (fun i _ _ => (intOf i).toNat)
 case atStart => exact ⟨k, k, [], Nat.le_refl _, Nat.le_refl _, by simp, rfl, rfl, rfl, World.grownBy.refl _ _⟩
 case round =>
  obtain ⟨f, m, o, hf, hm, hol, rfl, rfl, hgo, hg⟩ := hrel
  by_cases hlt : 0 < m
  ·
   obtain ⟨f', hf', hst⟩ := zhR f m o hf hlt
   have HS : Hid (zcP f' (m / 10) ((48 + UInt8.ofNat (m % 10)) :: o) = zcP k k []) := by
    have := hst.symm.trans hgo
    exact this
   clear hst hgo
   have hbk := back1d (48 + (m : Int) % 10) (by omega) (by omega)
   go_wp2
   go_roundw
   case rel =>
    exact ⟨f', m / 10, (48 + UInt8.ofNat (m % 10)) :: o, hf', by omega, by rw [List.length_cons]; omega, by go_num, rfl, HS.out, hg.trans (World.grownBy_alloc _ _ _)⟩
   case measure => simp [intOf]; omega
  ·
   obtain rfl : m = 0 := by omega
   have HE : Hid (o = zcP k k []) := (zhQ f o).symm.trans hgo
   go_wp2
   go_ret
   exact ⟨ret_strl (by unfold zaZ; rw [← HE.out]), hg⟩
def zbI (k : Nat) : Nat → List Value
 | 0 => []
 | n + 1 => zbI k n ++ [.string ⟨(zaZ (k + n)).toArray⟩]
theorem zce (k n : Nat) : (zbI k n).length = n := by
 induction n with
 | zero => rfl
 | succ n ih => simp [zbI, ih]
theorem zl0 (k n j : Nat) (h : j < n) : (zbI k n)[j]? = some (.string ⟨(zaZ (k + j)).toArray⟩) := by
 induction n with
 | zero => omega
 | succ n ih =>
  unfold zbI
  by_cases hj : j < n
  ·
   rw [List.getElem?_append_left (by rw [zce]; exact hj)]; exact ih hj
  ·
   obtain rfl : j = n := by omega
   rw [List.getElem?_append_right (by rw [zce]; omega), zce]
   simp
theorem zkZ (k i : Nat) (xs : List Value) (h : i < xs.length) : (zbI k i ++ xs.drop i).set i (.string ⟨(zaZ (k + i)).toArray⟩) = zbI k (i + 1) ++ xs.drop (i + 1) := by
 rw [List.set_append, if_neg (by rw [zce]; omega), zce, Nat.sub_self]
 rw [List.drop_eq_getElem_cons h, zB]
 conv => rhs; unfold zbI
 rw [List.append_assoc]; rfl
set_option maxHeartbeats 1000000 in
set_option maxRecDepth 100000 in
theorem markStrC (w : World) (base g cp n k0 : Nat) (xs : List Value) (hn : n ≤ 1100000) (hk0 : 0 < k0) (hk1 : k0 ≤ 800000)
 (h : w.ownsRow base 9 1 (.slice (some ⟨g, 0, none⟩) n cp) n xs) :
 Calls Tryz.prog 26 #[.slice (some ⟨g, 0, none⟩) n cp, .int .i64 k0] w fun e w' => e = .returned (.int .i64 ((k0 + n : Nat) : Int)) ∧ w'.ownsRow base 9 1 (.slice (some ⟨g, 0, none⟩) n cp) n (zbI k0 n) ∧ w.grownBy w' (some g) := by
 have hxl : Hid (xs.length = n) := by exact (by have := h.1; omega : xs.length = n)
 have hgl : g < w.heap.size := (h.lt g rfl).2
 go_enter Tryz.func26, Tryz.ntmps26
 go_wp2
 go_loopw [1, 5] (fun k i wr => ∃ m : Nat, m ≤ n ∧ i = .int .i64 m ∧ k = .int .i64 ((k0 + m : Nat) : Int) ∧ wr.ownsRow base 9 1 (.slice (some ⟨g, 0, none⟩) n cp) n (zbI k0 m ++ xs.drop m) ∧ w.grownBy wr (some g)) (fun _ i _ => n - (intOf i).toNat)
 case atStart => exact ⟨0, Nat.zero_le _, rfl, rfl, h, World.grownBy.refl _ _⟩
 case round =>
  obtain ⟨m, hm, rfl, rfl, hown, hg⟩ := hrel
  by_cases hlt : m < n
  ·
   go_wp2_with fail
   refine (zbJ (k0 + m) _ (by omega) (by omega)).mono ?_
   rintro e w1 ⟨rfl, hg1⟩
   have hown1 := zaN hown hg1
   have hc1 : ∃ u, w1.cell? ⟨g, m, none⟩ = some u := by
    rw [hown1.cellAt m (by omega)]
    have hl : m < (zbI k0 m ++ xs.drop m).length := by rw [List.length_append, zce, List.length_drop]; have := hxl.out; omega
    exact ⟨_, List.getElem?_eq_getElem hl⟩
   obtain ⟨u, hc1⟩ := hc1
   have hf1 := hown1.frozenAt m
   have hst := hown1.stored m (.string ⟨(zaZ (k0 + m)).toArray⟩)
   rw [zkZ k0 m xs (by have := hxl.out; omega)] at hst
   have hg2 : w.grownBy w1 (some g) := hg.andThen hg1 (by simp)
   have hst2 := hg2.trans hst.2
   have hst1 := hst.1
   clear hown hown1 hg1 hst hg2 hg
   go_wp2
   go_roundw
   case rel => exact ⟨m + 1, by omega, by go_num, by go_num, hst1, hst2⟩
   case measure => simp [intOf]; omega
  ·
   obtain rfl : m = n := by omega
   have hd : xs.drop m = [] := List.drop_eq_nil_of_le (by have := hxl.out; omega)
   rw [hd, List.append_nil] at hown
   clear hd
   go_wp2
   go_ret
   exact ⟨rfl, hown, hg⟩
set_option maxHeartbeats 1000000 in
set_option maxRecDepth 100000 in
theorem heldStrC (w : World) (base g cp n k0 : Nat) (hn : n ≤ 1100000) (hk0 : 0 < k0) (hk1 : k0 ≤ 800000)
 (h : w.ownsRow base 9 1 (.slice (some ⟨g, 0, none⟩) n cp) n (zbI k0 n)) :
 Calls Tryz.prog 29 #[.slice (some ⟨g, 0, none⟩) n cp, .int .i64 k0] w fun e w' => e = .returned (.int .i64 ((k0 + n : Nat) : Int)) ∧ w.grownBy w' none := by
 have hself : ∀ l : List UInt8, (l != l) = false := by simp
 have HA : Hid (∀ j, j < n → w.cell? ⟨g, j, none⟩ = some (.string ⟨(zaZ (k0 + j)).toArray⟩)) := fun j hj => by rw [h.cellAt j (by omega), zl0 k0 n j hj]
 clear h
 go_enter Tryz.func29, Tryz.ntmps29
 go_wp2
 go_loopw [1, 5] (fun k i wr => ∃ m : Nat, m ≤ n ∧ i = .int .i64 m ∧ k = .int .i64 ((k0 + m : Nat) : Int) ∧ w.grownBy wr none) (fun _ i _ => n - (intOf i).toNat)
 case atStart => exact ⟨0, Nat.zero_le _, rfl, rfl, World.grownBy.refl _ _⟩
 case round =>
  obtain ⟨m, hm, rfl, rfl, hg⟩ := hrel
  by_cases hlt : m < n
  ·
   have hca : wr.cell? ⟨g, m, none⟩ = some (.string ⟨(zaZ (k0 + m)).toArray⟩) := hg.cell (HA.out m hlt) (by simp)
   go_wp2
   go_region_with (go_at_call 56; refine (zbJ (k0 + m) _ (by omega) (by omega)).mono ?_; rintro e w1 ⟨rfl, hg1⟩; have hca1 := hg1.cell (a := ⟨g, m, none⟩) hca (by simp))
   all_goals (try go_wp2)
   all_goals
    go_roundw
    case rel => exact ⟨m + 1, by omega, by go_num, by go_num, by first | exact hg.trans hg1 | exact (hg.trans (zcx _ _)).trans hg1⟩
    case measure => simp [intOf]; omega
  ·
   obtain rfl : m = n := by omega
   go_wp2
   go_ret
   exact ⟨rfl, hg⟩
set_option maxHeartbeats 400000 in
set_option maxRecDepth 100000 in
theorem zjn (w : World) (k0 : Nat) :
 Calls Tryz.prog 26 #[.slice none 0 0, .int .i64 k0] w fun e w' => e = .returned (.int .i64 (k0 : Int)) ∧ w' = w := by
 go_enter Tryz.func26, Tryz.ntmps26
 go_wp2
 refine wp_loop_rounds 1 ?_
 rw [rounds_succ]
 go_wp2
 go_ret
 exact ⟨rfl, rfl⟩
theorem ziB (w : World) (base n k0 : Nat) (v : Value) (xs : List Value) (hn : n ≤ 1100000) (hk0 : 0 < k0) (hk1 : k0 ≤ 800000) (h : w.ownsRow base 9 1 v n xs) :
 Calls Tryz.prog 26 #[v, .int .i64 k0] w fun e w' => e = .returned (.int .i64 ((k0 + n : Nat) : Int)) ∧ w'.ownsRow base 9 1 v n (zbI k0 n) ∧ w.grownBy w' v.ownBlock := by
 rcases zar h with ⟨rfl, rfl, rfl⟩ | ⟨g, cp, rfl⟩
 ·
  refine (zjn w k0).mono ?_
  rintro e w' ⟨rfl, rfl⟩
  exact ⟨rfl, h, World.grownBy.refl _ _⟩
 ·
  exact markStrC w base g cp n k0 xs hn hk0 hk1 h
set_option maxHeartbeats 400000 in
set_option maxRecDepth 100000 in
theorem zjG (w : World) (k0 : Nat) :
 Calls Tryz.prog 29 #[.slice none 0 0, .int .i64 k0] w fun e w' => e = .returned (.int .i64 (k0 : Int)) ∧ w' = w := by
 go_enter Tryz.func29, Tryz.ntmps29
 go_wp2
 refine wp_loop_rounds 1 ?_
 rw [rounds_succ]
 go_wp2
 go_ret
 exact ⟨rfl, rfl⟩
theorem heldStrV (w : World) (base n k0 : Nat) (v : Value) (hn : n ≤ 1100000) (hk0 : 0 < k0) (hk1 : k0 ≤ 800000) (h : w.ownsRow base 9 1 v n (zbI k0 n)) :
 Calls Tryz.prog 29 #[v, .int .i64 k0] w fun e w' => e = .returned (.int .i64 ((k0 + n : Nat) : Int)) ∧ w.grownBy w' none := by
 rcases zar h with ⟨rfl, rfl, _⟩ | ⟨g, cp, rfl⟩
 ·
  refine (zjG w k0).mono ?_
  rintro e w' ⟨rfl, rfl⟩
  exact ⟨rfl, World.grownBy.refl _ _⟩
 ·
  exact heldStrC w base g cp n k0 hn hk0 hk1 h
section
open Go.ChangeShapes Go.WideShapes Go.ChangeAt Go.RowKit
def szT (m n : Nat) (left : Int) : Int := if (m : Int) + (n : Int) ≤ left then left - (m : Int) - (n : Int) else -1
theorem zjX {m n : Nat} {left : Int} (h : (m : Int) + (n : Int) ≤ left) : szT m n left = left - (m : Int) - (n : Int) := by unfold szT; rw [if_pos h]
theorem zjY {m n : Nat} {left : Int} (h : ¬ (m : Int) + (n : Int) ≤ left) : szT m n left = -1 := by unfold szT; rw [if_neg h]
def zbx (ts : List (List UInt8)) : Nat := ts.flatten.length
theorem zjv (ts : List (List UInt8)) (k : Nat) (hk : k < ts.length) : zbx (ts.take (k + 1)) = zbx (ts.take k) + (ts.getD k []).length := by
 have := congrArg List.length (zlP ts k hk)
 rw [List.length_append] at this
 exact this
theorem zju (ts : List (List UInt8)) (k : Nat) : zbx (ts.take k) ≤ zbx ts := zlO ts k
set_option maxHeartbeats 1000000 in
set_option maxRecDepth 100000 in
theorem zj1 (a : Option Addr) (len cap : Nat) (ts : List (List UInt8)) (left : Int) (w : World) (hin : zae w a len ts) (h0 : 0 ≤ left) (h1 : left ≤ 1048576) (hl : len ≤ maxLen) (hm : ∀ j, (ts.getD j []).length ≤ maxLen) :
 Calls Tryz.prog 13 #[.slice a len cap, .int .i64 left] w fun e w' => e = .returned (.int .i64 (szT len (zbx ts) left)) ∧ w' = w := by
 unfold maxLen at hl
 have hl2 : (len : Int) ≤ 9223372036854775807 := by omega
 have hlb := hin.1
 by_cases h : (len : Int) ≤ left
 ·
  have hlen : len ≤ 1048576 := by omega
  have HI : Hid (zae w a len ts) := hin
  have HM : Hid (∀ j, (ts.getD j []).length ≤ maxLen) := hm
  clear hin hm
  go_enter Tryz.func13, Tryz.ntmps13
  go_wp2
  go_loop [1, 5] (fun l i => ∃ k : Nat, k ≤ len ∧ i = .int .i64 k ∧ l = .int .i64 (left - (len : Int) - (zbx (ts.take k) : Int)) ∧ (zbx (ts.take k) : Int) ≤ left - (len : Int)) (fun _ i => len - (intOf i).toNat)
  case atStart => exact ⟨0, Nat.zero_le _, rfl, by simp [zbx], by simp [zbx]; omega⟩
  case round =>
   obtain ⟨k, hk, rfl, rfl, hle⟩ := hrel
   by_cases hkl : (k : Int) < (len : Int)
   ·
    obtain ⟨b, off, rfl, hbl, hcells⟩ := HI.out.at (by omega)
    have ck := hcells k (by omega)
    have hmk := HM.out k
    have hfs := zjv ts k (by omega)
    have hft := zju ts (k + 1)
    obtain ⟨t, ht⟩ : ∃ t, ts.getD k [] = t := ⟨_, rfl⟩
    rw [ht] at ck hmk hfs
    unfold maxLen at hmk
    have hmk2 : (t.length : Int) ≤ 9223372036854775807 := by omega
    obtain ⟨m, hmm⟩ : ∃ m, zbx (ts.take k) = m := ⟨_, rfl⟩
    have HS : Hid (zbx (ts.take (k + 1)) = m + t.length) := by rw [← hmm]; exact hfs
    rw [hmm] at hle ⊢
    clear hcells ht hfs
    by_cases hfit : (t.length : Int) ≤ left - (len : Int) - (m : Int)
    ·
     have hge : (0 : Int) ≤ left - (len : Int) - (m : Int) - (t.length : Int) := by omega
     have HR : Hid ((zbx (ts.take (k + 1)) : Int) ≤ left - (len : Int) ∧ left - (len : Int) - (zbx (ts.take (k + 1)) : Int) = left - (len : Int) - (m : Int) - (t.length : Int)) := by
      exact (by rw [HS.out]; omega : (zbx (ts.take (k + 1)) : Int) ≤ left - (len : Int) ∧ left - (len : Int) - (zbx (ts.take (k + 1)) : Int) = left - (len : Int) - (m : Int) - (t.length : Int))
     clear hmm hft
     go_wp2
     go_round
     case rel => exact ⟨k + 1, by omega, by go_num, by rw [HR.out.2], HR.out.1⟩
     case measure => simp [intOf]; omega
    ·
     have HR : Hid (szT len (zbx ts) left = -1) := zjY (by have := HS.out; omega)
     have hlt : left - (len : Int) - (m : Int) - (t.length : Int) < 0 := by omega
     clear hmm hft
     go_wp2
     go_ret
     exact ⟨by rw [HR.out]; rfl, rfl⟩
   ·
    have HT : Hid (ts.take k = ts) := List.take_of_length_le (by omega)
    have HR : Hid (szT len (zbx ts) left = left - (len : Int) - (zbx (ts.take k) : Int)) := by exact (by rw [HT.out] at hle ⊢; exact zjX (by omega) : szT len (zbx ts) left = left - (len : Int) - (zbx (ts.take k) : Int))
    go_wp2
    go_ret
    exact ⟨by rw [HR.out]; rfl, rfl⟩
 ·
  have HR : Hid (szT len (zbx ts) left = -1) := zjY (by omega)
  clear hin hm
  go_enter Tryz.func13, Tryz.ntmps13
  go_wp2
  go_ret
  exact ⟨by rw [HR.out]; rfl, rfl⟩
theorem zjs (n : Nat) : (madeCells (Value.cells (.string ⟨#[]⟩)) (n * 1)).toList = strV (List.replicate n []) := by
 have hc : Value.cells (.string ⟨#[]⟩) = #[.string ⟨#[]⟩] := rfl
 rw [hc, Nat.mul_one]
 apply List.ext_getElem?
 intro j
 by_cases hj : j < n
 ·
  rw [zg7 _ j (by simpa using hj)]
  simp [madeCells, hj, Nat.mod_one]
 ·
  rw [List.getElem?_eq_none (by simp [madeCells]; omega), List.getElem?_eq_none (by rw [zie]; simp; omega)]
theorem zlQ (ts : List (List UInt8)) (k : Nat) (hk : k < ts.length) : (strV (ts.take k ++ List.replicate (ts.length - k) [])).set k (.string ⟨(ts.getD k []).toArray⟩) = strV (ts.take (k + 1) ++ List.replicate (ts.length - (k + 1)) []) := by
 have hg : ts.getD k [] = ts[k] := by simp [List.getD, hk]
 have e : (ts.take k ++ List.replicate (ts.length - k) []).set k ts[k] = ts.take (k + 1) ++ List.replicate (ts.length - (k + 1)) [] := by
  rw [List.set_append_right _ _ (by rw [List.length_take]; omega), List.length_take, Nat.min_eq_left (by omega), Nat.sub_self, show ts.length - k = (ts.length - (k + 1)) + 1 by omega, List.replicate_succ, zB, List.take_succ_eq_append_getElem hk, List.append_assoc]
  rfl
 rw [hg, ← e]
 unfold strV
 rw [List.map_set]
set_option maxHeartbeats 2000000 in
set_option maxRecDepth 100000 in
theorem zj0 (a : Option Addr) (len cap : Nat) (ts : List (List UInt8)) (w : World) (hin : zae w a len ts) (hlen : len ≤ 1048576) :
 Calls Tryz.prog 17 #[.slice a len cap] w fun e w' => ∃ v, e = .returned v ∧ w'.ownsRow w.heap.size 9 1 v len (strV ts) ∧ v ≠ .slice none 0 0 ∧ Below w.heap.size w w' := by
 obtain ⟨i0, hi, hz0, hz1, hz2⟩ := info_parts info9
 have hlb := hin.1
 have HI : Hid (zae w a len ts) := hin
 clear hin
 go_enter Tryz.func17, Tryz.ntmps17
 go_wp2_with (at_make; refine wpList_make_full _ rfl _ _ 22 rfl w.heap.size 9 i0 _ 1 Tryz.underlying22 hi hz0 hz1 .i64 .i64 _ _ len rfl rfl rfl rfl (by rw [hz2]; omega) (by unfold maxLen; omega) (Nat.le_refl _) ?_; intro w1 hown1 hgrow1)
 rw [zjs] at hown1
 have hB1 : Below w.heap.size w w1 := (Below.refl _ _).grown hgrow1 (Nat.le_refl _) (by simp)
 clear hgrow1
 go_loopw [4] (fun i wr => ∃ k : Nat, k ≤ len ∧ i = .int .i64 k ∧ wr.ownsRow w.heap.size 9 1 (.slice (some ⟨w.heap.size, 0, none⟩) len len) len (strV (ts.take k ++ List.replicate (ts.length - k) [])) ∧ Below w.heap.size w wr) (fun i _ => len - (intOf i).toNat)
 case atStart => exact ⟨0, Nat.zero_le _, rfl, by simpa [hlb] using hown1, hB1⟩
 case round =>
  obtain ⟨k, hk, rfl, hown, hB⟩ := hrel
  clear hown1 hB1
  by_cases hkl : (k : Int) < (len : Int)
  ·
   obtain ⟨b, off, rfl, hbl, hcells⟩ := (HI.out.below hB).at (by omega)
   have ck := hcells k (by omega)
   have hst := (hown.stored k (.string ⟨(ts.getD k []).toArray⟩)).1
   rw [zlQ ts k (by omega)] at hst
   obtain ⟨u0, d0⟩ : ∃ u, wr.cell? ⟨w.heap.size, k, none⟩ = some u := by
    rw [hown.cellAt k (by omega), zg7 _ k (by rw [List.length_append, List.length_take, List.length_replicate]; omega)]; exact ⟨_, rfl⟩
   have e0 := hown.frozenAt k
   obtain ⟨t, ht⟩ : ∃ t, ts.getD k [] = t := ⟨_, rfl⟩
   rw [ht] at ck hst
   have hB3 := hB.setCell (p := ⟨w.heap.size, k, none⟩) (Nat.le_refl _) (.string ⟨t.toArray⟩)
   clear hcells ht hown
   go_wp2
   go_roundw
   case rel => exact ⟨k + 1, by omega, by go_num, hst, hB3⟩
   case measure => simp [intOf]; omega
  ·
   have hd : ts.take k ++ List.replicate (ts.length - k) [] = ts := by rw [List.take_of_length_le (by omega), show ts.length - k = 0 by omega]; simp
   rw [hd] at hown
   clear hd
   go_wp2
   go_ret
   exact ⟨_, rfl, hown, by simp, hB⟩
end
end Go.Proofs.YtkpdoedpkncboaaGreat
