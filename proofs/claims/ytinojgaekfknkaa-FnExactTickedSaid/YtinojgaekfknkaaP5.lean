/-
  Parts of one proof, one behind the other: MathX, Math2, Math2F, Math18, TreeS4, TreeS5, TreeS6.
-/
import Derived.Test.YtinojgaekfknkaaP4
import Derived.Test.YtinojgaekfknkaaP1
import Derived.Test.YtinojgaekfknkaaP2
import Derived.Test.YtinojgaekfknkaaP3
import Derived.Deep.RegionWith

/-! Plain facts for FnHex: eight signs are read as the number that they were made of, and what is read is made again. -/
namespace Go.Proofs.Ytinojgaekfknkaa

theorem hv_hexD (d : Nat) (h : d < 16) : hv (hexD d) = (d : Int) := by
  have key : ∀ d : Nat, d < 16 → hv (hexD d) = (d : Int) := by decide +kernel
  exact key d h

theorem hexD_hvN : ∀ n : Nat, n < 256 → hvN n = -1 ∨ hexD (hvN n).toNat = UInt8.ofNat n := by decide +kernel

theorem hexD_hv (c : UInt8) (h : 0 ≤ hv c) : hexD (hv c).toNat = c := by
  rcases hexD_hvN c.toNat c.toNat_lt with e | e
  · unfold hv at h; omega
  · unfold hv; rw [e]; simp

theorem hexStep_ok (n : Int) (c : UInt8) (d : Nat) (h0 : 0 ≤ n) (h : hv c = (d : Int)) : hexStep n c = 16 * n + d := by
  unfold hexStep; rw [if_neg (by omega), h]

theorem fold_digits (ds : List Nat) (n : Int) (h0 : 0 ≤ n) (h : ∀ d ∈ ds, d < 16) : (ds.map hexD).foldl hexStep n = ds.foldl (fun (m : Int) (d : Nat) => 16 * m + (d : Int)) n := by
  induction ds generalizing n with
  | nil => rfl
  | cons d r ih =>
    rw [List.map_cons, List.foldl_cons, List.foldl_cons, hexStep_ok n _ d h0 (hv_hexD d (h d List.mem_cons_self))]
    exact ih _ (by omega) (fun x hx => h x (List.mem_cons_of_mem _ hx))

theorem from_hexL (n : Nat) (h : n ≤ 4294967295) : fromL (hexL n) = (n : Int) := by
  have e := fold_digits [n / 268435456 % 16, n / 16777216 % 16, n / 1048576 % 16, n / 65536 % 16, n / 4096 % 16, n / 256 % 16, n / 16 % 16, n % 16] 0 (by omega) (by
    intro d hd
    simp only [List.mem_cons, List.not_mem_nil, or_false] at hd
    omega)
  show ([n / 268435456 % 16, n / 16777216 % 16, n / 1048576 % 16, n / 65536 % 16, n / 4096 % 16, n / 256 % 16, n / 16 % 16, n % 16].map hexD).foldl hexStep 0 = _
  rw [e]
  simp only [List.foldl_cons, List.foldl_nil]
  omega

theorem hexStep_inv (n : Int) (c : UInt8) (h : hexStep n c ≠ -1) : n ≠ -1 ∧ 0 ≤ hv c ∧ hexStep n c = 16 * n + hv c := by
  unfold hexStep at h ⊢
  split at h
  · exact absurd rfl h
  · rename_i hc
    rw [if_neg hc]
    exact ⟨fun e => hc (Or.inl e), by omega, rfl⟩

theorem hexL_from (l : List UInt8) (h8 : l.length = 8) (h : fromL l ≠ -1) : hexL (fromL l).toNat = l ∧ 0 ≤ fromL l ∧ fromL l ≤ 4294967295 := by
  match l, h8 with
  | [a, b, c, d, e, f, g, i], _ =>
    unfold fromL at h ⊢
    simp only [List.foldl_cons, List.foldl_nil] at h ⊢
    obtain ⟨h7, v7, e7⟩ := hexStep_inv _ _ h
    obtain ⟨h6, v6, e6⟩ := hexStep_inv _ _ h7
    obtain ⟨h5, v5, e5⟩ := hexStep_inv _ _ h6
    obtain ⟨h4, v4, e4⟩ := hexStep_inv _ _ h5
    obtain ⟨h3, v3, e3⟩ := hexStep_inv _ _ h4
    obtain ⟨h2, v2, e2⟩ := hexStep_inv _ _ h3
    obtain ⟨h1, v1, e1⟩ := hexStep_inv _ _ h2
    obtain ⟨_, v0, e0⟩ := hexStep_inv _ _ h1
    rw [e7, e6, e5, e4, e3, e2, e1, e0]
    have b0 := (hv_bd a).2
    have b1 := (hv_bd b).2
    have b2 := (hv_bd c).2
    have b3 := (hv_bd d).2
    have b4 := (hv_bd e).2
    have b5 := (hv_bd f).2
    have b6 := (hv_bd g).2
    have b7 := (hv_bd i).2
    have k0 := hexD_hv a v0
    have k1 := hexD_hv b v1
    have k2 := hexD_hv c v2
    have k3 := hexD_hv d v3
    have k4 := hexD_hv e v4
    have k5 := hexD_hv f v5
    have k6 := hexD_hv g v6
    have k7 := hexD_hv i v7
    clear h h1 h2 h3 h4 h5 h6 h7 e0 e1 e2 e3 e4 e5 e6 e7
    refine ⟨?_, by omega, by omega⟩
    generalize hv a = x0 at *
    generalize hv b = x1 at *
    generalize hv c = x2 at *
    generalize hv d = x3 at *
    generalize hv e = x4 at *
    generalize hv f = x5 at *
    generalize hv g = x6 at *
    generalize hv i = x7 at *
    obtain ⟨y0, rfl⟩ := Int.eq_ofNat_of_zero_le v0
    obtain ⟨y1, rfl⟩ := Int.eq_ofNat_of_zero_le v1
    obtain ⟨y2, rfl⟩ := Int.eq_ofNat_of_zero_le v2
    obtain ⟨y3, rfl⟩ := Int.eq_ofNat_of_zero_le v3
    obtain ⟨y4, rfl⟩ := Int.eq_ofNat_of_zero_le v4
    obtain ⟨y5, rfl⟩ := Int.eq_ofNat_of_zero_le v5
    obtain ⟨y6, rfl⟩ := Int.eq_ofNat_of_zero_le v6
    obtain ⟨y7, rfl⟩ := Int.eq_ofNat_of_zero_le v7
    have e : (16 * (16 * (16 * (16 * (16 * (16 * (16 * (16 * (0 : Int) + y0) + y1) + y2) + y3) + y4) + y5) + y6) + y7).toNat = 16 * (16 * (16 * (16 * (16 * (16 * (16 * y0 + y1) + y2) + y3) + y4) + y5) + y6) + y7 := by omega
    rw [e]
    unfold hexL
    simp only [Int.toNat_natCast] at k0 k1 k2 k3 k4 k5 k6 k7
    generalize hN : 16 * (16 * (16 * (16 * (16 * (16 * (16 * y0 + y1) + y2) + y3) + y4) + y5) + y6) + y7 = N
    rw [show N / 268435456 % 16 = y0 by omega, show N / 16777216 % 16 = y1 by omega, show N / 1048576 % 16 = y2 by omega, show N / 65536 % 16 = y3 by omega, show N / 4096 % 16 = y4 by omega, show N / 256 % 16 = y5 by omega, show N / 16 % 16 = y6 by omega, show N % 16 = y7 by omega]
    rw [k0, k1, k2, k3, k4, k5, k6, k7]

/-- What is read is made again. -/
theorem hexS_from (l : List UInt8) (h : fromB l = true) : hexS (fromN l) = l := by
  have hp : l.length = 8 ∧ fromL l ≠ -1 := of_decide_eq_true h
  have h2 := hexL_from l hp.1 hp.2
  rw [(from_yes l hp.1 hp.2).2, hexS_yes _ h2.2.1 h2.2.2]
  exact h2.1

/-- What was made is read. -/
theorem from_hexS (n : Int) (h0 : 0 ≤ n) (h1 : n ≤ 4294967295) : fromB (hexS n) = true ∧ fromN (hexS n) = n ∧ (hexS n).length = 8 := by
  have e := from_hexL n.toNat (by omega)
  have hl : (hexL n.toNat).length = 8 := rfl
  rw [hexS_yes n h0 h1]
  have hne : fromL (hexL n.toNat) ≠ -1 := by rw [e]; omega
  have hy := from_yes _ hl hne
  exact ⟨hy.1, by rw [hy.2, e]; omega, hl⟩

end Go.Proofs.Ytinojgaekfknkaa

/-! Plain facts for chapter 2 (frames): what a frame is, and what is read of one. -/
namespace Go.Proofs.Ytinojgaekfknkaa

def framedL (l : List UInt8) : List UInt8 := hexL l.length ++ hexL (hashL l).toNat ++ l
def framedS (l : List UInt8) : List UInt8 := if l.length ≤ 20000 then framedL l else []
theorem framedS_yes (l : List UInt8) (h : l.length ≤ 20000) : framedS l = framedL l := if_pos h
theorem framedS_no (l : List UInt8) (h : 20000 < l.length) : framedS l = [] := if_neg (by omega)

/-- The first frame of a text: is there one? -/
def firstB (l : List UInt8) : Bool :=
  decide (16 ≤ l.length ∧ fromB (l.take 8) = true ∧ fromB ((l.drop 8).take 8) = true ∧ fromN (l.take 8) ≤ 20000 ∧ 16 + fromN (l.take 8) ≤ (l.length : Int) ∧
    hashL ((l.drop 16).take (fromN (l.take 8)).toNat) = fromN ((l.drop 8).take 8))
def firstT (l : List UInt8) : List UInt8 := if firstB l = true then (l.drop 16).take (fromN (l.take 8)).toNat else []
def firstN (l : List UInt8) : Int := if firstB l = true then 16 + fromN (l.take 8) else 0

theorem firstB_no (l : List UInt8) (h : ¬ (16 ≤ l.length ∧ fromB (l.take 8) = true ∧ fromB ((l.drop 8).take 8) = true ∧ fromN (l.take 8) ≤ 20000 ∧ 16 + fromN (l.take 8) ≤ (l.length : Int) ∧
    hashL ((l.drop 16).take (fromN (l.take 8)).toNat) = fromN ((l.drop 8).take 8))) : firstT l = [] ∧ firstN l = 0 ∧ firstB l = false := by
  have hb : firstB l = false := decide_eq_false h
  unfold firstT firstN
  rw [hb]; simp

theorem firstB_yes (l : List UInt8) (h : 16 ≤ l.length ∧ fromB (l.take 8) = true ∧ fromB ((l.drop 8).take 8) = true ∧ fromN (l.take 8) ≤ 20000 ∧ 16 + fromN (l.take 8) ≤ (l.length : Int) ∧
    hashL ((l.drop 16).take (fromN (l.take 8)).toNat) = fromN ((l.drop 8).take 8)) : firstT l = (l.drop 16).take (fromN (l.take 8)).toNat ∧ firstN l = 16 + fromN (l.take 8) ∧ firstB l = true := by
  have hb : firstB l = true := decide_eq_true h
  unfold firstT firstN
  rw [hb]; simp

theorem fromN_bd (l : List UInt8) : 0 ≤ fromN l ∧ fromN l ≤ 4294967295 := by
  unfold fromN
  split
  · rename_i h
    have := fromL_le l (by omega)
    omega
  · omega

def unframedB (l : List UInt8) : Bool := firstB l && decide (firstN l = (l.length : Int))
def unframedT (l : List UInt8) : List UInt8 := if unframedB l = true then firstT l else []

theorem unframed_no (l : List UInt8) (h : firstB l = false ∨ firstN l ≠ (l.length : Int)) : unframedT l = [] ∧ unframedB l = false := by
  have hb : unframedB l = false := by
    unfold unframedB
    rcases h with h | h
    · rw [h]; rfl
    · simp [h]
  unfold unframedT; rw [hb]; simp

theorem unframed_yes (l : List UInt8) (h : firstB l = true) (h1 : firstN l = (l.length : Int)) : unframedT l = firstT l ∧ unframedB l = true := by
  have hb : unframedB l = true := by unfold unframedB; rw [h]; simp [h1]
  unfold unframedT; rw [hb]; simp

/-! The walk's own spellings. -/
end Go.Proofs.Ytinojgaekfknkaa

/-! Plain facts for FnFrames: what is framed is read as its text; cut, or with one byte turned, it is no frame. -/
namespace Go.Proofs.Ytinojgaekfknkaa

theorem hexL_len (n : Nat) : (hexL n).length = 8 := rfl
theorem framedL_len (l : List UInt8) : (framedL l).length = 16 + l.length := by
  unfold framedL; rw [List.length_append, List.length_append, hexL_len, hexL_len]

theorem framed_8 (l : List UInt8) : (framedL l).take 8 = hexL l.length := by
  unfold framedL
  rw [List.append_assoc]
  exact List.take_left' (hexL_len _)
theorem framed_16 (l : List UInt8) : ((framedL l).drop 8).take 8 = hexL (hashL l).toNat := by
  unfold framedL
  rw [List.append_assoc, List.drop_left' (hexL_len _)]
  exact List.take_left' (hexL_len _)
theorem framed_rest (l : List UInt8) : (framedL l).drop 16 = l := by
  unfold framedL
  exact List.drop_left' (by rw [List.length_append, hexL_len, hexL_len])

theorem hexL_read (n : Nat) (h : n ≤ 4294967295) : fromB (hexL n) = true ∧ fromN (hexL n) = (n : Int) := by
  have e := from_hexL n h
  have hne : fromL (hexL n) ≠ -1 := by rw [e]; omega
  have hy := from_yes (hexL n) (hexL_len n) hne
  exact ⟨hy.1, by rw [hy.2, e]⟩

theorem hexL_inj (m n : Nat) (hm : m ≤ 4294967295) (hn : n ≤ 4294967295) (h : hexL m = hexL n) : m = n := by
  have e1 := from_hexL m hm
  have e2 := from_hexL n hn
  rw [h, e2] at e1
  omega

theorem hash_nat (l : List UInt8) : (hashL l).toNat ≤ 4294967295 ∧ ((hashL l).toNat : Int) = hashL l := by
  have := hashL_bd l
  omega

/-- A frame is read. -/
theorem first_framed (l : List UInt8) (hl : l.length ≤ 20000) (r : List UInt8) : firstB (framedL l ++ r) = true ∧ firstT (framedL l ++ r) = l ∧ firstN (framedL l ++ r) = 16 + (l.length : Int) := by
  have hlen := framedL_len l
  have t8 : (framedL l ++ r).take 8 = hexL l.length := by
    rw [List.take_append_of_le_length (by omega)]; exact framed_8 l
  have t16 : ((framedL l ++ r).drop 8).take 8 = hexL (hashL l).toNat := by
    rw [List.drop_append_of_le_length (by omega), List.take_append_of_le_length (by rw [List.length_drop]; omega)]; exact framed_16 l
  have tr : (framedL l ++ r).drop 16 = l ++ r := by
    rw [List.drop_append_of_le_length (by omega), framed_rest]
  have h1 := hexL_read l.length (by omega)
  have hn := hash_nat l
  have h2 := hexL_read (hashL l).toNat hn.1
  have hy := firstB_yes (framedL l ++ r) (by
    rw [t8, t16, tr, h1.1, h1.2, h2.1, h2.2, List.length_append, hlen]
    refine ⟨by omega, rfl, rfl, by omega, by omega, ?_⟩
    rw [Int.toNat_natCast, List.take_left' rfl, hn.2])
  refine ⟨hy.2.2, ?_, ?_⟩
  · rw [hy.1, t8, tr, h1.2, Int.toNat_natCast, List.take_left' rfl]
  · rw [hy.2.1, t8, h1.2]

/-- What is read is a frame of its text. -/
theorem first_is (t : List UInt8) (h : firstB t = true) : (firstT t).length ≤ 20000 ∧ firstN t = 16 + ((firstT t).length : Int) ∧ t = framedL (firstT t) ++ t.drop (16 + (firstT t).length) := by
  have hp := of_decide_eq_true h
  have hy := firstB_yes t hp
  obtain ⟨h16, b1, b2, hn, hle, hh⟩ := hp
  have nb := fromN_bd (t.take 8)
  have e1 := hexS_from _ b1
  have e2 := hexS_from _ b2
  rw [hexS_yes _ nb.1 nb.2] at e1
  have hb := fromN_bd ((t.drop 8).take 8)
  rw [hexS_yes _ hb.1 hb.2] at e2
  obtain ⟨k, hk⟩ := Int.eq_ofNat_of_zero_le nb.1
  rw [hk] at e1 hn hle hh
  have hyT := hy.1
  have hyN := hy.2.1
  rw [hk] at hyT hyN
  rw [Int.toNat_natCast] at hyT e1 hh
  have hlen : (firstT t).length = k := by rw [hyT, List.length_take, List.length_drop]; omega
  refine ⟨by omega, by rw [hyN, hlen], ?_⟩
  have e3 : t = t.take 8 ++ ((t.drop 8).take 8 ++ ((t.drop 16).take k ++ t.drop (16 + k))) := by
    have d16 : t.drop 16 = (t.drop 8).drop 8 := by rw [List.drop_drop]
    have dk : t.drop (16 + k) = (t.drop 16).drop k := by rw [List.drop_drop]
    rw [dk, List.take_append_drop, d16, List.take_append_drop, List.take_append_drop]
  have hh2 : (hashL (firstT t)).toNat = (fromN ((t.drop 8).take 8)).toNat := by rw [hyT, hh]
  unfold framedL
  rw [hlen, hh2, e1, e2, hyT, List.append_assoc, List.append_assoc]
  exact e3

theorem unframed_framed (l : List UInt8) (hl : l.length ≤ 20000) : unframedB (framedL l) = true ∧ unframedT (framedL l) = l := by
  have h := first_framed l hl []
  rw [List.append_nil] at h
  have hy := unframed_yes (framedL l) h.1 (by rw [h.2.2, framedL_len]; omega)
  exact ⟨hy.2, by rw [hy.1, h.2.1]⟩

theorem unframed_is (t : List UInt8) (h : unframedB t = true) : (unframedT t).length ≤ 20000 ∧ framedL (unframedT t) = t := by
  have hb : firstB t = true := by unfold unframedB at h; simp at h; exact h.1
  have hn : firstN t = (t.length : Int) := by unfold unframedB at h; simp at h; exact h.2
  have hy := unframed_yes t hb hn
  have hf := first_is t hb
  have hz : t.drop (16 + (firstT t).length) = [] := by
    apply List.drop_eq_nil_of_le
    have := hf.2.1
    omega
  rw [hz, List.append_nil] at hf
  rw [hy.1]
  exact ⟨hf.1, hf.2.2.symm⟩

theorem unframed_back (t : List UInt8) (h : unframedB t = true) : framedS (unframedT t) = t := by
  have hu := unframed_is t h
  rw [framedS_yes _ hu.1]
  exact hu.2

/-- Cut, it is none. -/
theorem unframed_cut (l : List UInt8) (hl : l.length ≤ 20000) (k : Nat) (hk : k < 16 + l.length) : unframedB ((framedL l).take k) = false := by
  rcases hb : unframedB ((framedL l).take k) with _ | _
  · rfl
  · have hu := unframed_is _ hb
    have hlen := framedL_len l
    have e1 : ((framedL l).take k).length = k := by rw [List.length_take]; omega
    have e2 := framedL_len (unframedT ((framedL l).take k))
    rw [hu.2, e1] at e2
    have e3 : ((framedL l).take k).take 8 = hexL l.length := by
      rw [List.take_take, Nat.min_eq_left (by omega)]; exact framed_8 l
    have e4 := framed_8 (unframedT ((framedL l).take k))
    rw [hu.2, e3] at e4
    have := hexL_inj _ _ (by omega) (by omega) e4
    omega

/-- With one byte turned, it is none. -/
theorem unframed_set (l : List UInt8) (k : Nat) (c : UInt8) (h : unframedB ((framedL l).set k c) = true) : (framedL l).set k c = framedL l := by
  have hu := unframed_is _ h
  have hlen := framedL_len l
  have e2 := framedL_len (unframedT ((framedL l).set k c))
  rw [hu.2, List.length_set, hlen] at e2
  by_cases hk : k < 16
  · have e3 := framed_rest (unframedT ((framedL l).set k c))
    rw [hu.2, List.drop_set_of_lt hk, framed_rest] at e3
    rw [← hu.2, ← e3]
  · have e3 := framed_rest (unframedT ((framedL l).set k c))
    have e4 := framed_16 (unframedT ((framedL l).set k c))
    rw [hu.2] at e3 e4
    have e5 : (((framedL l).set k c).drop 8).take 8 = hexL (hashL l).toNat := by
      rw [List.drop_set, if_neg (by omega), List.take_set_of_le (by omega)]
      exact framed_16 l
    rw [e5] at e4
    have e6 : ((framedL l).set k c).drop 16 = l.set (k - 16) c := by
      rw [List.drop_set, if_neg (by omega), framed_rest]
    rw [e6] at e3
    rw [← e3] at e4
    have h1 := hash_nat l
    have h2 := hash_nat (l.set (k - 16) c)
    have e7 := hexL_inj _ _ h1.1 h2.1 e4
    have e8 : hashL (l.set (k - 16) c) = hashL l := by rw [← h2.2, ← h1.2, e7]
    have e9 := hash_set l (k - 16) c e8
    rw [← hu.2, ← e3, e9]

theorem unframed_turned (l : List UInt8) (hl : l.length ≤ 20000) (p q : Int) : unframedB (turnedL (framedL l) p q) = (turnedL (framedL l) p q == framedL l) := by
  rw [Bool.eq_iff_iff, beq_iff_eq]
  constructor
  · intro h
    unfold turnedL at h ⊢
    split at h
    · rename_i hc; rw [if_pos hc]; exact unframed_set l _ _ h
    · rename_i hc; rw [if_neg hc]
  · intro h; rw [h]; exact (unframed_framed l hl).1

end Go.Proofs.Ytinojgaekfknkaa

/-! Plain facts of chapter 18: tasks, desks, what is done to them. -/
namespace Go.Proofs.Ytinojgaekfknkaa
open Go.RowKit

/-! A task: name, needs, state, worker, until, key. A desk: tasks, epoch, now, journal. -/
abbrev Ta := List UInt8 × List Int × Int × Int × Int × Int
abbrev Dk := List Ta × Int × Int × List UInt8
def ta0 : Ta := ([], [], 0, 0, 0, 0)
def dk0 : Dk := ([], 0, 0, [])
def key18 (k : Int) : Bool := inB k 0 2147483646
def need18 (own : Int) (ns : List Int) (i : Nat) : Prop := 0 ≤ ns.getD i 0 ∧ ns.getD i 0 < own ∧ (0 < i → ns.getD (i - 1) 0 < ns.getD i 0)
instance (own : Int) (ns : List Int) (i : Nat) : Decidable (need18 own ns i) := by unfold need18; infer_instance
def needsB (own : Int) (ns : List Int) : Bool := decide (∀ i, i < ns.length → need18 own ns i)
def stateB (t : Ta) : Bool :=
  if t.2.2.1 = 0 then decide (t.2.2.2.1 = 0 ∧ t.2.2.2.2.1 = 0 ∧ t.2.2.2.2.2 = 0)
  else if t.2.2.1 = 1 then inB t.2.2.2.1 0 3 && inB t.2.2.2.2.1 0 1000000 && decide (t.2.2.2.2.2 = 0)
  else if t.2.2.1 = 2 then decide (t.2.2.2.1 = 0 ∧ t.2.2.2.2.1 = 0) && key18 t.2.2.2.2.2
  else false
def taskB (own : Int) (t : Ta) : Bool := needsB own t.2.1 && stateB t
def one18 (ts : List Ta) (i : Nat) : Prop := nameB (ts.getD i ta0).1 = true ∧ taskB (i : Int) (ts.getD i ta0) = true ∧ ∀ k, k < i → (ts.getD k ta0).1 ≠ (ts.getD i ta0).1
instance (ts : List Ta) (i : Nat) : Decidable (one18 ts i) := by unfold one18; infer_instance
def deskB (d : Dk) : Bool := decide (1 ≤ d.1.length ∧ d.1.length ≤ 8) && inB d.2.1 1 1000 && inB d.2.2.1 0 1000000 && decide (d.2.2.2.length ≤ 60000) && decide (∀ i, i < d.1.length → one18 d.1 i)

structure DeskP (d : Dk) : Prop where
  n : 1 ≤ d.1.length ∧ d.1.length ≤ 8
  e : 1 ≤ d.2.1 ∧ d.2.1 ≤ 1000
  t : 0 ≤ d.2.2.1 ∧ d.2.2.1 ≤ 1000000
  j : d.2.2.2.length ≤ 60000
  one : ∀ i, i < d.1.length → one18 d.1 i
theorem deskB_iff {d : Dk} : deskB d = true ↔ DeskP d := by
  unfold deskB inB
  simp only [Bool.and_eq_true, decide_eq_true_eq]
  exact ⟨fun ⟨⟨⟨⟨h1, h2⟩, h3⟩, h4⟩, h5⟩ => ⟨h1, h2, h3, h4, h5⟩, fun h => ⟨⟨⟨⟨h.n, h.e⟩, h.t⟩, h.j⟩, h.one⟩⟩
theorem needsB_no {own : Int} {ns : List Int} {i : Nat} (hi : i < ns.length) (h : ¬ need18 own ns i) : needsB own ns = false := decide_eq_false (fun e => h (e i hi))
theorem needsB_yes {own : Int} {ns : List Int} (h : ∀ i, i < ns.length → need18 own ns i) : needsB own ns = true := decide_eq_true h

/-! Are all needs of a task done? -/
def free18 (ts : List Ta) (t : Ta) : Bool := decide (∀ i, i < t.2.1.length → (ts.getD (t.2.1.getD i 0).toNat ta0).2.2.1 = 2)
theorem free18_no {ts : List Ta} {t : Ta} {i : Nat} (hi : i < t.2.1.length) (h : (ts.getD (t.2.1.getD i 0).toNat ta0).2.2.1 ≠ 2) : free18 ts t = false := decide_eq_false (fun e => h (e i hi))
theorem free18_yes {ts : List Ta} {t : Ta} (h : ∀ i, i < t.2.1.length → (ts.getD (t.2.1.getD i 0).toNat ta0).2.2.1 = 2) : free18 ts t = true := decide_eq_true h

/-! Lent: the first that can be. -/
def can18 (d : Dk) (i : Nat) : Prop := (d.1.getD i ta0).2.2.1 ≠ 2 ∧ free18 d.1 (d.1.getD i ta0) = true ∧ ¬ ((d.1.getD i ta0).2.2.1 = 1 ∧ d.2.2.1 < (d.1.getD i ta0).2.2.2.2.1)
instance (d : Dk) (i : Nat) : Decidable (can18 d i) := by unfold can18; infer_instance
def lendGo (d : Dk) : Nat → Nat → Option Nat
  | 0, _ => none
  | k + 1, i => if can18 d i then some i else lendGo d k (i + 1)
def lendAt (d : Dk) : Option Nat := lendGo d d.1.length 0
def leased18 (d : Dk) (worker : Int) (t : Ta) : Ta := (t.1, t.2.1, 1, worker, (if d.2.2.1 + 10 ≤ 1000000 then d.2.2.1 + 10 else 1000000), t.2.2.2.2.2)
def lend18 (d : Dk) (worker : Int) : Dk × Int :=
  if inB worker 0 3 = true then
    match lendAt d with
    | some i => ((d.1.set i (leased18 d worker (d.1.getD i ta0)), d.2), (i : Int))
    | none => (d, -1)
  else (d, -1)
def lentV (d : Dk) (worker : Int) : Dk × Int := if deskB d = true then lend18 d worker else (dk0, -1)
theorem lendGo_some {d : Dk} : ∀ {k i j : Nat}, lendGo d k i = some j → i ≤ j ∧ j < i + k ∧ can18 d j ∧ ∀ q, i ≤ q → q < j → ¬ can18 d q
  | 0, _, _, h => by cases h
  | k + 1, i, j, h => by
    unfold lendGo at h
    split at h
    · rename_i hc
      injection h with h
      subst h
      exact ⟨Nat.le_refl _, by omega, hc, fun q h1 h2 => by omega⟩
    · rename_i hc
      obtain ⟨h1, h2, h3, h4⟩ := lendGo_some h
      refine ⟨by omega, by omega, h3, fun q hq hqj => ?_⟩
      rcases Nat.lt_or_ge i q with g | g
      · exact h4 q (by omega) hqj
      · obtain rfl : q = i := by omega
        exact hc
theorem lendGo_none {d : Dk} : ∀ {k i : Nat}, lendGo d k i = none → ∀ q, i ≤ q → q < i + k → ¬ can18 d q
  | 0, _, _, q, h1, h2 => by omega
  | k + 1, i, h, q, h1, h2 => by
    unfold lendGo at h
    split at h
    · cases h
    · rename_i hc
      rcases Nat.lt_or_ge i q with g | g
      · exact lendGo_none h q (by omega) (by omega)
      · obtain rfl : q = i := by omega
        exact hc
theorem lendGo_to {d : Dk} : ∀ {k i j : Nat}, i ≤ j → j < i + k → can18 d j → (∀ q, i ≤ q → q < j → ¬ can18 d q) → lendGo d k i = some j
  | 0, _, _, h1, h2, _, _ => by omega
  | k + 1, i, j, h1, h2, h3, h4 => by
    unfold lendGo
    rcases Nat.lt_or_ge i j with g | g
    · rw [if_neg (h4 i (Nat.le_refl _) g)]
      exact lendGo_to (by omega) (by omega) h3 (fun q a b => h4 q (by omega) b)
    · obtain rfl : j = i := by omega
      rw [if_pos h3]
theorem lendGo_to_none {d : Dk} : ∀ {k i : Nat}, (∀ q, i ≤ q → q < i + k → ¬ can18 d q) → lendGo d k i = none
  | 0, _, _ => rfl
  | k + 1, i, h => by
    unfold lendGo
    rw [if_neg (h i (Nat.le_refl _) (by omega))]
    exact lendGo_to_none (fun q a b => h q (by omega) (by omega))

/-! Ticked, AllDone. -/
def tickedV (d : Dk) (n : Int) : Dk × Bool := if deskB d = true then (if inB n 0 (1000000 - d.2.2.1) = true then ((d.1, d.2.1, d.2.2.1 + n, d.2.2.2), true) else (d, false)) else (dk0, false)
def doneD (d : Dk) : Bool := decide (∀ i, i < d.1.length → (d.1.getD i ta0).2.2.1 = 2)
def allDoneV (d : Dk) : Bool := deskB d && doneD d

/-! A right desk stays right. -/
theorem getD_set18 (ts : List Ta) (i k : Nat) (t : Ta) (hi : i < ts.length) : (ts.set i t).getD k ta0 = if k = i then t else ts.getD k ta0 := by
  simp only [List.getD_eq_getElem?_getD, List.getElem?_set]
  by_cases h : i = k
  · subst h; simp [hi]
  · rw [if_neg h, if_neg (fun e => h e.symm)]
theorem desk_set {d : Dk} (h : DeskP d) {i : Nat} (hi : i < d.1.length) {t : Ta} (hn : t.1 = (d.1.getD i ta0).1) (hne : t.2.1 = (d.1.getD i ta0).2.1) (hs : stateB t = true) {e n : Int} {j : List UInt8} (he : 1 ≤ e ∧ e ≤ 1000) (ht : 0 ≤ n ∧ n ≤ 1000000) (hj : j.length ≤ 60000) : DeskP (d.1.set i t, e, n, j) := by
  refine ⟨by simp only [List.length_set]; exact h.n, he, ht, hj, fun k hk => ?_⟩
  simp only [List.length_set] at hk
  obtain ⟨h1, h2, h3⟩ := h.one k hk
  have hnm : ∀ q, ((d.1.set i t).getD q ta0).1 = (d.1.getD q ta0).1 := fun q => by
    rw [getD_set18 _ _ _ _ hi]
    split
    · rename_i e; rw [e]; exact hn
    · rfl
  refine ⟨by rw [hnm]; exact h1, ?_, fun q hq => by rw [hnm, hnm]; exact h3 q hq⟩
  rw [getD_set18 _ _ _ _ hi]
  split
  · rename_i e
    subst e
    unfold taskB at h2 ⊢
    rw [Bool.and_eq_true] at h2 ⊢
    rw [hne]
    exact ⟨h2.1, hs⟩
  · exact h2
theorem lent_ok {d : Dk} {worker : Int} (h : deskB d = true) : deskB (lentV d worker).1 = true := by
  unfold lentV
  rw [if_pos h]
  unfold lend18
  split
  · rename_i hw
    have hp := deskB_iff.1 h
    split
    · rename_i i hi
      obtain ⟨_, h2, h3, _⟩ := lendGo_some hi
      rw [Nat.zero_add] at h2
      obtain ⟨ho, hk, _⟩ := hp.one i h2
      unfold taskB at hk
      rw [Bool.and_eq_true] at hk
      have hst := hk.2
      suffices hs : stateB (leased18 d worker (d.1.getD i ta0)) = true by
        exact deskB_iff.2 (desk_set (e := d.2.1) (n := d.2.2.1) (j := d.2.2.2) hp h2 (t := leased18 d worker (d.1.getD i ta0)) rfl rfl hs hp.e hp.t hp.j)
      have hnow := hp.t
      unfold stateB leased18 at *
      simp only at hst ⊢
      rw [if_neg (by omega), if_pos trivial]
      have hkey : (d.1.getD i ta0).2.2.2.2.2 = 0 := by
        unfold can18 at h3
        split at hst
        · exact (of_decide_eq_true hst).2.2
        · split at hst
          · rw [Bool.and_eq_true] at hst; exact of_decide_eq_true hst.2
          · split at hst
            · rename_i e; exact absurd e h3.1
            · cases hst
      rw [Bool.and_eq_true, Bool.and_eq_true]
      refine ⟨⟨hw, ?_⟩, decide_eq_true hkey⟩
      unfold inB
      rw [decide_eq_true_eq]
      split <;> omega
    · exact h
  · exact h
theorem ticked_ok {d : Dk} {n : Int} (h : deskB d = true) : deskB (tickedV d n).1 = true ∧ ((tickedV d n).2 = true → (tickedV d n).1.2.2.1 = d.2.2.1 + n) := by
  unfold tickedV
  rw [if_pos h]
  have hp := deskB_iff.1 h
  have hnow := hp.t
  split
  · rename_i hn
    unfold inB at hn
    have hn := of_decide_eq_true hn
    exact ⟨deskB_iff.2 ⟨hp.n, hp.e, ⟨by show 0 ≤ d.2.2.1 + n; omega, by show d.2.2.1 + n ≤ 1000000; omega⟩, hp.j, hp.one⟩, fun _ => rfl⟩
  · exact ⟨h, fun e => by cases e⟩

end Go.Proofs.Ytinojgaekfknkaa

/-! The contract of chapter 6's specification: the node of a word. -/
namespace Go.Proofs.Ytinojgaekfknkaa
open Go.RowKit

theorem part_le (ws : List (List UInt8)) (j : Nat) : (ws.getD j []).length ≤ ws.flatten.length := by
  induction ws generalizing j with
  | nil => simp
  | cons x r ih =>
    cases j with
    | zero => simp
    | succ j => have := ih j; simp only [List.getD_cons_succ, List.flatten_cons, List.length_append]; omega

/-- Four cells of one block are written. -/
theorem four_set (w : World) (b : Nat) (n : Nd) {u0 u1 u2 u3 : Value} (r0 : w.cell? ⟨b, 0, none⟩ = some u0) (r1 : w.cell? ⟨b, 1, none⟩ = some u1) (r2 : w.cell? ⟨b, 2, none⟩ = some u2) (r3 : w.cell? ⟨b, 3, none⟩ = some u3) :
    let X := ((((w.setCell ⟨b, 0, none⟩ (.int .i64 n.1)).setCell ⟨b, 1, none⟩ (.int .i64 n.2.1)).setCell ⟨b, 2, none⟩ (.string ⟨n.2.2.1.toArray⟩)).setCell ⟨b, 3, none⟩ (.string ⟨n.2.2.2.toArray⟩))
    X.cell? ⟨b, 0, none⟩ = some (.int .i64 n.1) ∧ X.cell? ⟨b, 1, none⟩ = some (.int .i64 n.2.1) ∧ X.cell? ⟨b, 2, none⟩ = some (.string ⟨n.2.2.1.toArray⟩) ∧ X.cell? ⟨b, 3, none⟩ = some (.string ⟨n.2.2.2.toArray⟩) := by
  intro X
  have o : ∀ (W : World) (i j : Nat) (v : Value), i ≠ j → (W.setCell ⟨b, i, none⟩ v).cell? ⟨b, j, none⟩ = W.cell? ⟨b, j, none⟩ := fun W i j v h => World.cell?_setCell_other _ _ _ _ (by intro e; injection e with _ e; omega)
  refine ⟨?_, ?_, ?_, ?_⟩
  · exact (o _ 3 0 _ (by omega)).trans ((o _ 2 0 _ (by omega)).trans ((o _ 1 0 _ (by omega)).trans (World.cell?_setCell_same _ _ _ r0)))
  · exact (o _ 3 1 _ (by omega)).trans ((o _ 2 1 _ (by omega)).trans (World.cell?_setCell_same _ _ _ ((o _ 0 1 _ (by omega)).trans r1)))
  · exact (o _ 3 2 _ (by omega)).trans (World.cell?_setCell_same _ _ _ ((o _ 1 2 _ (by omega)).trans ((o _ 0 2 _ (by omega)).trans r2)))
  · exact World.cell?_setCell_same _ _ _ ((o _ 2 3 _ (by omega)).trans ((o _ 1 3 _ (by omega)).trans ((o _ 0 3 _ (by omega)).trans r3)))

theorem four_below {w W : World} (h : Below w.heap.size w W) (u0 u1 u2 u3 : Value) : Below w.heap.size w ((((W.setCell ⟨w.heap.size, 0, none⟩ u0).setCell ⟨w.heap.size, 1, none⟩ u1).setCell ⟨w.heap.size, 2, none⟩ u2).setCell ⟨w.heap.size, 3, none⟩ u3) :=
  (((h.setCell (p := ⟨w.heap.size, 0, none⟩) (Nat.le_refl _) _).setCell (p := ⟨w.heap.size, 1, none⟩) (Nat.le_refl _) _).setCell (p := ⟨w.heap.size, 2, none⟩) (Nat.le_refl _) _).setCell (p := ⟨w.heap.size, 3, none⟩) (Nat.le_refl _) _


end Go.Proofs.Ytinojgaekfknkaa

/-! The contract of chapter 6's specification: ReadTree. -/
namespace Go.Proofs.Ytinojgaekfknkaa
open Go.RowKit

/-- What a row of nodes holds. -/
def nodesV : List Nd → List Value
  | [] => []
  | n :: r => .int .i64 n.1 :: .int .i64 n.2.1 :: .string ⟨n.2.2.1.toArray⟩ :: .string ⟨n.2.2.2.toArray⟩ :: nodesV r

theorem nodesV_len (ns : List Nd) : (nodesV ns).length = ns.length * 4 := by
  induction ns with
  | nil => rfl
  | cons n r ih => simp only [nodesV, List.length_cons, ih]; omega

theorem nodesV_append (x y : List Nd) : nodesV (x ++ y) = nodesV x ++ nodesV y := by
  induction x with
  | nil => rfl
  | cons n r ih => simp only [List.cons_append, nodesV, ih]

theorem nodesV_one (ns : List Nd) : ∀ u ∈ nodesV ns, u.oneCell' = true := by
  induction ns with
  | nil => intro u hu; cases hu
  | cons n r ih =>
    intro u hu
    simp only [nodesV, List.mem_cons] at hu
    rcases hu with rfl | rfl | rfl | rfl | h
    · rfl
    · rfl
    · rfl
    · rfl
    · exact ih u h

theorem nodesV_at (ns : List Nd) (j : Nat) (hj : j < ns.length) : (nodesV ns)[j * 4]? = some (.int .i64 (ns.getD j nd0).1) ∧ (nodesV ns)[j * 4 + 1]? = some (.int .i64 (ns.getD j nd0).2.1) ∧ (nodesV ns)[j * 4 + 2]? = some (.string ⟨(ns.getD j nd0).2.2.1.toArray⟩) ∧ (nodesV ns)[j * 4 + 3]? = some (.string ⟨(ns.getD j nd0).2.2.2.toArray⟩) := by
  induction ns generalizing j with
  | nil => simp at hj
  | cons n r ih =>
    cases j with
    | zero => simp [nodesV]
    | succ j =>
      have h := ih j (by simpa using hj)
      rw [show (j + 1) * 4 = j * 4 + 1 + 1 + 1 + 1 by omega]
      simpa [nodesV] using h

/-- A row of nodes that a call owns is a list of nodes. -/
theorem split_part (b : UInt8) (l : List UInt8) (j : Nat) : ((splitL b l).getD j []).length ≤ l.length := by
  have h1 : (splitGo b [] l).flatten.length ≤ l.length := by
    have := splitGo_flat b l []
    rw [List.length_nil, Nat.zero_add] at this
    exact this
  have h2 := part_le (splitL b l) j
  unfold splitL at h2 ⊢
  exact Nat.le_trans h2 h1

theorem readN_short (s : List UInt8) : (readN s).2.2.1.length ≤ s.length ∧ (readN s).2.2.2.length ≤ s.length := by
  unfold readN
  split
  · simp
  split
  · simp
  split
  · simp
  split
  · simp
  split
  · simp
  split
  · simp
  split
  · split
    · have h1 := split_part 47 s.tail 0
      have h2 := split_part 46 ((splitL 47 s.tail).getD 0 []) 0
      have h3 := split_part 46 ((splitL 47 s.tail).getD 0 []) 1
      have h4 : s.tail.length ≤ s.length := by rw [List.length_tail]; omega
      constructor
      · show ((splitL 46 ((splitL 47 s.tail).getD 0 [])).getD 0 []).length ≤ _; omega
      · show ((splitL 46 ((splitL 47 s.tail).getD 0 [])).getD 1 []).length ≤ _; omega
    · simp
  split
  · simp
  · simp

theorem readT_short (s : List UInt8) (h : s.length ≤ 2000) : ShortT (readT s) := by
  intro j
  unfold readT
  by_cases hj : j < (splitL 32 s).length
  · have hg : ((splitL 32 s).map readN).getD j nd0 = readN ((splitL 32 s).getD j []) := by simp [List.getD, hj]
    rw [hg]
    have h1 := readN_short ((splitL 32 s).getD j [])
    have h2 := split_part 32 s j
    omega
  · have hg : ((splitL 32 s).map readN).getD j nd0 = nd0 := by simp [List.getD, hj]
    rw [hg]; simp [nd0]

theorem map_step2 (ws : List (List UInt8)) (k : Nat) (hk : k < ws.length) : (ws.map readN).take (k + 1) = (ws.map readN).take k ++ [readN (ws.getD k [])] := by
  rw [← List.map_take, ← List.map_take]
  have hg : ws.getD k [] = ws[k] := by simp [List.getD, hk]
  rw [hg, List.take_succ_eq_append_getElem hk, List.map_append]; rfl


end Go.Proofs.Ytinojgaekfknkaa

/-! The contracts of chapter 6's specification: l6Parts, PartsOf. -/
namespace Go.Proofs.Ytinojgaekfknkaa
open Go.RowKit

/-- What a row of numbers holds. -/
def intsV (l : List Int) : List Value := l.map (fun i => Value.int .i64 i)
theorem intsV_len (l : List Int) : (intsV l).length = l.length := by simp [intsV]
theorem intsV_append (x y : List Int) : intsV (x ++ y) = intsV x ++ intsV y := by simp [intsV]
theorem intsV_one (l : List Int) : ∀ u ∈ intsV l, u.oneCell' = true := by
  intro u hu
  simp only [intsV, List.mem_map] at hu
  obtain ⟨i, _, rfl⟩ := hu
  rfl
theorem infoInt : (Try.prog.info? 2).map (fun i => (i.zero, i.size, i.bytes)) = some (some (.int .i64 0), 1, 8) := by kernel_rfl

theorem new_int (w : World) (n : Int) : ∀ j u, (intsV [n])[j]? = some u → (w.alloc (.cells #[.int .i64 n] 2)).cell? ((⟨w.heap.size, 0, none⟩ : Addr).add j) = some u := by
  intro j u hu
  have e : (⟨w.heap.size, 0, none⟩ : Addr).add j = ⟨w.heap.size, j, none⟩ := by unfold Addr.add; split <;> simp_all
  rw [e]
  match j, hu with
  | 0, hu => simp [intsV] at hu; subst hu; simp
  | j + 1, hu => simp [intsV] at hu

theorem endV_le (l : List Nd) (a : Int) : -1 ≤ endV l a ∧ endV l a ≤ l.length := by
  by_cases h : 0 ≤ endV l a
  · by_cases ha : a < 0 ∨ (l.length : Int) ≤ a
    · rw [endV_out l a ha] at h; omega
    · obtain ⟨k, rfl⟩ : ∃ k : Nat, a = (k : Int) := Int.eq_ofNat_of_zero_le (by omega)
      have := end_parts h
      omega
  · by_cases ha : a < 0 ∨ (l.length : Int) ≤ a
    · rw [endV_out l a ha]; omega
    · obtain ⟨k, rfl⟩ : ∃ k : Nat, a = (k : Int) := Int.eq_ofNat_of_zero_le (by omega)
      rw [endV_nat] at h ⊢
      unfold endN at h ⊢
      rw [if_pos (by omega)] at h ⊢
      cases he : endGo (l.drop k) 1 with
      | none => simp only; omega
      | some d => rw [he] at h; simp only at h; omega



end Go.Proofs.Ytinojgaekfknkaa
