/-
  Parts of one proof, one behind the other: Math1, Math4, Math5, Math5N, Math5J, Math6, Math6R, Math6P, MathT, Own, RegT, Tk, TkL, HexOf.
-/
import Derived.WalkKit
import Derived.IntWalk
import Derived.Laws.Bits128
import Derived.Test.YtenaaneckobdpaaGreatRows
import Derived.WalkLawsBesides
import Derived.Laws.OwnMore
import Derived.Laws.IdiomStrings
import Derived.Maps.AppendAt
import Derived.OpenShut
import Derived.Handy
import Derived.Deep.RegionHeld
import Derived.RegionTactic
import Derived.OrdersHeld
namespace Go.Proofs.YtenaaneckobdpaaGreat
open Go.RowKit
theorem ret_int {k : IntKind} {a b : Int} (h : a = b) : Ending.returned (.int k a) = .returned (.int k b) := by rw [h]
theorem and255 (n : Int) : bits .and .i64 n 255 = n % 256 := by
 have h15 : (BitVec.ofInt 64 255).toNat = 2 ^ 8 - 1 := by decide
 have key : (BitVec.ofInt 64 n &&& BitVec.ofInt 64 255).toNat = (n % ((2 ^ 64 : Nat) : Int)).toNat % 2 ^ 8 := by
  rw [BitVec.toNat_and, BitVec.toNat_ofInt, h15, Nat.and_two_pow_sub_one_eq_mod]
 show IntKind.i64.wrap ((BitVec.ofInt 64 n &&& BitVec.ofInt 64 255).toNat : Nat) = n % 256
 rw [key, IntKind.wrap_i64]
 omega
def inB (x lo hi : Int) : Bool := decide (lo ≤ x ∧ x ≤ hi)
theorem zdP (x lo hi : Int) (h1 : lo ≤ x) (h2 : x ≤ hi) : inB x lo hi = true := decide_eq_true ⟨h1, h2⟩
theorem zdx (x lo hi : Int) (h : x < lo ∨ hi < x) : inB x lo hi = false := decide_eq_false (by omega)
def zcI (n : Int) : Int := (n + 2147483648) % 4294967296 - 2147483648
theorem wrapWW (n : Int) : wrap64 (wrap32 n) = zcI n := by unfold wrap64 wrap32 zcI; omega
theorem mul_bd (a b : Int) (ha : -2147483648 ≤ a ∧ a ≤ 2147483647) (hb : -2147483648 ≤ b ∧ b ≤ 2147483647) : -4611686018427387904 ≤ a * b ∧ a * b ≤ 4611686018427387904 := by
 have h : (a * b).natAbs ≤ 2147483648 * 2147483648 := by
  rw [Int.natAbs_mul]
  exact Nat.mul_le_mul (by omega) (by omega)
 omega
theorem tdiv_bd (a b : Int) (ha : -2147483648 ≤ a ∧ a ≤ 2147483647) : -2147483648 ≤ a.tdiv b ∧ a.tdiv b ≤ 2147483648 := by
 have h : (a.tdiv b).natAbs ≤ a.natAbs := by
  rw [Int.natAbs_tdiv]
  exact Nat.div_le_self _ _
 omega
theorem wrapW_bd (n : Int) : -2147483648 ≤ zcI n ∧ zcI n ≤ 2147483647 := by unfold zcI; omega
def zbO (kind a b : Int) : Int :=
 if (-2147483648 ≤ a ∧ a ≤ 2147483647) ∧ (-2147483648 ≤ b ∧ b ≤ 2147483647) then
  (if kind = 3 then zcI (a + b) else if kind = 4 then zcI (a - b) else if kind = 5 then zcI (a * b) else if kind = 6 ∧ b ≠ 0 then zcI (a.tdiv b) else 0)
 else 0
def zce (kind a b : Int) : Bool :=
 decide (((-2147483648 ≤ a ∧ a ≤ 2147483647) ∧ (-2147483648 ≤ b ∧ b ≤ 2147483647)) ∧ (kind = 3 ∨ kind = 4 ∨ kind = 5 ∨ kind = 6 ∧ b ≠ 0))
theorem done_in (kind a b : Int) (h : (-2147483648 ≤ a ∧ a ≤ 2147483647) ∧ (-2147483648 ≤ b ∧ b ≤ 2147483647)) :
 (kind = 3 → zbO kind a b = zcI (a + b) ∧ zce kind a b = true) ∧ (kind = 4 → zbO kind a b = zcI (a - b) ∧ zce kind a b = true) ∧ (kind = 5 → zbO kind a b = zcI (a * b) ∧ zce kind a b = true) ∧
 (kind = 6 → b ≠ 0 → zbO kind a b = zcI (a.tdiv b) ∧ zce kind a b = true) ∧ (kind ≠ 3 → kind ≠ 4 → kind ≠ 5 → ¬ (kind = 6 ∧ b ≠ 0) → zbO kind a b = 0 ∧ zce kind a b = false) := by
 unfold zbO zce
 rw [if_pos h]
 refine ⟨fun e => ?_, fun e => ?_, fun e => ?_, fun e hb => ?_, fun e3 e4 e5 e6 => ?_⟩
 ·
  subst e; exact ⟨if_pos rfl, decide_eq_true ⟨h, Or.inl rfl⟩⟩
 ·
  subst e; exact ⟨by simp, decide_eq_true ⟨h, Or.inr (Or.inl rfl)⟩⟩
 ·
  subst e; exact ⟨by simp, decide_eq_true ⟨h, Or.inr (Or.inr (Or.inl rfl))⟩⟩
 ·
  subst e; exact ⟨by simp [hb], decide_eq_true ⟨h, Or.inr (Or.inr (Or.inr ⟨rfl, hb⟩))⟩⟩
 ·
  exact ⟨by rw [if_neg e3, if_neg e4, if_neg e5, if_neg e6], decide_eq_false (fun e => by rcases e.2 with h | h | h | h <;> first | exact e3 h | exact e4 h | exact e5 h | exact e6 h)⟩
theorem zi3 (kind a b : Int) : -2147483648 ≤ zbO kind a b ∧ zbO kind a b ≤ 2147483647 := by
 unfold zbO
 split
 ·
  repeat' split
  all_goals first | exact wrapW_bd _ | omega
 ·
  omega
def zas (b : UInt8) : List UInt8 → List UInt8 → List (List UInt8)
 | cur, [] => [cur]
 | cur, c :: r => if c = b then cur :: zas b [] r else zas b (cur ++ [c]) r
def zaD (b : UInt8) (l : List UInt8) : List (List UInt8) := zas b [] l
theorem zdG (b : UInt8) (l : List UInt8) : ∀ cur, zas b cur l ≠ [] := by
 induction l with
 | nil => intro cur; simp [zas]
 | cons c r ih => intro cur; rw [zas]; split <;> simp [ih]
theorem zfW (b : UInt8) (l : List UInt8) : ∀ cur, (zas b cur l).flatten.length ≤ cur.length + l.length := by
 induction l with
 | nil => intro cur; simp [zas]
 | cons c r ih =>
  intro cur
  rw [zas]
  split
  ·
   have := ih []; rw [List.flatten_cons, List.length_append]; simp at this ⊢; omega
  ·
   have := ih (cur ++ [c]); rw [List.length_append] at this; simp at this ⊢; omega
def zfb (b : UInt8) : List (List UInt8) → List UInt8
 | [] => []
 | [x] => x
 | x :: y :: r => x ++ [b] ++ zfb b (y :: r)
theorem zh9 (b : UInt8) (x : List UInt8) (r : List (List UInt8)) (h : r ≠ []) : zfb b (x :: r) = x ++ [b] ++ zfb b r := by
 cases r with
 | nil => exact absurd rfl h
 | cons y q => rfl
theorem zgh (b : UInt8) (l : List UInt8) : ∀ cur, zfb b (zas b cur l) = cur ++ l := by
 induction l with
 | nil => intro cur; simp [zas, zfb]
 | cons c r ih =>
  intro cur
  rw [zas]
  split
  ·
   rename_i h
   rw [zh9 b cur _ (zdG b r []), ih, h]
   simp
  ·
   rw [ih]; simp
theorem ziT (b : UInt8) (l : List UInt8) (out : List (List UInt8)) (cur : List UInt8) (i : Nat) (hi : i < l.length) (he : l[i] = b) (h : out ++ zas b cur (l.drop i) = zaD b l) : (out ++ [cur]) ++ zas b [] (l.drop (i + 1)) = zaD b l := by
 rw [List.drop_eq_getElem_cons hi, zas, if_pos he] at h
 rw [← h]; simp
theorem zic (b : UInt8) (l : List UInt8) (out : List (List UInt8)) (cur : List UInt8) (i : Nat) (hi : i < l.length) (he : ¬ l[i] = b) (h : out ++ zas b cur (l.drop i) = zaD b l) : out ++ zas b (cur ++ [l[i]]) (l.drop (i + 1)) = zaD b l := by
 rw [List.drop_eq_getElem_cons hi, zas, if_neg he] at h
 exact h
theorem ziU (b : UInt8) (l : List UInt8) (out : List (List UInt8)) (cur : List UInt8) (h : out ++ zas b cur (l.drop l.length) = zaD b l) : out ++ [cur] = zaD b l := by
 rw [List.drop_length, zas] at h
 exact h
theorem cut_snoc (l : List UInt8) (f i : Nat) (hf : f ≤ i) (hi : i < l.length) : (l.drop f).take (i + 1 - f) = (l.drop f).take (i - f) ++ [l[i]] := by
 have hlt : i - f < (l.drop f).length := by rw [List.length_drop]; omega
 rw [show i + 1 - f = i - f + 1 by omega, List.take_succ_eq_append_getElem hlt, List.getElem_drop]
 congr 2
 congr 1
 omega
def zaz (l : List UInt8) : Bool := decide (1 ≤ l.length ∧ l.length ≤ 8) && l.all (fun c => decide (97 ≤ c.toNat ∧ c.toNat ≤ 122))
theorem zeb (l : List UInt8) (k : Nat) (hk : k < l.length) (h : ¬ (97 ≤ l[k].toNat ∧ l[k].toNat ≤ 122)) : zaz l = false := by
 unfold zaz
 have : l.all (fun c => decide (97 ≤ c.toNat ∧ c.toNat ≤ 122)) = false := by
  rw [List.all_eq_false]
  exact ⟨l[k], List.getElem_mem hk, by simpa using h⟩
 rw [this, Bool.and_false]
theorem zga (l : List UInt8) (h : ∀ k (hk : k < l.length), 97 ≤ l[k].toNat ∧ l[k].toNat ≤ 122) : zaz l = inB (l.length : Int) 1 8 := by
 have : l.all (fun c => decide (97 ≤ c.toNat ∧ c.toNat ≤ 122)) = true := by
  rw [List.all_eq_true]
  intro c hc
  obtain ⟨k, hk, rfl⟩ := List.getElem_of_mem hc
  exact decide_eq_true (h k hk)
 unfold zaz inB
 rw [this, Bool.and_true]
 exact decide_eq_decide.2 (by omega)
def digit (n : Nat) : UInt8 := UInt8.ofNat (48 + n % 10)
def digL (n : Nat) : List UInt8 := if n < 10 then [digit n] else digL (n / 10) ++ [digit n]
termination_by n
decreasing_by omega
theorem zfh {n : Nat} (h : n < 10) : digL n = [digit n] := by rw [digL, if_pos h]
theorem digL_big {n : Nat} (h : 10 ≤ n) : digL n = digL (n / 10) ++ [digit n] := by rw [digL, if_neg (by omega)]
theorem zfP : ∀ (k n : Nat), n < 10 ^ (k + 1) → (digL n).length ≤ k + 1
 | 0, n, h => by rw [zfh (by simpa using h)]; simp
 | k + 1, n, h => by
  by_cases hn : n < 10
  ·
   rw [zfh hn]; simp
  ·
   rw [digL_big (by omega)]
   have := zfP k (n / 10) (by rw [Nat.pow_succ] at h; omega)
   simp; omega
def isDig (c : UInt8) : Prop := 48 ≤ c.toNat ∧ c.toNat ≤ 57
instance (c : UInt8) : Decidable (isDig c) := by unfold isDig; infer_instance
def intL (n : Int) : List UInt8 := if n < 0 then 45 :: digL n.natAbs else digL n.natAbs

abbrev Nd := Int × Int × List UInt8 × List UInt8
def zcd (n : Nd) : Prop :=
 (n.1 = 1 ∧ (-2147483648 ≤ n.2.1 ∧ n.2.1 ≤ 2147483647) ∧ n.2.2.1 = [] ∧ n.2.2.2 = []) ∨
 (n.1 = 2 ∧ (0 ≤ n.2.1 ∧ n.2.1 ≤ 2) ∧ n.2.2.1 = [] ∧ n.2.2.2 = []) ∨
 ((3 ≤ n.1 ∧ n.1 ≤ 7) ∧ n.2.1 = 0 ∧ n.2.2.1 = [] ∧ n.2.2.2 = []) ∨
 (n.1 = 8 ∧ (0 ≤ n.2.1 ∧ n.2.1 ≤ 3) ∧ zaz n.2.2.1 = true ∧ zaz n.2.2.2 = true)
instance (n : Nd) : Decidable (zcd n) := by unfold zcd; infer_instance
def zbu (n : Nd) : Bool := decide (zcd n)
theorem zaW {n : Nd} : zbu n = true ↔ zcd n := by unfold zbu; simp
theorem zhS {n : Nd} (h : ¬ zcd n) : zbu n = false := decide_eq_false h
def zae (n : Nd) : Nat := if 3 ≤ n.1 ∧ n.1 ≤ 6 then 2 else if n.1 = 7 then 3 else if n.1 = 8 then n.2.1.toNat else 0
def zbm (n : Nd) : Int := if 3 ≤ n.1 ∧ n.1 ≤ 6 then 2 else if n.1 = 7 then 3 else if n.1 = 8 then n.2.1 else 0
theorem zbc {n : Nd} (h : zbu n = true) : zbm n = (zae n : Int) ∧ zae n ≤ 3 := by
 have hp := zaW.1 h
 unfold zcd at hp
 unfold zbm zae
 rcases hp with ⟨h1, _⟩ | ⟨h1, _⟩ | ⟨h1, _⟩ | ⟨h1, h2, _⟩
 ·
  rw [if_neg (by omega), if_neg (by omega), if_neg (by omega), if_neg (by omega), if_neg (by omega), if_neg (by omega)]; omega
 ·
  rw [if_neg (by omega), if_neg (by omega), if_neg (by omega), if_neg (by omega), if_neg (by omega), if_neg (by omega)]; omega
 ·
  by_cases e : n.1 = 7
  ·
   rw [if_neg (by omega), if_pos e, if_neg (by omega), if_pos e]; omega
  ·
   rw [if_pos (by omega), if_pos (by omega)]; omega
 ·
  rw [if_neg (by omega), if_neg (by omega), if_pos h1, if_neg (by omega), if_neg (by omega), if_pos h1]; omega
def zbd : List Nd → Nat → Option Nat
 | _, 0 => some 0
 | [], _ + 1 => none
 | n :: r, o + 1 => if zbu n = true then (zbd r (o + zae n)).map (· + 1) else none
theorem zbE (l : List Nd) : zbd l 0 = some 0 := by cases l <;> rfl
theorem zcb (o : Nat) : zbd [] (o + 1) = none := rfl
theorem zb8 (n : Nd) (r : List Nd) (o : Nat) : zbd (n :: r) (o + 1) = if zbu n = true then (zbd r (o + zae n)).map (· + 1) else none := rfl
theorem zi2 : ∀ (l : List Nd) (o d : Nat), zbd l o = some d → d ≤ l.length
 | l, 0, d, h => by rw [zbE] at h; injection h with h; omega
 | [], o + 1, d, h => by rw [zcb] at h; cases h
 | n :: r, o + 1, d, h => by
  rw [zb8] at h
  split at h
  ·
   rw [Option.map_eq_some_iff] at h
   obtain ⟨e, he, rfl⟩ := h
   have := zi2 r _ e he
   simp; omega
  ·
   cases h
def endN (l : List Nd) (k : Nat) : Int := if k < l.length then (match zbd (l.drop k) 1 with | some d => (k : Int) + d | none => -1) else -1
def endV (l : List Nd) (a : Int) : Int := if a < 0 then -1 else endN l a.toNat
theorem zcl (l : List Nd) (k : Nat) : endV l (k : Int) = endN l k := by unfold endV; rw [if_neg (by omega), Int.toNat_natCast]
theorem zfN (l : List Nd) (a : Int) (h : a < 0 ∨ (l.length : Int) ≤ a) : endV l a = -1 := by
 unfold endV
 by_cases h0 : a < 0
 ·
  rw [if_pos h0]
 ·
  rw [if_neg h0]; unfold endN; rw [if_neg (by omega)]
def zb9 (l : List Nd) : Bool := decide ((1 ≤ l.length ∧ l.length ≤ 60) ∧ endV l 0 = (l.length : Int))
theorem zka {l : List Nd} {k o : Nat} (hk : k < l.length) (hn : zbu l[k] = true) : zbd (l.drop k) (o + 1) = (zbd (l.drop (k + 1)) (o + zae l[k])).map (· + 1) := by
 rw [List.drop_eq_getElem_cons hk, zb8, if_pos hn]
theorem end_bad {l : List Nd} {k o : Nat} (hk : k < l.length) (hn : zbu l[k] = false) : zbd (l.drop k) (o + 1) = none := by
 rw [List.drop_eq_getElem_cons hk, zb8, if_neg (by rw [hn]; simp)]
theorem end_over {l : List Nd} {k o : Nat} (hk : l.length ≤ k) : zbd (l.drop k) (o + 1) = none := by
 rw [List.drop_eq_nil_of_le hk, zcb]
theorem zdF (b : UInt8) (l : List UInt8) : ∀ cur, (∀ c ∈ l, c ≠ b) → zas b cur l = [cur ++ l] := by
 induction l with
 | nil => intro cur _; simp [zas]
 | cons c r ih =>
  intro cur h
  rw [zas, if_neg (h c (by simp)), ih _ (fun x hx => h x (by simp [hx]))]
  simp
theorem zdn (b : UInt8) (x y : List UInt8) : ∀ cur, (∀ c ∈ x, c ≠ b) → zas b cur (x ++ b :: y) = (cur ++ x) :: zas b [] y := by
 induction x with
 | nil => intro cur _; simp [zas]
 | cons c r ih =>
  intro cur h
  rw [List.cons_append, zas, if_neg (h c (by simp)), ih _ (fun z hz => h z (by simp [hz]))]
  simp
theorem zci {l : List UInt8} (h : zaz l = true) : (1 ≤ l.length ∧ l.length ≤ 8) ∧ ∀ c ∈ l, 97 ≤ c.toNat ∧ c.toNat ≤ 122 := by
 unfold zaz at h
 rw [Bool.and_eq_true, List.all_eq_true] at h
 exact ⟨of_decide_eq_true h.1, fun c hc => of_decide_eq_true (h.2 c hc)⟩
theorem zeK : ∀ (l : List Nd) (o d : Nat), zbd l o = some d → ∀ n ∈ l.take d, zbu n = true
 | l, 0, d, h, n, hn => by rw [zbE] at h; injection h with h; subst h; simp at hn
 | [], o + 1, d, h, n, hn => by rw [zcb] at h; cases h
 | m :: r, o + 1, d, h, n, hn => by
  rw [zb8] at h
  split at h
  ·
   rename_i hm
   rw [Option.map_eq_some_iff] at h
   obtain ⟨e, he, rfl⟩ := h
   rw [List.take_succ_cons] at hn
   rcases List.mem_cons.1 hn with rfl | hn
   ·
    exact hm
   ·
    exact zeK r _ e he n hn
  ·
   cases h
theorem zhz {l : List Nd} (h : zb9 l = true) : (1 ≤ l.length ∧ l.length ≤ 60) ∧ zbd l 1 = some l.length := by
 obtain ⟨h1, h2⟩ := of_decide_eq_true h
 refine ⟨h1, ?_⟩
 have e := zcl l 0
 rw [Int.natCast_zero] at e
 rw [e] at h2
 unfold endN at h2
 rw [if_pos (by omega), List.drop_zero] at h2
 cases hg : zbd l 1 with
 | none => rw [hg] at h2; simp at h2
 | some d => rw [hg] at h2; simp at h2; congr 1; omega
theorem zeS {l : List Nd} (h : zb9 l = true) : ∀ n ∈ l, zbu n = true := by
 obtain ⟨_, h2⟩ := zhz h
 intro n hn
 exact zeK l 1 l.length h2 n (by rw [List.take_length]; exact hn)
theorem zdA : ∀ (l : List Nd) (a b : Nat), zbd l (a + b) = (zbd l a).bind (fun d => (zbd (l.drop d) b).map (d + ·))
 | l, 0, b => by
  rw [Nat.zero_add, zbE]
  simp
 | [], a + 1, b => by
  rw [show a + 1 + b = (a + b) + 1 by omega, zcb, zcb]; rfl
 | n :: r, a + 1, b => by
  rw [show a + 1 + b = (a + b) + 1 by omega, zb8, zb8]
  split
  ·
   rw [show a + b + zae n = (a + zae n) + b by omega, zdA r (a + zae n) b]
   cases zbd r (a + zae n) with
   | none => rfl
   | some d =>
    simp only [Option.bind_some, Option.map_some, List.drop_succ_cons, Option.map_map]
    congr 1
    funext x
    simp only [Function.comp]
    omega
  ·
   rfl
def zaj (l : List Nd) : Nat → Int → List Int
 | 0, _ => []
 | k + 1, next => next :: zaj l k (endV l next)
theorem zeq (l : List Nd) : ∀ k next, (zaj l k next).length = k
 | 0, _ => rfl
 | k + 1, next => by rw [zaj, List.length_cons, zeq l k]
def zd8 (l : List Nd) : Nat → Int → Int
 | 0, next => next
 | k + 1, next => zd8 l k (endV l next)
theorem zeJ {l : List Nd} {k d : Nat} (h : zbd (l.drop k) 1 = some d) (hk : k < l.length) : endN l k = (k : Int) + d := by
 unfold endN; rw [if_pos hk, h]
theorem zkc {l : List Nd} {o d : Nat} (h : zbd l (o + 1) = some d) : 1 ≤ d ∧ l ≠ [] := by
 cases l with
 | nil => rw [zcb] at h; cases h
 | cons n r =>
  rw [zb8] at h
  split at h
  ·
   rw [Option.map_eq_some_iff] at h
   obtain ⟨e, _, rfl⟩ := h
   exact ⟨by omega, by simp⟩
  ·
   cases h
theorem zgE (l : List Nd) : ∀ (o k d : Nat), zbd (l.drop k) o = some d → k + d ≤ l.length → zd8 l o (k : Int) = ((k + d : Nat) : Int)
 | 0, k, d, h, _ => by
  rw [zbE] at h
  injection h with h
  subst h
  rfl
 | o + 1, k, d, h, hle => by
  have h2 := zdA (l.drop k) 1 o
  rw [show 1 + o = o + 1 by omega, h] at h2
  cases he : zbd (l.drop k) 1 with
  | none => rw [he] at h2; simp at h2
  | some e =>
   rw [he] at h2
   simp only [Option.bind_some] at h2
   cases hf : zbd ((l.drop k).drop e) o with
   | none => rw [hf] at h2; simp at h2
   | some f =>
    rw [hf] at h2
    simp only [Option.map_some, Option.some.injEq] at h2
    have hk : k < l.length := by
     have := (zkc he).2
     rcases Nat.lt_or_ge k l.length with hx | hx
     ·
      exact hx
     ·
      exact absurd (List.drop_eq_nil_of_le hx) this
    rw [zd8, zcl, zeJ he hk]
    have := zgE l o (k + e) f (by rw [List.drop_drop] at hf; exact hf) (by omega)
    rw [show ((k : Int) + (e : Int)) = ((k + e : Nat) : Int) by omega, this]
    congr 1
    omega
theorem zan {l : List Nd} {k : Nat} (h : 0 ≤ endV l (k : Int)) : k < l.length ∧ zbu (l.getD k (0, 0, [], [])) = true ∧ zd8 l (zae (l.getD k (0, 0, [], []))) ((k : Int) + 1) = endV l (k : Int) ∧ (k : Int) < endV l (k : Int) ∧ endV l (k : Int) ≤ l.length := by
 rw [zcl] at h ⊢
 unfold endN at h
 by_cases hk : k < l.length
 ·
  rw [if_pos hk] at h
  cases he : zbd (l.drop k) 1 with
  | none => rw [he] at h; simp at h
  | some d =>
   have hd : l.drop k = l[k] :: l.drop (k + 1) := List.drop_eq_getElem_cons hk
   have hg : l.getD k (0, 0, [], []) = l[k] := by simp [List.getD, hk]
   rw [hg]
   have hle := zi2 _ _ _ he
   rw [List.length_drop] at hle
   have he2 := he
   rw [hd, show (1 : Nat) = 0 + 1 from rfl, zb8] at he2
   split at he2
   ·
    rename_i hn
    rw [Option.map_eq_some_iff] at he2
    obtain ⟨e, hee, rfl⟩ := he2
    have hc := zgE l (zae l[k]) (k + 1) e (by rw [← hee]; congr 1; omega) (by omega)
    rw [zeJ he hk]
    refine ⟨hk, hn, ?_, by omega, by omega⟩
    rw [show ((k : Int) + 1) = ((k + 1 : Nat) : Int) by omega, hc]
    omega
   ·
    cases he2
 ·
  rw [if_neg hk] at h; omega
section
theorem ba_ext {a b : ByteArray} (h : a.data.toList = b.data.toList) : a = b := by
 cases a; cases b; simp_all
end
def strV (ls : List (List UInt8)) : List Value := ls.map (fun l => Value.string ⟨l.toArray⟩)
theorem zfV (o : List (List UInt8)) (t : List UInt8) : strV o ++ [.string ⟨t.toArray⟩] = strV (o ++ [t]) := by simp [strV]
theorem strV_len (o : List (List UInt8)) : (strV o).length = o.length := by simp [strV]
theorem ziS (ls : List (List UInt8)) (j : Nat) (h : j < ls.length) : (strV ls)[j]? = some (.string ⟨ls[j].toArray⟩) := by
 simp [strV, List.getElem?_eq_getElem h]
theorem ziR (ls : List (List UInt8)) (m : Nat) : (strV ls).take m = strV (ls.take m) := by simp [strV, List.map_take]
theorem zjS : (Tryz.prog.info? 9).map (fun i => (i.zero, i.size, i.bytes)) = some (some (.string ⟨#[]⟩), 1, 16) := by kernel_rfl
theorem zjq {w1 : World} {B : Nat} {v' : Value} {o : List (List UInt8)} {t : List UInt8} (hown' : w1.ownsRow B 9 1 v' (o.length + 1) (strV o ++ [.string ⟨t.toArray⟩])) :
 w1.ownsRow B 9 1 v' (o ++ [t]).length (strV (o ++ [t])) := by
 rw [← zfV, List.length_append, List.length_singleton]
 exact hown'
theorem zg4 {w : World} {base e size n : Nat} {v : Value} {xs : List Value} (h : w.ownsRow base e size v n xs) (hv : v ≠ .slice none 0 0) : ∃ g cp, v = .slice (some ⟨g, 0, none⟩) n cp := by
 obtain ⟨_, ⟨e, _⟩ | ⟨g, cap, cur, rfl, _⟩⟩ := h
 ·
  exact absurd e hv
 ·
  exact ⟨g, cap, rfl⟩
theorem zba {w w' : World} {base e size n : Nat} {v : Value} {xs : List Value} (h : w.ownsRow base e size v n xs) (hg : w.grownBy w' none) : w'.ownsRow base e size v n xs := by
 refine h.kept hg ?_
 rcases hv : v.ownBlock with _ | g
 ·
  exact Or.inl rfl
 ·
  exact Or.inr (by simp)
theorem za6 {w w' : World} {base e size n : Nat} {v : Value} {xs : List Value} (h : w.ownsRow base e size v n xs) (hb : Below w.heap.size w w') : w'.ownsRow base e size v n xs :=
 zba h ⟨hb.os, hb.tape, hb.output, hb.size, fun k hk _ => hb.block k hk⟩
theorem zaV {w w' : World} {B base e size n : Nat} {v : Value} {xs : List Value} (h : w.ownsRow base e size v n xs) (hB : B < base) (hg : w.grownBy w' (some B)) : w'.ownsRow base e size v n xs := by
 refine h.kept hg ?_
 rcases hv : v.ownBlock with _ | g
 ·
  exact Or.inl rfl
 ·
  refine Or.inr fun e => ?_
  have := (h.lt g hv).1
  injection e with e
  omega
theorem zaH {w : World} {base e size n : Nat} {v : Value} {xs : List Value} (h : w.ownsRow base e size v n xs) : (v = .slice none 0 0 ∧ n = 0 ∧ xs = []) ∨ ∃ g cp, v = .slice (some ⟨g, 0, none⟩) n cp := by
 have h0 := h.1
 obtain ⟨_, ⟨e, hn⟩ | ⟨g, cap, cur, rfl, _⟩⟩ := h
 ·
  refine Or.inl ⟨e, hn, List.eq_nil_of_length_eq_zero ?_⟩
  rw [h0, hn, Nat.zero_mul]
 ·
  exact Or.inr ⟨g, cap, rfl⟩
theorem zjr {w : World} {base e g n cp : Nat} {xs : List Value} (h : w.ownsRow base e 1 (.slice (some ⟨g, 0, none⟩) n cp) n xs) : n ≤ cp ∧ cp ≤ maxLen := by
 rcases h.2 with ⟨h', _⟩ | ⟨g', cap', cur, h', hb, hg, hnc, hcm, hcs, htake⟩
 ·
  simp at h'
 ·
  simp only [Value.slice.injEq, Option.some.injEq, Addr.mk.injEq, and_true, true_and] at h'
  obtain ⟨rfl, rfl⟩ := h'
  exact ⟨hnc, hcm⟩
theorem za9 {w : World} {base e size n : Nat} {v : Value} {xs : List Value} (h : w.ownsRow base e size v n xs) (hn : n ≠ 0) : ∃ g cp, v = .slice (some ⟨g, 0, none⟩) n cp := by
 rcases zaH h with ⟨_, h0, _⟩ | h1
 ·
  exact absurd h0 hn
 ·
  exact h1
theorem zco {w : World} {base g cp n : Nat} {ls : List (List UInt8)} (h : w.ownsRow base 9 1 (.slice (some ⟨g, 0, none⟩) n cp) n (strV ls)) (hn : ls.length = n) (j : Nat) (hj : j < n) :
 w.cell? ⟨g, j, none⟩ = some (.string ⟨(ls.getD j []).toArray⟩) := by
 rw [h.cellAt j (by omega), ziS ls j (by omega), List.getD_eq_getElem?_getD, List.getElem?_eq_getElem (by omega)]; rfl
theorem zi0 (l : List UInt8) (i j : Nat) : (⟨l.toArray⟩ : ByteArray).extract i j = ⟨((l.drop i).take (j - i)).toArray⟩ := by
 apply ba_ext
 rw [ByteArray.data_extract, Array.toList_extract, List.extract_eq_take_drop]
theorem Below.by {w w' : World} (h : Below w.heap.size w w') : w.grownBy w' none := ⟨h.os, h.tape, h.output, h.size, fun k hk _ => h.block k hk⟩
theorem zai {w : World} {base b2 e size n : Nat} {v : Value} {xs : List Value} (h : w.ownsRow base e size v n xs) (hb : b2 ≤ base) : w.ownsRow b2 e size v n xs := by
 refine ⟨h.1, ?_⟩
 rcases h.2 with h' | ⟨g, cap, cur, hv, hg, r⟩
 ·
  exact Or.inl h'
 ·
  exact Or.inr ⟨g, cap, cur, hv, Nat.le_trans hb hg, r⟩
theorem zaB (w : World) (B o : Nat) (v : Value) : w.grownBy (w.setCell ⟨B, o, none⟩ v) (some B) :=
 ⟨rfl, rfl, rfl, by simp, fun k _ hne => Below.heap_setCell w _ v k (fun e => hne (by rw [e]))⟩
def Src (w : World) (x : Value) (m size : Nat) (news : List Value) : Prop :=
 news.length = m * size ∧ (∀ u ∈ news, u.oneCell' = true) ∧ ((x = .slice none 0 0 ∧ m = 0) ∨ ∃ ad c, x = .slice (some ad) m c ∧ ∀ j u, news[j]? = some u → w.cell? (ad.add j) = some u)
theorem zal {P : Program} (w : World) (base : Nat) (t ty e : TypeId) (i : TypeInfo) (z : Value) (size bytes : Nat) (ht : P.underlying t = some (.slice e)) (hi : P.info? e = some i) (hz : i.zero = some z)
 (hsize : i.size = size) (hby : i.bytes = bytes) (hzs : z.cells.size = size) (hsz : 0 < size)
 (v : Value) (n : Nat) (xs : List Value) (hown : w.ownsRow base e size v n xs) (x : Value) (m : Nat) (news : List Value) (hsrc : Src w x m size news)
 (h63 : n + m ≤ maxLen) (hbytes : (n + m) * bytes ≤ 140737488355328) (hbase : base ≤ w.heap.size) :
 ∃ v' w', (Builtin.append_ #[t, t] ty #[v, x]).run P w = .ok v' w' ∧ w'.ownsRow base e size v' (n + m) (xs ++ news) ∧ w.grownBy w' v.ownBlock ∧ (v' = .slice none 0 0 → v = .slice none 0 0) := by
 obtain ⟨hl, h1, ⟨rfl, rfl⟩ | ⟨ad, c, rfl, hc⟩⟩ := hsrc
 ·
  have hn : news = [] := List.eq_nil_of_length_eq_zero (by omega)
  subst hn
  exact ⟨v, w, run_append_owned_none (P := P) (w := w) base t ty e i size ht hi v n xs hown, by simpa using hown, World.grownBy.refl w _, fun h => h⟩
 ·
  obtain ⟨v', w', hr, h2, h3, h4⟩ := run_append_own (P := P) w base t ty e i z size bytes ht hi hz hsize hby hzs hsz v n xs hown ad m c news hl hc h1 h63 hbytes hbase
  exact ⟨v', w', hr, h2, h3, fun h => (h4.1 h).1⟩
theorem zaa {P : Program} {w w' : World} {ops : Array Oper} {o : Oper} {a : Act} {K : Act → World → Prop} {Q : Exit → Act → World → Prop} {E : Prop} (hgd : o.guard = none) (s x : Operand) (t : TypeId)
 (ho : o.op = .call { callee := .builtin .append, args := #[s, x], argTypes := #[t, t] }) (v u v' : Value) (hs : a.eval s = v) (hx : a.eval x = u)
 (hrun : (Builtin.append_ #[t, t] o.type #[v, u]).run P w = .ok v' w') (h : K (a.put o.dst v') w') :
 if Region.wanted o (yielded ops a.tmps) = true then Oper.wp P o a w K Q else E := by
 have hw : Region.wanted o (yielded ops a.tmps) = true := by simp [Region.wanted, hgd]
 rw [if_pos hw]
 unfold Oper.wp
 simp [execOp, ho, resolve, invoke, builtin, hs, hx, hrun, Result.andThen]
 exact h
theorem za0 {P : Program} {w w' : World} {ops : Array Oper} {rest : List Oper} {o : Oper} {a : Act} {Q : Exit → Act → World → Prop} (hgd : o.guard = none) (s x : Operand) (t : TypeId)
 (ho : o.op = .call { callee := .builtin .append, args := #[s, x], argTypes := #[t, t] }) (v u v' : Value) (hs : a.eval s = v) (hx : a.eval x = u)
 (hrun : (Builtin.append_ #[t, t] o.type #[v, u]).run P w = .ok v' w') (h : wpList P ops Q rest (a.put o.dst v') w') : wpList P ops Q (o :: rest) a w := by
 refine wpList_plain hgd fun K hK => ?_
 unfold Oper.wp
 simp [execOp, ho, resolve, invoke, builtin, hs, hx, hrun, Result.andThen]
 exact hK _ _ h
section
variable {P : Program} {ops : Array Oper} {Q : Exit → Act → World → Prop} {md : Region.Mode} {S : World → Prop} {E : List Nat}
def Till (P : Program) (md : Region.Mode) (ops : Array Oper) (Q : Exit → Act → World → Prop) (E : List Nat) (S : World → Prop) : Nat → Array Bool → Act → World → Prop
 | 0 => fun listed a w => Region.ready md ops listed = [] ∧ Q .normal a w
 | k + 1 => fun listed a w => (Region.ready md ops listed = [] → Q .normal a w) ∧
  ∀ i, i ∈ Region.ready md ops listed → wpOp P ops Q i (fun b v => (i ∉ E → S v) ∧ Till P md ops Q E S k (listed.setIfInBounds i true) b v) a w
theorem Till.any : ∀ (k : Nat) {listed : Array Bool} {a : Act} {w : World}, Till P md ops Q E S k listed a w → wpAny P md ops Q k listed a w
 | 0, _, _, _, h => h
 | k + 1, _, _, _, h => ⟨h.1, fun i hi => wpOp_mono (fun _ _ x => Till.any k x.2) (h.2 i hi)⟩
theorem Till.done {listed : Array Bool} {a : Act} {w : World} (hr : Region.ready md ops listed = []) (h : Q .normal a w) : ∀ k, Till P md ops Q E S k listed a w
 | 0 => ⟨hr, h⟩
 | _ + 1 => ⟨fun _ => h, fun i hi => by rw [hr] at hi; cases hi⟩
def zaT (md : Region.Mode) (ops : Array Oper) (listed : Array Bool) : Prop := ∀ j o, ops[j]? = some o → listed.getD j false = true → ∀ e ∈ o.after, Region.binds md e = true → listed.getD e.on false = true
theorem zaT.start (n : Nat) : zaT md ops (Array.replicate n false) := fun j o _ h => by
 rw [Array.getD_eq_getD_getElem?] at h
 simp only [Array.getElem?_replicate] at h
 split at h <;> cases h
theorem zaT.set {listed : Array Bool} {i : Nat} (h : zaT md ops listed) (hi : i ∈ Region.ready md ops listed) : zaT md ops (listed.setIfInBounds i true) := fun j o ho hj e he hb => by
 refine getD_set_true ?_
 rcases Nat.decEq i j with hne | heq
 ·
  rw [getD_set_ne false hne] at hj
  exact h j o ho hj e he hb
 ·
  subst heq
  obtain ⟨_, p, hp, hall⟩ := mem_ready.1 hi
  rw [ho] at hp
  injection hp with hp
  subst hp
  exact hall e he hb
def zeR (md : Region.Mode) (ops : Array Oper) : Nat → Nat → Nat → Bool
 | 0, _, _ => false
 | k + 1, m, i => match ops[m]? with
  | some o => o.after.any (fun e => Region.binds md e && (e.on == i || zeR md ops k e.on i))
  | none => false
theorem zdT {listed : Array Bool} (h : zaT md ops listed) {i : Nat} : ∀ (k m : Nat), (∀ o, ops[m]? = some o → ∀ e ∈ o.after, Region.binds md e = true → listed.getD e.on false = true) → zeR md ops k m i = true → listed.getD i false = true
 | 0, _, _, hw => by cases hw
 | k + 1, m, hd, hw => by
  unfold zeR at hw
  cases ho : ops[m]? with
  | none => rw [ho] at hw; cases hw
  | some o =>
   rw [ho] at hw
   simp only [Array.any_eq_true'] at hw
   obtain ⟨e, he, h2⟩ := hw
   rw [Bool.and_eq_true, Bool.or_eq_true] at h2
   have hl := hd o ho e he h2.1
   rcases h2.2 with h3 | h3
   ·
    rw [← beq_iff_eq.1 h3]; exact hl
   ·
    exact zdT h k e.on (fun p hp f hf hb => h e.on p hp hl f hf hb) h3
theorem Till.first {i : Nat} {o : Oper} {v : Value} {d : Nat} (ho : ops[i]? = some o) (hE : E.all (fun m => zeR md ops d m i) = true) (hsel : ∀ (j : Nat) (p : Oper) cs b, ops[j]? = some p → p.op ≠ .select cs b)
 (hQ : ∀ c a w, Q (.panic c) (a.put o.dst v) w → Q (.panic c) a w) : ∀ (k : Nat) (listed : Array Bool) (a : Act) (w : World), zaT md ops listed →
  (∀ j p, ops[j]? = some p → j ≠ i → listed.getD j true = false → (∀ e ∈ p.after, Region.binds md e = true → e.on ≠ i) → o.apart ops p = true) →
  i ∈ Region.ready md ops listed → YieldsIf P ops S o v a → S w →
  Till P md ops Q E S k (listed.setIfInBounds i true) (a.put o.dst v) w → Till P md ops Q E S (k + 1) listed a w := by
 intro k
 induction k with
 | zero =>
  intro listed a w hsh hfree hr hy hS H
  refine ⟨fun h => (by rw [h] at hr; cases hr), fun j hj => ?_⟩
  rcases Nat.decEq j i with hne | heq
  ·
   have hji : j ∈ Region.ready md ops (listed.setIfInBounds i true) := ready_mono hj hne
   rw [H.1] at hji
   cases hji
  ·
   subst heq
   exact hy.wpOp ho hS ⟨fun _ => hS, H⟩
 | succ k ih =>
  intro listed a w hsh hfree hr hy hS H
  refine ⟨fun h => (by rw [h] at hr; cases hr), fun j hj => ?_⟩
  rcases Nat.decEq j i with hne | heq
  ·
   have hji : j ∈ Region.ready md ops (listed.setIfInBounds i true) := ready_mono hj hne
   obtain ⟨hun, p, hp, hall⟩ := mem_ready.1 hj
   have h0 : listed.getD i true = false := (mem_ready.1 hr).1
   have h0f : listed.getD i false = false := by
    rcases Nat.lt_or_ge i listed.size with hl | hl
    ·
     simp [hl] at h0 ⊢; exact h0
    ·
     simp [Array.getElem?_eq_none hl] at h0
   have hnot : ∀ e ∈ p.after, Region.binds md e = true → e.on ≠ i := fun e he hb hei => by
    have h1 := hall e he hb
    rw [hei, h0f] at h1
    cases h1
   have hjE : j ∉ E := fun hjE => by
    have h1 := zdT hsh d j (fun q hq e he hb => by rw [hp] at hq; injection hq with hq; subst hq; exact hall e he hb) (List.all_eq_true.1 hE j hjE)
    rw [h0f] at h1
    cases h1
   have h2 := wpOp_putIf hp (hfree j p hp hne hun hnot) (fun cs b => hsel i o cs b ho) (fun cs b => hsel j p cs b hp) hQ hy (H.2 j hji)
   have hfree' : ∀ q r, ops[q]? = some r → q ≠ i → (listed.setIfInBounds j true).getD q true = false → (∀ e ∈ r.after, Region.binds md e = true → e.on ≠ i) → o.apart ops r = true := fun q r hq hqi hqu hqn => by
    refine hfree q r hq hqi ?_ hqn
    rcases Nat.decEq j q with hjq | hjq
    ·
     rw [getD_set_ne true hjq] at hqu; exact hqu
    ·
     subst hjq; exact hun
   refine wpOp_mono (fun b u h3 => ⟨h3.2.1, ih (listed.setIfInBounds j true) b u (hsh.set hj) hfree' (ready_mono hr (Ne.symm hne)) h3.1 (h3.2.1 hjE) ?_⟩) h2
   rw [Array.setIfInBounds_comm _ _ hne]
   exact h3.2.2
  ·
   subst heq
   exact hy.wpOp ho hS ⟨fun _ => hS, H⟩
theorem Till.region {id : Nat} {a : Act} {w : World} (hm : P.follows .mixedOrders = true) (hS : S w.drew) (h : S w.drew → zaT .any ops (Array.replicate ops.size false) → Till P .any ops Q E S ops.size (Array.replicate ops.size false) a w.drew) : (Code.region id ops true).wp P Q a w :=
 wp_region_any hm (Till.any _ (h hS (zaT.start _)))
theorem Till.take {i : Nat} {o : Oper} {v : Value} {d k : Nat} {listed : Array Bool} {a : Act} {w : World} (ho : ops[i]? = some o) (hs : Region.noSelect ops = true) (hf : Region.free md ops listed i = true) (hr : (Region.ready md ops listed).contains i = true) (hE : E.all (fun m => zeR md ops d m i) = true)
 (hQ : ∀ c a w, Q (.panic c) (a.put o.dst v) w → Q (.panic c) a w) (hy : YieldsIf P ops S o v a) (hS : S w) (hsh : zaT md ops listed)
 (h : zaT md ops (listed.setIfInBounds i true) → Till P md ops Q E S k (listed.setIfInBounds i true) (a.put o.dst v) w) : Till P md ops Q E S (k + 1) listed a w :=
 Till.first ho hE (Region.noSelect_spec hs) hQ k listed a w hsh (Region.free_spec ho hf) (by simpa using hr) hy hS (h (hsh.set (by simpa using hr)))
theorem Till.one {i : Nat} {o : Oper} {k : Nat} {listed : Array Bool} {a : Act} {w : World} (hr : Region.ready md ops listed = [i]) (ho : ops[i]? = some o) (hsh : zaT md ops listed)
 (h : ∀ K' : Act → World → Prop, Shut (∀ b v, S v → (S v → zaT md ops (listed.setIfInBounds i true) → Till P md ops Q E S k (listed.setIfInBounds i true) b v) → K' b v) → if Region.wanted o (yielded ops a.tmps) = true then Oper.wp P o a w K' Q else K' (a.put o.dst undef) w) : Till P md ops Q E S (k + 1) listed a w := by
 have hi : i ∈ Region.ready md ops listed := by rw [hr]; exact List.mem_singleton_self i
 refine ⟨fun h0 => (by rw [h0] at hi; cases hi), fun j hj => ?_⟩
 rw [hr] at hj
 obtain rfl := List.mem_singleton.1 hj
 exact wpOp_step ho (fun K' hK => h K' (fun b v hS hW => hK b v ⟨fun _ => hS, hW hS (hsh.set hi)⟩))
theorem Till.last {i : Nat} {o : Oper} {k : Nat} {listed : Array Bool} {a : Act} {w : World} (hr : Region.ready md ops listed = [i]) (ho : ops[i]? = some o) (hiE : i ∈ E)
 (h : ∀ K' : Act → World → Prop, Shut (∀ b v, Till P md ops Q E S k (listed.setIfInBounds i true) b v → K' b v) → if Region.wanted o (yielded ops a.tmps) = true then Oper.wp P o a w K' Q else K' (a.put o.dst undef) w) : Till P md ops Q E S (k + 1) listed a w := by
 have hi : i ∈ Region.ready md ops listed := by rw [hr]; exact List.mem_singleton_self i
 refine ⟨fun h0 => (by rw [h0] at hi; cases hi), fun j hj => ?_⟩
 rw [hr] at hj
 obtain rfl := List.mem_singleton.1 hj
 exact wpOp_step ho (fun K' hK => h K' (fun b v hW => hK b v ⟨fun hn => absurd hiE hn, hW⟩))
end
theorem zbh {P : Program} {ops : Array Oper} {o : Oper} {a : Act} {w : World} {K : Act → World → Prop} {Q : Exit → Act → World → Prop} {E : Prop} (hgd : o.guard = none) (h : Oper.wp P o a w K Q) :
 if Region.wanted o (yielded ops a.tmps) = true then Oper.wp P o a w K Q else E := by
 rw [if_pos (by simp [Region.wanted, hgd])]
 exact h
structure Tks (l : List (Nat × Nat)) (p : Prop) : Prop where
 out : p
theorem tkO (l : List (Nat × Nat)) {p : Prop} (h : Tks l p) : p := h.out
theorem tkZ {p : Prop} (h : p) : Tks [] p := ⟨h⟩
section
variable {P : Program} {ops : Array Oper} {Q : Exit → Act → World → Prop} {md : Region.Mode} {S : World → Prop} {E : List Nat}
theorem tkY {i t : Nat} {l : List (Nat × Nat)} (v : Value) {fuel : Nat} {listed : Array Bool} {a : Act} {w : World} {o1 o2 o3 o4 o5} (hi : ops[i]? = some ⟨some t, o1, o2, o3, o4, o5⟩) (hw : Region.wanted ⟨some t, o1, o2, o3, o4, o5⟩ (yielded ops a.tmps) = true)
 (hy : ∀ w, S w → (execOp a.eval ⟨some t, o1, o2, o3, o4, o5⟩).run P w = .ok (.value v) w) (h : Tks l (wpAnyH P md ops Q S fuel (listed.setIfInBounds i true) (a.put (some t) v) w))
 (hs : Region.noSelect ops = true := by kernel_rfl) (hf : Region.free md ops listed i = true := by kernel_rfl) (hr : (Region.ready md ops listed).contains i = true := by kernel_rfl)
 (hQ : ∀ c a w, Q (.panic c) (a.put (some t) v) w → Q (.panic c) a w := by exact fun _ _ _ h => h) (hS : S w := by assumption) : Tks ((i, t) :: l) (wpAnyH P md ops Q S (fuel + 1) listed a w) :=
 ⟨wpAnyH_take hi hs hf hr hQ (Or.inl ⟨hw, hy⟩) hS h.out⟩
theorem tkN {i t : Nat} {l : List (Nat × Nat)} {fuel : Nat} {listed : Array Bool} {a : Act} {w : World} {o1 o2 o3 o4 o5} (hi : ops[i]? = some ⟨some t, o1, o2, o3, o4, o5⟩) (hw : Region.wanted ⟨some t, o1, o2, o3, o4, o5⟩ (yielded ops a.tmps) = false)
 (h : Tks l (wpAnyH P md ops Q S fuel (listed.setIfInBounds i true) (a.put (some t) undef) w))
 (hs : Region.noSelect ops = true := by kernel_rfl) (hf : Region.free md ops listed i = true := by kernel_rfl) (hr : (Region.ready md ops listed).contains i = true := by kernel_rfl)
 (hQ : ∀ c a w, Q (.panic c) (a.put (some t) undef) w → Q (.panic c) a w := by exact fun _ _ _ h => h) (hS : S w := by assumption) : Tks ((i, t) :: l) (wpAnyH P md ops Q S (fuel + 1) listed a w) :=
 ⟨wpAnyH_take hi hs hf hr hQ (Or.inr ⟨hw, rfl⟩) hS h.out⟩
theorem zR (i : Nat) {fuel : Nat} {listed : Array Bool} {a : Act} {w : World} {o : Oper} (ho : ops[i]? = some o)
 (h : ∀ K' : Act → World → Prop, Shut (∀ a w, S w → (S w → wpAnyH P md ops Q S fuel (listed.setIfInBounds i true) a w) → K' a w) → if Region.wanted o (yielded ops a.tmps) = true then Oper.wp P o a w K' Q else K' (a.put o.dst undef) w)
 (hr : Region.ready md ops listed = [i] := by kernel_rfl) : wpAnyH P md ops Q S (fuel + 1) listed a w :=
 wpAnyH_ready hr (by simp) (AllReadyH.cons ho h AllReadyH.nil)
end
theorem zP : (∀ (a : Act) (d : Option Tmp) (v : Value), a.put d v = match d with | some k => { a with tmps := a.tmps.setIfInBounds k v } | none => a) ∧ (∀ (l : List Value) (i : Nat) (a : Value), l.toArray.setIfInBounds i a = (l.set i a).toArray) ∧ (∀ (a b : Value) (l : List Value), (a :: l).set 0 b = b :: l) ∧ (∀ (a b : Value) (l : List Value) (n : Nat), (a :: l).set (n + 1) b = a :: l.set n b) :=
 ⟨fun _ d _ => by cases d <;> rfl, fun _ _ _ => List.setIfInBounds_toArray .., fun _ _ _ => List.set_cons_zero .., fun _ _ _ _ => List.set_cons_succ ..⟩
theorem zA {α : Type} (l : List α) (i : Nat) (a : α) : l.toArray.setIfInBounds i a = (l.set i a).toArray := List.setIfInBounds_toArray ..
theorem zB {α : Type} (a b : α) (l : List α) : (a :: l).set 0 b = b :: l := List.set_cons_zero ..
theorem zC {α : Type} (a b : α) (l : List α) (n : Nat) : (a :: l).set (n + 1) b = a :: l.set n b := List.set_cons_succ ..
section
variable {P : Program} {ops : Array Oper} {Q : Exit → Act → World → Prop} {md : Region.Mode} {S : World → Prop} {E : List Nat}
theorem tlY {i t : Nat} {l : List (Nat × Nat)} (v : Value) {k : Nat} {listed : Array Bool} {a : Act} {w : World} {o1 o2 o3 o4 o5} (hi : ops[i]? = some ⟨some t, o1, o2, o3, o4, o5⟩) (hw : Region.wanted ⟨some t, o1, o2, o3, o4, o5⟩ (yielded ops a.tmps) = true)
 (hy : ∀ w, S w → (execOp a.eval ⟨some t, o1, o2, o3, o4, o5⟩).run P w = .ok (.value v) w) (h : zaT md ops (listed.setIfInBounds i true) → Tks l (Till P md ops Q E S k (listed.setIfInBounds i true) (a.put (some t) v) w))
 (hs : Region.noSelect ops = true := by kernel_rfl) (hf : Region.free md ops listed i = true := by kernel_rfl) (hr : (Region.ready md ops listed).contains i = true := by kernel_rfl) (hE : E.all (fun m => zeR md ops 30 m i) = true := by kernel_rfl)
 (hQ : ∀ c a w, Q (.panic c) (a.put (some t) v) w → Q (.panic c) a w := by exact fun _ _ _ h => h) (hS : S w := by assumption) (hsh : zaT md ops listed := by assumption) : Tks ((i, t) :: l) (Till P md ops Q E S (k + 1) listed a w) :=
 ⟨Till.take hi hs hf hr hE hQ (Or.inl ⟨hw, hy⟩) hS hsh (fun e => (h e).out)⟩
end
set_option maxHeartbeats 400000 in
set_option maxRecDepth 100000 in
theorem zcf (x lo hi : Int) (w : World) :
 Calls Tryz.prog 34 #[.int .i64 x, .int .i64 lo, .int .i64 hi] w fun e w' => e = .returned (.bool (inB x lo hi)) ∧ w' = w := by
 by_cases h1 : lo ≤ x
 ·
  by_cases h2 : x ≤ hi
  ·
   have hB : Hid (inB x lo hi = true) := zdP x lo hi h1 h2
   go_enter Tryz.func34, Tryz.ntmps34
   go_wp2
   go_ret
   exact ⟨by rw [hB.out]; rfl, rfl⟩
  ·
   have hB : Hid (inB x lo hi = false) := zdx x lo hi (Or.inr (by omega))
   go_enter Tryz.func34, Tryz.ntmps34
   go_wp2
   go_ret
   exact ⟨by rw [hB.out]; rfl, rfl⟩
 ·
  have hB : Hid (inB x lo hi = false) := zdx x lo hi (Or.inl (by omega))
  go_enter Tryz.func34, Tryz.ntmps34
  go_wp2
  go_ret
  exact ⟨by rw [hB.out]; rfl, rfl⟩
end Go.Proofs.YtenaaneckobdpaaGreat
