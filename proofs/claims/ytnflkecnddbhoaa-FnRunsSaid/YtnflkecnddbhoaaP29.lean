/-
  Parts of one proof, one behind the other: TextI, Math6I, Shelf, StepA, NeedA, StepB.
-/
import Derived.Test.YtnflkecnddbhoaaP28
import Derived.Test.YtnflkecnddbhoaaP2
import Derived.BigQuiet
import Derived.Test.YtnflkecnddbhoaaP1
import Derived.Test.YtnflkecnddbhoaaP6
import Derived.Lib.ItoaNum
import Derived.Lib.Join
import Derived.Lib.Bytealg
import Derived.Shelf.Small.Strs
import Derived.Shelf.Strings.Search1
import Derived.Shelf.Strings.Search2
import Derived.Shelf.Strings.Cut
import Derived.Shelf.LaysM
import Derived.Shelf.Strings.Shaped
import Derived.Test.YtnflkecnddbhoaaProg
import Derived.Test.YtnflkecnddbhoaaP8
import Derived.Test.YtnflkecnddbhoaaP7
import Derived.Laws.StructEq
import Derived.Deep.MidRow
import Derived.Great.Walk
import Derived.Below
import Derived.Laws.EntriesVeiled

/-! The contracts of chapter 5's landed code: the pieces between marks (labels and gotos), Lines, Words, NameOk, NumberOf. -/
namespace Go.Proofs.Ytnflkecnddbhoaa
open Go.RowKit




set_option maxHeartbeats 1000000 in
set_option maxRecDepth 100000 in
theorem implNameOkS (l : List UInt8) (w : World) (hl : l.length ≤ 1048576) :
    Calls Try.prog 39 #[.string ⟨l.toArray⟩] w fun e w' => e = .returned (.bool (nameB l)) ∧ w' = w := by
  go_enter Try.func39, Try.ntmps39
  go_wp2
  go_loop [6] (fun ix => ∃ k : Nat, k ≤ l.length ∧ ix = .int .i64 k ∧ Hid (∀ j (hj : j < l.length), j < k → 97 ≤ l[j].toNat ∧ l[j].toNat ≤ 122)) (fun ix => l.length - (intOf ix).toNat)
  case atStart => exact ⟨0, Nat.zero_le _, rfl, (fun j _ h => by omega : ∀ j (hj : j < l.length), j < 0 → _)⟩
  case round =>
    obtain ⟨k, hk, rfl, HK⟩ := hrel
    by_cases hkl : (k : Int) < (l.length : Int)
    · have hk2 : k < l.length := by omega
      obtain ⟨x, hx⟩ : ∃ x : UInt8, l[k] = x := ⟨_, rfl⟩
      have hxb : (⟨l.toArray⟩ : ByteArray)[k]'(by show k < l.toArray.size; simpa using hk2) = x := hx
      by_cases h1 : (x.toNat : Int) < 97
      · have HF : Hid (nameB l = false) := name_bad l k hk2 (by rw [hx]; omega)
        clear hx
        go_wp2
        go_ret
        exact ⟨by rw [HF.out]; rfl, rfl⟩
      · by_cases h2 : 122 < (x.toNat : Int)
        · have HF : Hid (nameB l = false) := name_bad l k hk2 (by rw [hx]; omega)
          clear hx
          go_wp2
          go_ret
          exact ⟨by rw [HF.out]; rfl, rfl⟩
        · have HS : Hid (∀ j (hj : j < l.length), j < k + 1 → 97 ≤ l[j].toNat ∧ l[j].toNat ≤ 122) := fun j hj hjk => by
            by_cases e : j = k
            · subst e; rw [hx]; omega
            · exact HK.out j hj (by omega)
          clear hx
          go_wp2
          go_round
          case rel => exact ⟨k + 1, by omega, by go_num, HS⟩
          case measure => simp [intOf]; omega
    · have HF : Hid (nameB l = inB (l.length : Int) 1 8) := name_good l (fun j hj => HK.out j hj (by omega))
      by_cases h1 : 1 ≤ (l.length : Int)
      · by_cases h2 : (l.length : Int) ≤ 8
        · have HB : Hid (inB (l.length : Int) 1 8 = true) := inB_yes _ _ _ h1 h2
          go_wp2
          go_ret
          exact ⟨by rw [HF.out, HB.out]; rfl, rfl⟩
        · have HB : Hid (inB (l.length : Int) 1 8 = false) := inB_no _ _ _ (by omega)
          go_wp2
          go_ret
          exact ⟨by rw [HF.out, HB.out]; rfl, rfl⟩
      · have HB : Hid (inB (l.length : Int) 1 8 = false) := inB_no _ _ _ (by omega)
        go_wp2
        go_ret
        exact ⟨by rw [HF.out, HB.out]; rfl, rfl⟩

theorem implNameOk (l : List UInt8) (w : World) (hl : l.length ≤ 1048576) :
    Calls Try.prog 39 #[.string ⟨l.toArray⟩] w fun e w' => e = .returned (.bool (nameB l)) ∧ Below w.heap.size w w' :=
  (implNameOkS l w hl).mono fun _ _ h => ⟨h.1, by rw [h.2]; exact Below.refl _ _⟩



end Go.Proofs.Ytnflkecnddbhoaa

/-! Plain facts for chapter 6's landed code: shapes, and what words are read as. -/
namespace Go.Proofs.Ytnflkecnddbhoaa
open Go.RowKit

/-- A shape: what a node tells by its kind. -/
inductive Sh where
  | num (a : Int)
  | arg (a : Int)
  | pair (k : Int)
  | cond
  | call (p f : List UInt8) (a : Int)
  | no

def shOf (n : Nd) : Sh :=
  if n.1 = 1 then .num n.2.1
  else if n.1 = 2 then .arg n.2.1
  else if 3 ≤ n.1 ∧ n.1 ≤ 6 then .pair n.1
  else if n.1 = 7 then .cond
  else if n.1 = 8 then .call n.2.2.1 n.2.2.2 n.2.1
  else .no

def shNode : Sh → Nd
  | .num a => (1, a, [], [])
  | .arg a => (2, a, [], [])
  | .pair k => (k, 0, [], [])
  | .cond => (7, 0, [], [])
  | .call p f a => (8, a, p, f)
  | .no => (0, 0, [], [])

def shOk : Sh → Bool
  | .num a => inB a (-2147483648) 2147483647
  | .arg a => inB a 0 2
  | .pair _ => true
  | .cond => true
  | .call p f a => inB a 0 3 && (nameB p && nameB f)
  | .no => false

def shKids : Sh → Int
  | .num _ => 0
  | .arg _ => 0
  | .pair _ => 2
  | .cond => 3
  | .call _ _ a => a
  | .no => -1

def shWord : Sh → List UInt8
  | .num a => intL a
  | .arg a => 36 :: intL a
  | .pair k => if k = 3 then [43] else if k = 4 then [45] else if k = 5 then [42] else [47]
  | .cond => [63]
  | .call p f a => (64 :: p) ++ [46] ++ f ++ [47] ++ intL a
  | .no => []

/-- A text cut at a byte: what is ahead of it, what is behind it. -/
def cutA (b : UInt8) (l : List UInt8) : List UInt8 := l.takeWhile (fun c => c != b)
def cutB (b : UInt8) (l : List UInt8) : List UInt8 := (l.dropWhile (fun c => c != b)).tail

theorem cut_one (b : UInt8) (x y : List UInt8) (h : ∀ c ∈ x, c ≠ b) : cutA b (x ++ b :: y) = x ∧ cutB b (x ++ b :: y) = y := by
  unfold cutA cutB
  induction x with
  | nil => simp
  | cons c r ih =>
    have hc : (c != b) = true := bne_iff_ne.2 (h c (by simp))
    have := ih (fun d hd => h d (by simp [hd]))
    rw [List.cons_append, List.takeWhile_cons, List.dropWhile_cons, if_pos hc, if_pos hc]
    exact ⟨by rw [this.1], this.2⟩

theorem cutA_len (b : UInt8) (l : List UInt8) : (cutA b l).length ≤ l.length := (List.takeWhile_sublist _).length_le
theorem cutB_len (b : UInt8) (l : List UInt8) : (cutB b l).length ≤ l.length := by
  have := (List.dropWhile_sublist (l := l) (fun c => c != b)).length_le
  unfold cutB
  rw [List.length_tail]
  omega

/-- Where the byte is. -/
theorem cut_at (b : UInt8) (l : List UInt8) : (Lib.indexByte l b = -1 ∧ cutA b l = l ∧ cutB b l = []) ∨ ∃ k : Nat, Lib.indexByte l b = (k : Int) ∧ k < l.length ∧ cutA b l = l.take k ∧ cutB b l = l.drop (k + 1) := by
  induction l with
  | nil => exact Or.inl ⟨rfl, rfl, rfl⟩
  | cons c r ih =>
    by_cases hc : c = b
    · subst hc
      refine Or.inr ⟨0, ?_, by simp, ?_, ?_⟩
      · unfold Lib.indexByte; simp
      · unfold cutA; simp
      · unfold cutB; simp
    · have hc2 : (c != b) = true := bne_iff_ne.2 hc
      have hc3 : (c == b) = false := beq_eq_false_iff_ne.2 hc
      have ea : cutA b (c :: r) = c :: cutA b r := by unfold cutA; rw [List.takeWhile_cons, if_pos hc2]
      have eb : cutB b (c :: r) = cutB b r := by unfold cutB; rw [List.dropWhile_cons, if_pos hc2]
      have ei : Lib.indexByte (c :: r) b = if Lib.indexByte r b == -1 then -1 else Lib.indexByte r b + 1 := by
        rw [Lib.indexByte, hc3]; rfl
      rw [ea, eb, ei]
      rcases ih with ⟨h1, h2, h3⟩ | ⟨k, h1, h2, h3, h4⟩
      · exact Or.inl ⟨by rw [h1]; rfl, by rw [h2], h3⟩
      · refine Or.inr ⟨k + 1, ?_, by simp; omega, by rw [h3]; rfl, by rw [h4]; rfl⟩
        rw [h1, if_neg (by rw [beq_iff_eq]; omega)]
        omega

/-- The shape of a word. -/
noncomputable def shIn (s : List UInt8) : Sh :=
  if numB s = true then .num (numV s)
  else if s = [63] then .cond
  else if s = [43] then .pair 3
  else if s = [45] then .pair 4
  else if s = [42] then .pair 5
  else if s = [47] then .pair 6
  else if s.head? = some 36 then .arg (numV s.tail)
  else if s.head? = some 64 then .call (cutA 46 (cutA 47 s.tail)) (cutB 46 (cutA 47 s.tail)) (numV (cutB 47 s.tail))
  else .no

/-- The landed ReadTree's list. -/
noncomputable def inT (s : List UInt8) : List Nd := (splitL 32 s).map (fun x => shNode (shIn x))

end Go.Proofs.Ytnflkecnddbhoaa

/-! The functions of this program that are the library's are the ones that the library has contracts of: number by number, type by type; and these contracts, at this program. -/
namespace Go.Proofs
open Go.Shelf
def Try.lays219_ren : Go.Shelf.Ren := ⟨fun | 219 => 99 | 217 => 109 | 225 => 110 | 224 => 111 | 267 => 112 | 266 => 129 | 314 => 130 | n => n, fun | 9 => 9 | 3 => 3 | 4 => 4 | 5 => 5 | 46 => 127 | 146 => 162 | 51 => 161 | n => n, fun | 1 => 0 | n => n⟩
theorem Try.lays219 : Go.Proofs.Lays.n219 Try.prog Try.lays219_ren := {
  mixed := by kernel_rfl
  f217 := Try.func109.trans (congrArg some (by kernel_rfl))
  f219 := Try.func99.trans (congrArg some (by kernel_rfl))
  f224 := Try.func111.trans (congrArg some (by kernel_rfl))
  f225 := Try.func110.trans (congrArg some (by kernel_rfl))
  f266 := Try.func129.trans (congrArg some (by kernel_rfl))
  f267 := Try.func112.trans (congrArg some (by kernel_rfl))
  f314 := Try.func130.trans (congrArg some (by kernel_rfl))
  t3 := Try.underlying3
  a3 := Try.isAgg3
  z3 := Try.sizeOf3
  v3 := Try.zeroValue3
  t4 := Try.underlying4
  a4 := Try.isAgg4
  z4 := Try.sizeOf4
  v4 := Try.zeroValue4
  t5 := Try.underlying5
  a5 := Try.isAgg5
  z5 := Try.sizeOf5
  v5 := Try.zeroValue5
  t9 := Try.underlying9
  a9 := Try.isAgg9
  z9 := Try.sizeOf9
  v9 := Try.zeroValue9
  t46 := Try.underlying127
  a46 := Try.isAgg127
  z46 := Try.sizeOf127
  v46 := Try.zeroValue127
  t51 := Try.underlying161
  a51 := Try.isAgg161
  z51 := Try.sizeOf161
  v51 := Try.zeroValue161
  t146 := Try.underlying162
  a146 := Try.isAgg162
  z146 := Try.sizeOf162
  v146 := Try.zeroValue162
  g1 := by kernel_rfl }
open Go.RowKit Go.Lib in
/-- internal/stringslite.Index (what strings.Index calls) AT A substr OF ONE BYTE c: IT RETURNS 'Lib.indexByte s c'; the world is as it was. (LAID: no walk: one application.) -/
theorem Try.stringslite_Index_one (s : ByteArray) (c : UInt8) (w : World) :
    Calls Try.prog 99 #[.string s, .string ⟨#[c]⟩] w fun e w' => e = .returned (.int .i64 (Lib.indexByte s.data.toList c)) ∧ w' = w := Any.stringslite_Index_one Try.lays219 s c w
end Go.Proofs

/-! Contracts of chapter 13's landed code: what a kind of instruction tells, which registers it names, what else of it is asked. -/
namespace Go.Proofs.Ytnflkecnddbhoaa
open Go.RowKit

theorem ins_eq (x y : In13) (w : World) : (binOp .eql 74 (insVal x) (insVal y)).run Try.prog w = .ok (.bool (decide (x = y))) w := by
  obtain ⟨k, R, A, B, nm⟩ := x
  obtain ⟨k2, R2, A2, B2, nm2⟩ := y
  unfold insVal
  rw [run_eql_struct]
  simp [go_sem]
  by_cases h1 : k = k2
  · by_cases h2 : R = R2
    · by_cases h3 : A = A2
      · by_cases h4 : B = B2
        · by_cases h5 : nm = nm2
          · simp [h1, h2, h3, h4, h5]
          · simp [h1, h2, h3, h4, h5]
        · simp [h1, h2, h3, h4]
      · simp [h1, h2, h3]
    · simp [h1, h2]
  · simp [h1]

/-- What a function tells of an instruction. -/
def Tld (f : Nat) (t : In13 → In13) : Prop := ∀ (i : In13) (w : World), Calls Try.prog f #[insVal i] w fun e w' => e = .returned (insVal (t i)) ∧ Below w.heap.size w w'
/-- Which registers it names. -/
def Rgs (f : Nat) (rs : In13 → List Int) : Prop := ∀ (i : In13) (w : World), Calls Try.prog f #[insVal i] w fun e w' => ∃ a c, e = .returned (.slice a (rs i).length c) ∧ AsIn w' a (rs i) ∧ Below w.heap.size w w'
/-- What else it asks. -/
def Rit (f : Nat) (q : In13 → Int → Bool) : Prop := ∀ (i : In13) (n : Int) (w : World), i.2.2.2.2.length ≤ 1048576 → Calls Try.prog f #[insVal i, .int .i64 n] w fun e w' => e = .returned (.bool (q i n)) ∧ Below w.heap.size w w'

def tlR (i : In13) : In13 := (i.1, i.2.1, 0, 0, [])
def tlA (i : In13) : In13 := (i.1, 0, i.2.2.1, 0, [])
def tlRA (i : In13) : In13 := (i.1, i.2.1, i.2.2.1, 0, [])
def tlRAB (i : In13) : In13 := (i.1, i.2.1, i.2.2.1, i.2.2.2.1, [])
def tlRAN (i : In13) : In13 := (i.1, i.2.1, i.2.2.1, 0, i.2.2.2.2)

set_option maxHeartbeats 1000000 in
set_option maxRecDepth 100000 in
theorem impl_withR : Tld 128 tlR := by
  rintro ⟨k, R, A, B, nm⟩ w
  unfold insVal tlR
  dsimp only
  go_enter Try.func128, Try.ntmps128
  go_wp2
  refine bodyPost_ret (v := insVal (tlR (k, R, A, B, nm))) (by simp [results, Try.results128, go_sem, insVal, tlR]) rfl ⟨rfl, ?_⟩
  exact ((Below.refl _ w).alloc (Nat.le_refl _) _).alloc (by simp) _
set_option maxHeartbeats 1000000 in
set_option maxRecDepth 100000 in
theorem impl_withA : Tld 123 tlA := by
  rintro ⟨k, R, A, B, nm⟩ w
  unfold insVal tlA
  dsimp only
  go_enter Try.func123, Try.ntmps123
  go_wp2
  refine bodyPost_ret (v := insVal (tlA (k, R, A, B, nm))) (by simp [results, Try.results123, go_sem, insVal, tlA]) rfl ⟨rfl, ?_⟩
  exact ((Below.refl _ w).alloc (Nat.le_refl _) _).alloc (by simp) _
set_option maxHeartbeats 1000000 in
set_option maxRecDepth 100000 in
theorem impl_withRA : Tld 118 tlRA := by
  rintro ⟨k, R, A, B, nm⟩ w
  unfold insVal tlRA
  dsimp only
  go_enter Try.func118, Try.ntmps118
  go_wp2
  refine bodyPost_ret (v := insVal (tlRA (k, R, A, B, nm))) (by simp [results, Try.results118, go_sem, insVal, tlRA]) rfl ⟨rfl, ?_⟩
  exact ((Below.refl _ w).alloc (Nat.le_refl _) _).alloc (by simp) _
set_option maxHeartbeats 1000000 in
set_option maxRecDepth 100000 in
theorem impl_withRAB : Tld 115 tlRAB := by
  rintro ⟨k, R, A, B, nm⟩ w
  unfold insVal tlRAB
  dsimp only
  go_enter Try.func115, Try.ntmps115
  go_wp2
  refine bodyPost_ret (v := insVal (tlRAB (k, R, A, B, nm))) (by simp [results, Try.results115, go_sem, insVal, tlRAB]) rfl ⟨rfl, ?_⟩
  exact ((Below.refl _ w).alloc (Nat.le_refl _) _).alloc (by simp) _
set_option maxHeartbeats 1000000 in
set_option maxRecDepth 100000 in
theorem impl_withRAName : Tld 125 tlRAN := by
  rintro ⟨k, R, A, B, nm⟩ w
  unfold insVal tlRAN
  dsimp only
  go_enter Try.func125, Try.ntmps125
  go_wp2
  refine bodyPost_ret (v := insVal (tlRAN (k, R, A, B, nm))) (by simp [results, Try.results125, go_sem, insVal, tlRAN]) rfl ⟨rfl, ?_⟩
  exact ((Below.refl _ w).alloc (Nat.le_refl _) _).alloc (by simp) _
def rsN (_i : In13) : List Int := []
def rsR (i : In13) : List Int := [i.2.1]
def rsRAB (i : In13) : List Int := [i.2.1, i.2.2.1, i.2.2.2.1]
def rsC (i : In13) : List Int := [i.2.1, max i.2.1 (wrap64 (wrap64 (i.2.1 + i.2.2.1) - 1))]
theorem as_new (w : World) (xs : List Int) (t : TypeId) : AsIn (w.alloc (.cells (intsV xs).toArray t)) (some ⟨w.heap.size, 0, none⟩) xs := by
  have hA := heap_alloc_new w (.cells (intsV xs).toArray t)
  intro j hj
  refine ⟨_, 0, rfl, by simp, ?_⟩
  rw [cell_of_row _ _ _ _ _ _ hA, Nat.zero_add]
  simp [intsV, List.getD, hj]
set_option maxHeartbeats 1000000 in
set_option maxRecDepth 100000 in
theorem impl_noRegister : Rgs 124 rsN := by
  rintro ⟨k, R, A, B, nm⟩ w
  unfold insVal
  dsimp only
  have hA := fun W => as_new W (rsN (k, R, A, B, nm)) 2
  unfold rsN at hA ⊢
  (try dsimp only at hA ⊢)
  go_enter Try.func124, Try.ntmps124
  go_wp2
  go_ret
  refine ⟨_, _, rfl, ?_, ((Below.refl _ w).alloc (Nat.le_refl _) _).alloc (by simp) _⟩
  have h := hA (w.alloc (.cells #[.int .i64 k, .int .i64 R, .int .i64 A, .int .i64 B, .string ⟨nm.toArray⟩] 74))
  simpa [intsV] using h
set_option maxHeartbeats 1000000 in
set_option maxRecDepth 100000 in
theorem impl_registerR : Rgs 119 rsR := by
  rintro ⟨k, R, A, B, nm⟩ w
  unfold insVal
  dsimp only
  have hA := fun W => as_new W (rsR (k, R, A, B, nm)) 2
  unfold rsR at hA ⊢
  (try dsimp only at hA ⊢)
  go_enter Try.func119, Try.ntmps119
  go_wp2
  go_ret
  refine ⟨_, _, rfl, ?_, ((Below.refl _ w).alloc (Nat.le_refl _) _).alloc (by simp) _⟩
  have h := hA (w.alloc (.cells #[.int .i64 k, .int .i64 R, .int .i64 A, .int .i64 B, .string ⟨nm.toArray⟩] 74))
  simpa [intsV] using h
set_option maxHeartbeats 1000000 in
set_option maxRecDepth 100000 in
theorem impl_registersRAB : Rgs 116 rsRAB := by
  rintro ⟨k, R, A, B, nm⟩ w
  unfold insVal
  dsimp only
  have hA := fun W => as_new W (rsRAB (k, R, A, B, nm)) 2
  unfold rsRAB at hA ⊢
  (try dsimp only at hA ⊢)
  go_enter Try.func116, Try.ntmps116
  go_wp2
  go_ret
  refine ⟨_, _, rfl, ?_, ((Below.refl _ w).alloc (Nat.le_refl _) _).alloc (by simp) _⟩
  have h := hA (w.alloc (.cells #[.int .i64 k, .int .i64 R, .int .i64 A, .int .i64 B, .string ⟨nm.toArray⟩] 74))
  simpa [intsV] using h
set_option maxHeartbeats 1000000 in
set_option maxRecDepth 100000 in
theorem impl_registersOfCall : Rgs 126 rsC := by
  rintro ⟨k, R, A, B, nm⟩ w
  unfold insVal
  dsimp only
  have hA := fun W => as_new W (rsC (k, R, A, B, nm)) 2
  unfold rsC at hA ⊢
  (try dsimp only at hA ⊢)
  go_enter Try.func126, Try.ntmps126
  go_wp2
  go_ret
  refine ⟨_, _, rfl, ?_, ((Below.refl _ w).alloc (Nat.le_refl _) _).alloc (by simp) _⟩
  have h := hA (w.alloc (.cells #[.int .i64 k, .int .i64 R, .int .i64 A, .int .i64 B, .string ⟨nm.toArray⟩] 74))
  simpa [intsV] using h
def rqY (_i : In13) (_n : Int) : Bool := true
def rqW (i : In13) (_n : Int) : Bool := inB i.2.2.1 (-2147483648) 2147483647
def rqA (i : In13) (_n : Int) : Bool := decide (0 ≤ i.2.2.1) && decide (i.2.2.1 ≤ 2)
def rqP (i : In13) (n : Int) : Bool := decide (0 ≤ i.2.2.1) && decide (i.2.2.1 < n)
def rqC (i : In13) (_n : Int) : Bool := decide (0 ≤ i.2.2.1) && decide (i.2.2.1 ≤ 3) && name13 i.2.2.2.2
set_option maxHeartbeats 1000000 in
set_option maxRecDepth 100000 in
theorem impl_nothingElse : Rit 117 rqY := by
  rintro ⟨k, R, A, B, nm⟩ n w _
  unfold insVal rqY
  go_enter Try.func117, Try.ntmps117
  go_wp2
  go_ret
  exact ⟨rfl, (Below.refl _ w).alloc (Nat.le_refl _) _⟩
set_option maxHeartbeats 1000000 in
set_option maxRecDepth 100000 in
theorem impl_wordInA : Rit 120 rqW := by
  rintro ⟨k, R, A, B, nm⟩ n w _
  unfold insVal rqW
  dsimp only
  go_enter Try.func120, Try.ntmps120
  go_wp2_with (go_at_call 54; refine (implWordOkS _ _).mono ?_; rintro e w' ⟨rfl, rfl⟩)
  go_ret
  exact ⟨rfl, (Below.refl _ w).alloc (Nat.le_refl _) _⟩
set_option maxHeartbeats 1000000 in
set_option maxRecDepth 100000 in
theorem impl_argInA : Rit 121 rqA := by
  rintro ⟨k, R, A, B, nm⟩ n w _
  unfold insVal rqA
  dsimp only
  by_cases h1 : 0 ≤ A
  · by_cases h2 : A ≤ 2
    · rw [decide_eq_true h1, decide_eq_true h2]
      go_enter Try.func121, Try.ntmps121
      go_wp2
      go_ret
      exact ⟨rfl, (Below.refl _ w).alloc (Nat.le_refl _) _⟩
    · rw [decide_eq_true h1, decide_eq_false h2]
      go_enter Try.func121, Try.ntmps121
      go_wp2
      go_ret
      exact ⟨rfl, (Below.refl _ w).alloc (Nat.le_refl _) _⟩
  · rw [decide_eq_false h1]
    go_enter Try.func121, Try.ntmps121
    go_wp2
    go_ret
    exact ⟨rfl, (Below.refl _ w).alloc (Nat.le_refl _) _⟩
set_option maxHeartbeats 1000000 in
set_option maxRecDepth 100000 in
theorem impl_placeInA : Rit 122 rqP := by
  rintro ⟨k, R, A, B, nm⟩ n w _
  unfold insVal rqP
  dsimp only
  by_cases h1 : 0 ≤ A
  · by_cases h2 : A < n
    · rw [decide_eq_true h1, decide_eq_true h2]
      go_enter Try.func122, Try.ntmps122
      go_wp2
      go_ret
      exact ⟨rfl, (Below.refl _ w).alloc (Nat.le_refl _) _⟩
    · rw [decide_eq_true h1, decide_eq_false h2]
      go_enter Try.func122, Try.ntmps122
      go_wp2
      go_ret
      exact ⟨rfl, (Below.refl _ w).alloc (Nat.le_refl _) _⟩
  · rw [decide_eq_false h1]
    go_enter Try.func122, Try.ntmps122
    go_wp2
    go_ret
    exact ⟨rfl, (Below.refl _ w).alloc (Nat.le_refl _) _⟩
set_option maxHeartbeats 1000000 in
set_option maxRecDepth 100000 in
theorem liteCut13 (l : List UInt8) (b : UInt8) (w : World) (hl : l.length ≤ 1048576) :
    Calls Try.prog 85 #[.string ⟨l.toArray⟩, .string ⟨#[b]⟩] w fun e w' => ∃ g, e = .returned (.tuple #[.string ⟨(cutA b l).toArray⟩, .string ⟨(cutB b l).toArray⟩, .bool g]) ∧ Below w.heap.size w w' := by
  have hext := ext_list
  have HC : Hid (_) := fun W : World => Try.stringslite_Index_one ⟨l.toArray⟩ b W
  rcases cut_at b l with ⟨h1, h2, h3⟩ | ⟨k, h1, hk, h3, h4⟩
  · rw [h2, h3]
    rw [show (⟨l.toArray⟩ : ByteArray).data.toList = l from rfl, h1] at HC
    clear h1 h2 h3
    go_enter Try.func85, Try.ntmps85
    go_wp2_with (go_at_call 99; refine Calls.mono (HC.out _) ?_; rintro e w' ⟨rfl, rfl⟩)
    go_ret3
    exact ⟨_, rfl, Below.refl _ _⟩
  · rw [h3, h4]
    rw [show (⟨l.toArray⟩ : ByteArray).data.toList = l from rfl, h1] at HC
    have c2 : (k : Int) ≤ (l.length : Int) := by omega
    have c4 : (k : Int) + 1 ≤ (l.length : Int) := by omega
    have c5 : (l.length : Int) ≤ 1048576 := by omega
    have htk : List.take (l.length - (k + 1)) (List.drop (k + 1) l) = List.drop (k + 1) l := List.take_of_length_le (by rw [List.length_drop]; omega)
    clear h1 h3 h4
    go_enter Try.func85, Try.ntmps85
    go_wp2_with (go_at_call 99; refine Calls.mono (HC.out _) ?_; rintro e w' ⟨rfl, rfl⟩)
    go_quiet (fail)
    go_wp2
    go_ret3
    exact ⟨_, rfl, ⟨rfl, rfl, rfl, Nat.le_refl _, fun _ _ => rfl⟩⟩

set_option maxHeartbeats 1000000 in
set_option maxRecDepth 100000 in
theorem cutOne13 (l : List UInt8) (b : UInt8) (w : World) (hl : l.length ≤ 1048576) :
    Calls Try.prog 66 #[.string ⟨l.toArray⟩, .string ⟨#[b]⟩] w fun e w' => ∃ g, e = .returned (.tuple #[.string ⟨(cutA b l).toArray⟩, .string ⟨(cutB b l).toArray⟩, .bool g]) ∧ Below w.heap.size w w' := by
  have HC : Hid (_) := liteCut13 l b w hl
  generalize cutA b l = x at HC ⊢
  generalize cutB b l = y at HC ⊢
  go_enter Try.func66, Try.ntmps66
  go_wp2_with fail
  refine Calls.mono HC.out ?_
  rintro e w1 ⟨g, rfl, hb1⟩
  go_wp2
  go_ret3
  exact ⟨_, rfl, hb1⟩

theorem drop_none : ∀ (s : List UInt8), (∀ c ∈ s, c ≠ 46) → s.dropWhile (fun c => c != 46) = []
  | [], _ => rfl
  | c :: r, h => by rw [List.dropWhile_cons, if_pos (bne_iff_ne.2 (h c (by simp)))]; exact drop_none r (fun d hd => h d (by simp [hd]))
theorem name_cut (s : List UInt8) : (nameB (cutA 46 s) && nameB (cutB 46 s)) = name13 s := by
  have hno : ∀ {l : List UInt8}, nameB l = true → ∀ c ∈ l, c ≠ 46 := fun h c hc e => by
    unfold nameB at h
    rw [Bool.and_eq_true, List.all_eq_true] at h
    have := h.2 c hc
    subst e
    simp at this
  have hnil : nameB [] = false := by decide
  by_cases hm : (46 : UInt8) ∈ s
  · obtain ⟨x, y, rfl, hx⟩ := List.eq_append_cons_of_mem hm
    have hx2 : ∀ c ∈ x, c ≠ 46 := fun c hc e => hx (e ▸ hc)
    obtain ⟨ea, eb⟩ := cut_one 46 x y hx2
    rw [ea, eb]
    by_cases hy : (46 : UInt8) ∈ y
    · have hny : nameB y = false := by
        rcases h : nameB y with _ | _
        · rfl
        · exact absurd rfl (hno h 46 hy)
      obtain ⟨y1, y2, rfl, hy1⟩ := List.eq_append_cons_of_mem hy
      have hy2 : ∀ c ∈ y1, c ≠ 46 := fun c hc e => hy1 (e ▸ hc)
      have hs : splitL 46 (x ++ 46 :: (y1 ++ 46 :: y2)) = x :: y1 :: splitGo 46 [] y2 := by
        unfold splitL
        rw [split_one 46 x _ [] hx2, split_one 46 y1 y2 [] hy2]
        rfl
      have hne := splitGo_ne 46 y2 []
      unfold name13
      rw [hs, hny, Bool.and_false]
      have : ((x :: y1 :: splitGo 46 [] y2).length == 2) = false := by
        rcases hq : splitGo 46 [] y2 with _ | _
        · exact absurd hq hne
        · simp
      rw [this]
      rfl
    · have hy2 : ∀ c ∈ y, c ≠ 46 := fun c hc e => hy (e ▸ hc)
      have hs : splitL 46 (x ++ 46 :: y) = [x, y] := by
        unfold splitL
        rw [split_one 46 x y [] hx2, split_none 46 y [] hy2]
        rfl
      unfold name13
      rw [hs]
      simp
  · have h2 : ∀ c ∈ s, c ≠ 46 := fun c hc e => hm (e ▸ hc)
    have hb : cutB 46 s = [] := by
      unfold cutB
      rw [drop_none s h2]
      rfl
    have hs : splitL 46 s = [s] := by
      unfold splitL
      rw [split_none 46 s [] h2]
      rfl
    rw [hb, hnil, Bool.and_false]
    unfold name13
    rw [hs]
    rfl
set_option maxHeartbeats 1000000 in
set_option maxRecDepth 100000 in
theorem implWhole (s : List UInt8) (w : World) (hl : s.length ≤ 1048576) :
    Calls Try.prog 82 #[.string ⟨s.toArray⟩] w fun e w' => e = .returned (.bool (name13 s)) ∧ Below w.heap.size w w' := by
  rw [← name_cut]
  have HC : Hid (_) := cutOne13 s 46 w hl
  have h1 := cutA_len 46 s
  have h2 := cutB_len 46 s
  generalize cutA 46 s = x at HC h1 ⊢
  generalize cutB 46 s = y at HC h2 ⊢
  have HX : Hid (_) := fun W : World => implNameOk x W (by omega)
  have HY : Hid (_) := fun W : World => implNameOk y W (by omega)
  generalize nameB y = by2 at HY ⊢
  generalize nameB x = bx at HX ⊢
  cases bx
  · go_enter Try.func82, Try.ntmps82
    go_wp2_with fail
    refine Calls.mono HC.out ?_
    rintro e w1 ⟨g, rfl, hb1⟩
    go_wp2_with fail
    refine Calls.mono (HX.out _) ?_
    rintro e w2 ⟨rfl, hb2⟩
    go_wp2
    go_ret
    exact ⟨rfl, hb1.trans (hb2.mono hb1.size)⟩
  · go_enter Try.func82, Try.ntmps82
    go_wp2_with fail
    refine Calls.mono HC.out ?_
    rintro e w1 ⟨g, rfl, hb1⟩
    go_wp2_with fail
    refine Calls.mono (HX.out _) ?_
    rintro e w2 ⟨rfl, hb2⟩
    go_wp2_with fail
    refine Calls.mono (HY.out _) ?_
    rintro e w3 ⟨rfl, hb3⟩
    have hB2 := hb1.trans (hb2.mono hb1.size)
    go_wp2
    go_ret
    exact ⟨rfl, hB2.trans (hb3.mono hB2.size)⟩
set_option maxHeartbeats 1000000 in
set_option maxRecDepth 100000 in
theorem impl_countAndName : Rit 127 rqC := by
  rintro ⟨k, R, A, B, nm⟩ n w hl
  unfold insVal rqC
  dsimp only at hl ⊢
  by_cases h1 : 0 ≤ A
  · by_cases h2 : A ≤ 3
    · rw [decide_eq_true h1, decide_eq_true h2]
      have HC : Hid (_) := fun W : World => implWhole nm W hl
      generalize name13 nm = bn at HC ⊢
      go_enter Try.func127, Try.ntmps127
      go_wp2_with fail
      refine Calls.mono (HC.out _) ?_
      rintro e w2 ⟨rfl, hb2⟩
      go_wp2
      go_ret
      have hb1 : Below w.heap.size w _ := (Below.refl _ w).alloc (Nat.le_refl _) (.cells #[.int .i64 k, .int .i64 R, .int .i64 A, .int .i64 B, .string ⟨nm.toArray⟩] 74)
      exact ⟨rfl, hb1.trans (hb2.mono hb1.size)⟩
    · rw [decide_eq_true h1, decide_eq_false h2]
      go_enter Try.func127, Try.ntmps127
      go_wp2
      go_ret
      exact ⟨rfl, (Below.refl _ w).alloc (Nat.le_refl _) _⟩
  · rw [decide_eq_false h1]
    go_enter Try.func127, Try.ntmps127
    go_wp2
    go_ret
    exact ⟨rfl, (Below.refl _ w).alloc (Nat.le_refl _) _⟩
def regB (rs : List Int) : Bool := rs.all (fun r => inB r 0 63)
theorem regB_snoc (rs : List Int) (j : Nat) (hj : j < rs.length) : regB (rs.take (j + 1)) = (regB (rs.take j) && inB (rs.getD j 0) 0 63) := by
  have hg : rs.getD j 0 = rs[j] := by simp [List.getD, hj]
  rw [hg, List.take_succ_eq_append_getElem hj]
  unfold regB
  rw [List.all_append]
  simp
theorem regB_no {rs : List Int} {j : Nat} (hj : j < rs.length) (h : inB (rs.getD j 0) 0 63 = false) : regB rs = false := by
  have hg : rs.getD j 0 = rs[j] := by simp [List.getD, hj]
  rcases hb : regB rs with _ | _
  · rfl
  · have := List.all_eq_true.1 hb rs[j] (List.getElem_mem hj)
    rw [← hg, h] at this
    cases this
set_option maxHeartbeats 1000000 in
set_option maxRecDepth 100000 in
theorem implRegistersOk (a : Option Addr) (n c : Nat) (rs : List Int) (w : World) (hn : rs.length = n) (hin : AsIn w a rs) (hnl : n ≤ 1048576) :
    Calls Try.prog 108 #[.slice a n c] w fun e w' => e = .returned (.bool (regB rs)) ∧ w' = w := by
  have HIn : Hid (AsIn w a rs) := hin
  have HN : Hid (rs.length = n) := hn
  clear hin hn
  go_enter Try.func108, Try.ntmps108
  go_wp2
  go_loop [4, 7] (fun _ jv => ∃ j : Nat, jv = .int .i64 (j : Int) ∧ j ≤ n ∧ Hid (regB (rs.take j) = true)) (fun _ jv => n - (intOf jv).toNat)
  case atStart => exact ⟨0, rfl, Nat.zero_le _, rfl⟩
  case round =>
    obtain ⟨j, rfl, hj, st⟩ := hrel
    by_cases hlt : (j : Int) < (n : Int)
    · obtain ⟨b, off, rfl, hbl, hc⟩ := HIn.out j (by rw [HN.out]; omega)
      have HS : Hid (_) := regB_snoc rs j (by rw [HN.out]; omega)
      have HO : Hid (inB (rs.getD j 0) 0 63 = false → regB rs = false) := fun h => regB_no (by rw [HN.out]; omega) h
      rw [st.out, Bool.true_and] at HS
      generalize rs.getD j 0 = r at hc HS HO
      by_cases h1 : r < 0
      · have HF : Hid (regB rs = false) := HO.out (inB_no _ _ _ (Or.inl (by omega)))
        clear HS HO
        go_wp2
        go_ret
        exact ⟨by rw [HF.out]; rfl, rfl⟩
      · by_cases h2 : 63 < r
        · have HF : Hid (regB rs = false) := HO.out (inB_no _ _ _ (Or.inr (by omega)))
          clear HS HO
          go_wp2
          go_ret
          exact ⟨by rw [HF.out]; rfl, rfl⟩
        · have HF : Hid (regB (rs.take (j + 1)) = true) := by exact (by rw [HS.out]; exact inB_yes _ _ _ (by omega) (by omega) : regB (rs.take (j + 1)) = true)
          clear HS HO
          go_wp2
          go_round
          case rel => exact ⟨j + 1, by go_num, by omega, HF⟩
          case measure => simp [intOf]; omega
    · have HE : Hid (regB rs = true) := by
        have h := st.out
        rw [List.take_of_length_le (by rw [HN.out]; omega)] at h
        exact h
      go_wp2
      go_ret
      exact ⟨by rw [HE.out]; rfl, rfl⟩

end Go.Proofs.Ytnflkecnddbhoaa

/-! Needs as the landed code of chapter 12 holds them: arrays of sixty marks, the first k of them set; what is read and written of them as a whole. -/
namespace Go.Proofs.Ytnflkecnddbhoaa
open Go.RowKit

def nvL (k : Nat) : List Value := (List.range 60).map fun j => .bool (decide (j < k))
def nv (k : Nat) : Array Value := (nvL k).toArray
theorem nvL_len (k : Nat) : (nvL k).length = 60 := by simp [nvL]
theorem nvL_at (k j : Nat) (h : j < 60) : (nvL k)[j]? = some (.bool (decide (j < k))) := by simp [nvL, h]
theorem nv_at (k j : Nat) (h : j < 60) : (nv k)[j]? = some (.bool (decide (j < k))) := by simp [nv, nvL_at k j h]
/-- A need lies in block b from o on, and may be written. -/
structure Nb (X : World) (b o k : Nat) : Prop where
  cs : X.rangeAt b o (nvL k)
  ok : X.there b o 60
section
variable {X Y : World} {b o k : Nat}
theorem Nb.cell (h : Nb X b o k) (j : Nat) (hj : j < 60) : X.cell? ⟨b, o + j, none⟩ = some (.bool (decide (j < k))) := h.cs j _ (nvL_at k j hj)
theorem Nb.lt (h : Nb X b o k) : b < X.heap.size := World.block_lt_of_cell? X _ (h.cell 0 (by omega))
theorem Nb.keep (h : Nb X b o k) (hb : Y.heap[b]? = X.heap[b]?) : Nb Y b o k :=
  ⟨fun j v hv => (World.cell?_of_block (a := ⟨b, o + j, none⟩) hb).trans (h.cs j v hv), fun j hj => by rw [World.cell?_of_block (a := ⟨b, o + j, none⟩) hb, World.frozen?_of_block (a := ⟨b, o + j, none⟩) hb]; exact h.ok j hj⟩
theorem Nb.kept {row : Option Nat} (h : Nb X b o k) (hg : X.grownBy Y row) (hne : some b ≠ row) : Nb Y b o k := h.keep (hg.block b h.lt hne)
theorem Nb.below (h : Nb X b o k) (hb : Below X.heap.size X Y) : Nb Y b o k := h.kept (row := none) (Below.by hb) (by simp)
theorem Nb.new (w : World) (k : Nat) (t : TypeId) : Nb (w.alloc (.cells (nv k) t)) w.heap.size 0 k := by
  have hA := heap_alloc_new w (.cells (nv k) t)
  refine ⟨fun j v hv => ?_, fun j hj => ?_⟩
  · rw [cell_of_row _ _ _ _ _ _ hA]
    simpa [nv] using hv
  · rw [cell_of_row _ _ _ _ _ _ hA, frozen_of_row _ _ _ _ _ hA, Nat.zero_add, nv_at k j hj]
    exact ⟨rfl, rfl⟩
theorem Nb.set (h : Nb X b o k) (i m : Nat) (v : Bool) (hi : i < 60) (hm : ∀ j, j < 60 → (j < m ↔ (if j = i then v = true else j < k))) : Nb (X.setCell ⟨b, o + i, none⟩ (.bool v)) b o m := by
  refine ⟨fun j u hu => ?_, fun j hj => ?_⟩
  · have hj : j < 60 := by have := (List.getElem?_eq_some_iff.1 hu).1; rw [nvL_len] at this; exact this
    rw [nvL_at m j hj] at hu
    injection hu with hu
    subst hu
    have h1 := hm j hj
    by_cases e : j = i
    · subst e
      rw [World.cell?_setCell_same _ _ _ (h.cell j hj)]
      rw [if_pos rfl] at h1
      cases v <;> simp_all
    · rw [World.cell?_setCell_other _ _ _ _ (fun e2 => by injection e2 with _ e2 _; omega), h.cell j hj]
      rw [if_neg e] at h1
      rw [decide_eq_decide.2 h1]
  · rw [World.frozen?_setCell]
    refine ⟨?_, (h.ok j hj).2⟩
    by_cases e : j = i
    · subst e
      rw [World.cell?_setCell_same _ _ _ (h.cell j hj)]; rfl
    · rw [World.cell?_setCell_other _ _ _ _ (fun e2 => by injection e2 with _ e2 _; omega)]; exact (h.ok j hj).1
theorem Nb.store (h : X.there b o 60) (k : Nat) : Nb (X.setCells b o (nvL k)) b o k :=
  ⟨World.rangeAt_setCells_same X b o (nvL k) (by rw [nvL_len]; exact h), World.there_setCells h b o _⟩
end
theorem grown_setNv (b : Nat) : ∀ (vs : List Value) (o : Nat) (w : World), w.grownBy (w.setCells b o vs) (some b)
  | [], _, w => World.grownBy.refl w _
  | v :: r, o, w => by
    rw [World.setCells]
    exact (grown_set w b o v).trans (grown_setNv b r (o + 1) _)

end Go.Proofs.Ytnflkecnddbhoaa

/-! Contracts of chapter 13's landed code: the table of steps. -/
namespace Go.Proofs.Ytnflkecnddbhoaa
open Go.RowKit

def fv (f : Nat) : Value := .func (.func f) #[] #[]
/-- What a kind's step is. -/
def st13 (k : Nat) : List Value :=
  if k = 1 then [fv 118, fv 119, fv 120]
  else if k = 2 then [fv 118, fv 119, fv 121]
  else if k = 3 ∨ k = 4 ∨ k = 5 ∨ k = 6 then [fv 115, fv 116, fv 117]
  else if k = 7 then [fv 118, fv 119, fv 122]
  else if k = 8 then [fv 123, fv 124, fv 122]
  else if k = 9 then [fv 125, fv 126, fv 127]
  else if k = 10 then [fv 128, fv 119, fv 117]
  else [.nilFunc, .nilFunc, .nilFunc]
def tbL : List Value := (List.range 11).flatMap st13
def tb : Array Value := tbL.toArray
def tz : Array Value := (List.replicate 33 Value.nilFunc).toArray
theorem tbL_len : tbL.length = 33 := by decide +kernel
theorem tbL_one : ∀ v ∈ tbL, v.oneCell' = true := by
  intro v hv
  have h : tbL.all (fun v => v.oneCell') = true := by kernel_rfl
  exact List.all_eq_true.1 h v hv

/-- A row of cells lies in block b from o on, and may be written. -/
structure Rb (X : World) (b o : Nat) (vs : List Value) : Prop where
  cs : X.rangeAt b o vs
  ok : X.there b o vs.length
  lt : b < X.heap.size
section
variable {X Y : World} {b o : Nat} {vs : List Value}
theorem Rb.keep (h : Rb X b o vs) (hb : Y.heap[b]? = X.heap[b]?) (hs : X.heap.size ≤ Y.heap.size) : Rb Y b o vs :=
  ⟨fun j v hv => (World.cell?_of_block (a := ⟨b, o + j, none⟩) hb).trans (h.cs j v hv), fun j hj => by rw [World.cell?_of_block (a := ⟨b, o + j, none⟩) hb, World.frozen?_of_block (a := ⟨b, o + j, none⟩) hb]; exact h.ok j hj, Nat.lt_of_lt_of_le h.lt hs⟩
theorem Rb.below (h : Rb X b o vs) (hb : Below X.heap.size X Y) : Rb Y b o vs := h.keep (hb.block b h.lt) hb.size
theorem Rb.cell (h : Rb X b o vs) (j : Nat) (v : Value) (hv : vs[j]? = some v) : X.cell? ⟨b, o + j, none⟩ = some v := h.cs j v hv
theorem Rb.new (w : World) (vs : Array Value) (t : TypeId) : Rb (w.alloc (.cells vs t)) w.heap.size 0 vs.toList := by
  have hA := heap_alloc_new w (.cells vs t)
  refine ⟨fun j v hv => ?_, fun j hj => ?_, by simp⟩
  · rw [cell_of_row _ _ _ _ _ _ hA, Nat.zero_add]
    simpa using hv
  · rw [cell_of_row _ _ _ _ _ _ hA, frozen_of_row _ _ _ _ _ hA, Nat.zero_add]
    refine ⟨?_, rfl⟩
    have : j < vs.size := by simpa using hj
    simp [this]
theorem Rb.store (h : X.there b o vs.length) (hl : b < X.heap.size) : Rb (X.setCells b o vs) b o vs :=
  ⟨World.rangeAt_setCells_same X b o vs h, World.there_setCells h b o _, by have := (grown_setNv b vs o X).size; omega⟩
end

section
variable {ops : Array Oper} {rest : List Oper} {op : Oper} {a : Act} {w : World} {Q : Exit → Act → World → Prop} {K : Act → World → Prop}
theorem run_zero85 (w : World) : (zeroValue 154).run Try.prog w = .ok (.agg tz) w := Try.zeroValue154 w
theorem size85 : (Try.prog.info? 154).map (·.size) = some 33 := by kernel_rfl
theorem wp_alloc_tb (ho : op.op = .alloc 154) (h : ∀ Y g, Rb Y g 0 tz.toList → Below w.heap.size w Y → w.heap.size ≤ g → K (a.put op.dst (.pointer (some ⟨g, 0, none⟩))) Y) : op.wp Try.prog a w K Q := by
  unfold Oper.wp execOp
  simp only [ho, Instr.alloc, Sem.run_bind, run_zero85, Result.andThen_ok, newVar, newRow, run_newObj_alloc, Sem.run_pure, Value.cells]
  exact h _ _ (Rb.new w tz _) ((Below.refl _ _).alloc (Nat.le_refl _) _) (Nat.le_refl _)
theorem list_alloc_tb (hgd : op.guard = none) (ho : op.op = .alloc 154) (d : Nat) (hd : op.dst = some d) (h : ∀ Y g, Rb Y g 0 tz.toList → Below w.heap.size w Y → w.heap.size ≤ g → wpList Try.prog ops Q rest (a.put (some d) (.pointer (some ⟨g, 0, none⟩))) Y) : wpList Try.prog ops Q (op :: rest) a w :=
  wpList_plain hgd fun _ hK => wp_alloc_tb ho (fun Y g h1 h2 h3 => by rw [hd]; exact hK _ _ (h Y g h1 h2 h3))
theorem tz_len : tz.toList.length = 33 := by simp [tz]
theorem wp_store_tb (x y : Operand) (ho : op.op = .store 154 x y) (b : Nat) (hx : a.eval x = .pointer (some ⟨b, 0, none⟩)) (hy : a.eval y = .agg tb) (ht : Rb w b 0 tz.toList)
    (h : ∀ Y, Rb Y b 0 tbL → w.grownBy Y (some b) → K (a.put op.dst undef) Y) : op.wp Try.prog a w K Q := by
  have hth : w.there b 0 33 := by have := ht.ok; rw [tz_len] at this; exact this
  have hsz : tb.size = 33 := tbL_len
  refine wp_store_mid _ x y ho b 0 tb hx hy (by rw [hsz]; exact hth) (by rw [hsz]; exact size85) (all_oneCell_toArray tbL_one) ?_
  exact h _ (Rb.store (vs := tbL) (by rw [tbL_len]; exact hth) ht.lt) (grown_setNv b _ 0 w)
theorem list_store_tb (hgd : op.guard = none) (x y : Operand) (ho : op.op = .store 154 x y) (b : Nat) (hx : a.eval x = .pointer (some ⟨b, 0, none⟩)) (hy : a.eval y = .agg tb) (ht : Rb w b 0 tz.toList)
    (h : ∀ Y, Rb Y b 0 tbL → w.grownBy Y (some b) → wpList Try.prog ops Q rest (a.put op.dst undef) Y) : wpList Try.prog ops Q (op :: rest) a w :=
  wpList_plain hgd fun _ hK => wp_store_tb x y ho b hx hy ht (fun Y h1 h2 => hK _ _ (h Y h1 h2))
theorem results_tb {fn : Func} {p : Tmp} (h : fn.results = #[.cell p 154]) (tmps : Array Value) (w : World) (b : Nat) (hp : tmps.getD p undef = .pointer (some ⟨b, 0, none⟩)) (hc : w.rangeAt b 0 tbL) : (results fn tmps).run Try.prog w = .ok (.agg tb) w := by
  have hp' : tmps[p]?.getD undef = .pointer (some ⟨b, 0, none⟩) := by simpa using hp
  have hl := run_loadVar_mid (P := Try.prog) w b 0 154 tbL _ hc Try.underlying154 rfl (by rw [tbL_len]; exact size85)
  simp [results, h, hp', asAddr, hl, tb]
theorem built_tb : Try.prog.built 154 [(1, .agg (st13 1).toArray), (2, .agg (st13 2).toArray), (3, .agg (st13 3).toArray), (4, .agg (st13 4).toArray), (5, .agg (st13 5).toArray), (6, .agg (st13 6).toArray), (7, .agg (st13 7).toArray), (8, .agg (st13 8).toArray), (9, .agg (st13 9).toArray), (10, .agg (st13 10).toArray)] = some tb := by kernel_rfl
end
/-! The steps of the table. -/
theorem index_tb1 (W : World) : (Instr.index 154 (.agg tb) (.int .i64 1)).run Try.prog W = .ok (.agg #[fv 118, fv 119, fv 120]) W := by kernel_rfl
theorem index_tb2 (W : World) : (Instr.index 154 (.agg tb) (.int .i64 2)).run Try.prog W = .ok (.agg #[fv 118, fv 119, fv 121]) W := by kernel_rfl
theorem index_tb3 (W : World) : (Instr.index 154 (.agg tb) (.int .i64 3)).run Try.prog W = .ok (.agg #[fv 115, fv 116, fv 117]) W := by kernel_rfl
theorem index_tb4 (W : World) : (Instr.index 154 (.agg tb) (.int .i64 4)).run Try.prog W = .ok (.agg #[fv 115, fv 116, fv 117]) W := by kernel_rfl
theorem index_tb5 (W : World) : (Instr.index 154 (.agg tb) (.int .i64 5)).run Try.prog W = .ok (.agg #[fv 115, fv 116, fv 117]) W := by kernel_rfl
theorem index_tb6 (W : World) : (Instr.index 154 (.agg tb) (.int .i64 6)).run Try.prog W = .ok (.agg #[fv 115, fv 116, fv 117]) W := by kernel_rfl
theorem index_tb7 (W : World) : (Instr.index 154 (.agg tb) (.int .i64 7)).run Try.prog W = .ok (.agg #[fv 118, fv 119, fv 122]) W := by kernel_rfl
theorem index_tb8 (W : World) : (Instr.index 154 (.agg tb) (.int .i64 8)).run Try.prog W = .ok (.agg #[fv 123, fv 124, fv 122]) W := by kernel_rfl
theorem index_tb9 (W : World) : (Instr.index 154 (.agg tb) (.int .i64 9)).run Try.prog W = .ok (.agg #[fv 125, fv 126, fv 127]) W := by kernel_rfl
theorem index_tb10 (W : World) : (Instr.index 154 (.agg tb) (.int .i64 10)).run Try.prog W = .ok (.agg #[fv 128, fv 119, fv 117]) W := by kernel_rfl

set_option maxHeartbeats 4000000 in
set_option maxRecDepth 100000 in
theorem implSteps (w : World) : Calls Try.prog 107 #[] w fun e w' => e = .returned (.agg tb) ∧ Below w.heap.size w w' := by
  go_enter Try.func107, Try.ntmps107
  go_wp2_with (guard_target = wpList _ _ _ _ _ _; first | (refine list_alloc_tb rfl rfl 0 rfl (fun Y1 g1 hN1 hB1 hG1 => ?_)) | (refine wpList_buildTo rfl _ _ (op := ⟨some 13, _, _, _, _, _⟩) rfl _ rfl tb (by exact built_tb) ?_) | (refine list_store_tb rfl _ _ rfl g1 rfl rfl ?_ (fun Y2 hN2 hG2 => ?_)))
  · exact hN1.below ((Below.refl _ _).alloc (Nat.le_refl _) _)
  · have hb2 : Below w.heap.size w (Y1.alloc (.cells #[fv 115, fv 116, fv 117] 153)) := hB1.alloc hB1.size _
    refine bodyPost_ret (v := .agg tb) (results_tb Try.results107 _ _ g1 rfl hN2.cs) rfl ⟨rfl, ?_⟩
    exact hb2.grown hG2 hb2.size (fun q e => by injection e with e; omega)

end Go.Proofs.Ytnflkecnddbhoaa
