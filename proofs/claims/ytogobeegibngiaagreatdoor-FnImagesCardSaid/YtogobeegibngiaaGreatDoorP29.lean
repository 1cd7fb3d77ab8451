/-
  Parts of one proof, one behind the other: Shelf, StepA, NeedA.
-/
import Derived.Test.YtogobeegibngiaaGreatDoorP28
import Derived.Shelf.Strings.Builder1
import Derived.Shelf.Strings.Builder2
import Derived.Shelf.Strings.OnBuilder
import Derived.Shelf.Small.Strs
import Derived.Shelf.Strconv.Itoa0
import Derived.Shelf.Strconv.Itoa1
import Derived.Shelf.LaysM
import Derived.Shelf.Strconv.Itoa2
import Derived.Shelf.Strconv.Itoa3
import Derived.Shelf.Strconv.Itoa4
import Derived.Shelf.Strings.Search1
import Derived.Shelf.Strings.Search2
import Derived.Shelf.Strings.Cut
import Derived.Shelf.Strings.Shaped
import Derived.Shelf.Strings.Prefix
import Derived.Test.YtogobeegibngiaaGreatDoorProg
import Derived.Test.YtogobeegibngiaaGreatDoorP7
import Derived.Test.YtogobeegibngiaaGreatDoorP27
import Derived.Test.YtogobeegibngiaaGreatDoorP26
import Derived.Test.YtogobeegibngiaaGreatDoorP5
import Derived.Test.YtogobeegibngiaaGreatDoorP6
import Derived.Laws.StructEq
import Derived.BigQuiet
import Derived.Test.YtogobeegibngiaaGreatDoorP1
import Derived.Deep.MidRow
import Derived.Great.Walk
import Derived.Below

/-! The functions of this program that are the library's are the ones that the library has contracts of: number by number, type by type; and these contracts, at this program. -/
namespace Go.Proofs
open Go.Shelf
def Tryz.lays156_ren : Go.Shelf.Ren := ⟨fun | 156 => 70 | 165 => 90 | 166 => 91 | 169 => 92 | 240 => 108 | 241 => 109 | 276 => 130 | 277 => 131 | n => n, fun | 31 => 35 | 9 => 9 | 3 => 3 | 4 => 4 | 0 => 0 | 20 => 20 | 72 => 122 | 76 => 126 | 70 => 120 | 37 => 22 | 75 => 125 | 127 => 147 | 164 => 151 | 5 => 5 | 80 => 128 | n => n, fun | n => n⟩
theorem Tryz.lays156 : Go.Proofs.Lays.n156 Tryz.prog Tryz.lays156_ren := {
  mixed := by kernel_rfl
  f156 := Tryz.func70.trans (congrArg some (by kernel_rfl))
  f165 := Tryz.func90.trans (congrArg some (by kernel_rfl))
  f166 := Tryz.func91.trans (congrArg some (by kernel_rfl))
  f169 := Tryz.func92.trans (congrArg some (by kernel_rfl))
  f240 := Tryz.func108.trans (congrArg some (by kernel_rfl))
  f241 := Tryz.func109.trans (congrArg some (by kernel_rfl))
  f276 := Tryz.func130.trans (congrArg some (by kernel_rfl))
  f277 := Tryz.func131.trans (congrArg some (by kernel_rfl))
  t0 := Tryz.underlying0
  a0 := Tryz.isAgg0
  z0 := Tryz.sizeOf0
  v0 := Tryz.zeroValue0
  t3 := Tryz.underlying3
  a3 := Tryz.isAgg3
  z3 := Tryz.sizeOf3
  v3 := Tryz.zeroValue3
  t4 := Tryz.underlying4
  a4 := Tryz.isAgg4
  z4 := Tryz.sizeOf4
  v4 := Tryz.zeroValue4
  t9 := Tryz.underlying9
  a9 := Tryz.isAgg9
  z9 := Tryz.sizeOf9
  v9 := Tryz.zeroValue9
  t20 := Tryz.underlying20
  a20 := Tryz.isAgg20
  z20 := Tryz.sizeOf20
  v20 := Tryz.zeroValue20
  t31 := Tryz.underlying35
  a31 := Tryz.isAgg35
  z31 := Tryz.sizeOf35
  v31 := Tryz.zeroValue35
  t37 := Tryz.underlying22
  a37 := Tryz.isAgg22
  z37 := Tryz.sizeOf22
  v37 := Tryz.zeroValue22
  t70 := Tryz.underlying120
  a70 := Tryz.isAgg120
  z70 := Tryz.sizeOf120
  v70 := Tryz.zeroValue120
  t72 := Tryz.underlying122
  a72 := Tryz.isAgg122
  z72 := Tryz.sizeOf122
  v72 := Tryz.zeroValue122
  t75 := Tryz.underlying125
  a75 := Tryz.isAgg125
  z75 := Tryz.sizeOf125
  v75 := Tryz.zeroValue125
  t76 := Tryz.underlying126
  a76 := Tryz.isAgg126
  z76 := Tryz.sizeOf126
  v76 := Tryz.zeroValue126
  t127 := Tryz.underlying147
  a127 := Tryz.isAgg147
  z127 := Tryz.sizeOf147
  v127 := Tryz.zeroValue147
  t164 := Tryz.underlying151
  a164 := Tryz.isAgg151
  z164 := Tryz.sizeOf151
  v164 := Tryz.zeroValue151 }
theorem Tryz.Builder_Extra_156 : Builder.Extra Tryz.prog Tryz.lays156_ren := {
  sizeBuilder := by kernel_rfl
  liesBuilder := by kernel_rfl
  t5 := Tryz.underlying5
  a5 := Tryz.isAgg5
  z5 := Tryz.sizeOf5
  v5 := Tryz.zeroValue5
  infoByte := by kernel_rfl
  cellsByte := by kernel_rfl
  sizeByte := by kernel_rfl
  neB5 := by decide }
open Go.RowKit in
/-- No element: the empty string; the world is as it was. (Whatever the slice's address and capacity: a nil slice too.) (LAID: no walk: one application.) -/
theorem Tryz.strings_Join_none (a : Option Addr) (c : Nat) (sep : ByteArray) (w : World) :
    Calls Tryz.prog 70 #[.slice a 0 c, .string sep] w fun e w' => e = .returned (.string ⟨#[]⟩) ∧ w' = w := Any.strings_Join_none Tryz.lays156 Tryz.Builder_Extra_156 a c sep w
open Go.RowKit in
/-- strings.Join: "Join concatenates the elements of its first argument to create a single string. The separator string sep is placed between elements in the resulting string.": HOWEVER MANY ELEMENTS. Below the heap's end the world is as it was. (LAID: no walk: one application.) -/
theorem Tryz.strings_Join (bk o c : Nat) (xs : List ByteArray) (sep : ByteArray) (w : World) (hcells : ∀ (j : Nat) x, xs[j]? = some x → w.cell? ⟨bk, o + j, none⟩ = some (.string x)) (hbk : bk < w.heap.size) (hN : xs.length ≤ 140737488355328) (hcap : xs.length ≤ c) (hlen : (Lib.join (xs.map (·.data.toList)) sep.data.toList).length ≤ 140737488355328) :
    Calls Tryz.prog 70 #[.slice (some ⟨bk, o, none⟩) xs.length c, .string sep] w fun e w' => e = .returned (.string ⟨(Lib.join (xs.map (·.data.toList)) sep.data.toList).toArray⟩) ∧ Below w.heap.size w w' := Any.strings_Join Tryz.lays156 Tryz.Builder_Extra_156 bk o c xs sep w hcells hbk hN hcap hlen
def Tryz.laysM171_ren : Go.Shelf.Ren := ⟨fun | 171 => 47 | 243 => 69 | 246 => 68 | 283 => 86 | 284 => 87 | 285 => 88 | 286 => 89 | 129 => 104 | 317 => 103 | 318 => 105 | 319 => 106 | 320 => 107 | 337 => 128 | 338 => 129 | n => n, fun | 3 => 3 | 9 => 9 | 2 => 2 | 4 => 4 | 171 => 114 | 0 => 0 | 53 => 115 | 37 => 22 | 5 => 5 | 173 => 118 | 212 => 142 | 51 => 143 | 20 => 20 | 213 => 144 | 46 => 106 | 232 => 156 | 233 => 157 | n => n, fun | 17 => 1 | 18 => 2 | 19 => 3 | n => n⟩
theorem Tryz.laysM171 : Go.Proofs.LaysM.n171 Tryz.prog Tryz.laysM171_ren := {
  mixed := by kernel_rfl
  f129 := Tryz.func104.trans (congrArg some (by kernel_rfl))
  f171 := Tryz.func47.trans (congrArg some (by kernel_rfl))
  f243 := Tryz.func69.trans (congrArg some (by kernel_rfl))
  f246 := Tryz.func68.trans (congrArg some (by kernel_rfl))
  f283 := Tryz.func86.trans (congrArg some (by kernel_rfl))
  f284 := Tryz.func87.trans (congrArg some (by kernel_rfl))
  f285 := Tryz.func88.trans (congrArg some (by kernel_rfl))
  f286 := Tryz.func89.trans (congrArg some (by kernel_rfl))
  f317 := Tryz.func103.trans (congrArg some (by kernel_rfl))
  f318 := Tryz.func105.trans (congrArg some (by kernel_rfl))
  f319 := Tryz.func106.trans (congrArg some (by kernel_rfl))
  f320 := Tryz.func107.trans (congrArg some (by kernel_rfl))
  f337 := Tryz.func128.trans (congrArg some (by kernel_rfl))
  f338 := Tryz.func129.trans (congrArg some (by kernel_rfl))
  t0 := Tryz.underlying0
  a0 := Tryz.isAgg0
  z0 := Tryz.sizeOf0
  v0 := Tryz.zeroValue0
  t2 := Tryz.underlying2
  a2 := Tryz.isAgg2
  z2 := Tryz.sizeOf2
  v2 := Tryz.zeroValue2
  t3 := Tryz.underlying3
  a3 := Tryz.isAgg3
  z3 := Tryz.sizeOf3
  v3 := Tryz.zeroValue3
  t4 := Tryz.underlying4
  a4 := Tryz.isAgg4
  z4 := Tryz.sizeOf4
  v4 := Tryz.zeroValue4
  t5 := Tryz.underlying5
  a5 := Tryz.isAgg5
  z5 := Tryz.sizeOf5
  v5 := Tryz.zeroValue5
  t9 := Tryz.underlying9
  a9 := Tryz.isAgg9
  z9 := Tryz.sizeOf9
  v9 := Tryz.zeroValue9
  t20 := Tryz.underlying20
  a20 := Tryz.isAgg20
  z20 := Tryz.sizeOf20
  v20 := Tryz.zeroValue20
  t37 := Tryz.underlying22
  a37 := Tryz.isAgg22
  z37 := Tryz.sizeOf22
  v37 := Tryz.zeroValue22
  t46 := Tryz.underlying106
  a46 := Tryz.isAgg106
  z46 := Tryz.sizeOf106
  v46 := Tryz.zeroValue106
  t51 := Tryz.underlying143
  a51 := Tryz.isAgg143
  z51 := Tryz.sizeOf143
  v51 := Tryz.zeroValue143
  t53 := Tryz.underlying115
  a53 := Tryz.isAgg115
  z53 := Tryz.sizeOf115
  v53 := Tryz.zeroValue115
  t171 := Tryz.underlying114
  a171 := Tryz.isAgg114
  z171 := Tryz.sizeOf114
  v171 := Tryz.zeroValue114
  t173 := Tryz.underlying118
  a173 := Tryz.isAgg118
  z173 := Tryz.sizeOf118
  v173 := Tryz.zeroValue118
  t212 := Tryz.underlying142
  a212 := Tryz.isAgg142
  z212 := Tryz.sizeOf142
  v212 := Tryz.zeroValue142
  t213 := Tryz.underlying144
  a213 := Tryz.isAgg144
  z213 := Tryz.sizeOf144
  t232 := Tryz.underlying156
  a232 := Tryz.isAgg156
  z232 := Tryz.sizeOf156
  v232 := Tryz.zeroValue156
  t233 := Tryz.underlying157
  a233 := Tryz.isAgg157
  z233 := Tryz.sizeOf157
  v233 := Tryz.zeroValue157
  g17 := by kernel_rfl
  g18 := by kernel_rfl
  g19 := by kernel_rfl
  i0 := by kernel_rfl
  i2 := by kernel_rfl
  i3 := by kernel_rfl
  i4 := by kernel_rfl
  i5 := by kernel_rfl
  i9 := by kernel_rfl
  i20 := by kernel_rfl
  i37 := by kernel_rfl
  i46 := by kernel_rfl
  i51 := by kernel_rfl
  i53 := by kernel_rfl
  i171 := by kernel_rfl
  i173 := by kernel_rfl
  i212 := by kernel_rfl
  i232 := by kernel_rfl
  i233 := by kernel_rfl
  m17 := by kernel_rfl
  m18 := by kernel_rfl
  m19 := by kernel_rfl }
open Go.RowKit Go.Sort Go.Lib in
/-- strconv.Itoa: "Itoa is equivalent to FormatInt(int64(i), 10).": i's DECIMAL NUMERAL ('Lib.itoa': a '-' where i is negative, then the digits), FOR EVERY int. The world behind the call: the world before it, new blocks behind the heap (the library's 'var a [24]byte'), draws. (LAID: no walk: one application.) -/
theorem Tryz.strconv_Itoa (n : Int) (h0 : -9223372036854775808 ≤ n) (h1 : n ≤ 9223372036854775807) (w : World) (htab : Lib.TabIs Tryz.prog w "internal/strconv.uint64pow10" .u64 Lib.pow10Tab) :
    Calls Tryz.prog 47 #[.int .i64 n] w fun e w' => e = .returned (.string ⟨(Lib.itoa n).toArray⟩) ∧ ∃ k os, w' = grow (w.drewN k) os := Any.strconv_Itoa Tryz.laysM171 n h0 h1 w htab
def Tryz.laysM173_ren : Go.Shelf.Ren := ⟨fun | 173 => 46 | 246 => 68 | 283 => 86 | 284 => 87 | 285 => 88 | 286 => 89 | 129 => 104 | 317 => 103 | 318 => 105 | 319 => 106 | 320 => 107 | 337 => 128 | 338 => 129 | n => n, fun | 2 => 2 | 3 => 3 | 9 => 9 | 4 => 4 | 171 => 114 | 0 => 0 | 53 => 115 | 37 => 22 | 5 => 5 | 173 => 118 | 212 => 142 | 51 => 143 | 20 => 20 | 213 => 144 | 46 => 106 | 232 => 156 | 233 => 157 | n => n, fun | 17 => 1 | 18 => 2 | 19 => 3 | n => n⟩
theorem Tryz.laysM173 : Go.Proofs.LaysM.n173 Tryz.prog Tryz.laysM173_ren := {
  mixed := by kernel_rfl
  f129 := Tryz.func104.trans (congrArg some (by kernel_rfl))
  f173 := Tryz.func46.trans (congrArg some (by kernel_rfl))
  f246 := Tryz.func68.trans (congrArg some (by kernel_rfl))
  f283 := Tryz.func86.trans (congrArg some (by kernel_rfl))
  f284 := Tryz.func87.trans (congrArg some (by kernel_rfl))
  f285 := Tryz.func88.trans (congrArg some (by kernel_rfl))
  f286 := Tryz.func89.trans (congrArg some (by kernel_rfl))
  f317 := Tryz.func103.trans (congrArg some (by kernel_rfl))
  f318 := Tryz.func105.trans (congrArg some (by kernel_rfl))
  f319 := Tryz.func106.trans (congrArg some (by kernel_rfl))
  f320 := Tryz.func107.trans (congrArg some (by kernel_rfl))
  f337 := Tryz.func128.trans (congrArg some (by kernel_rfl))
  f338 := Tryz.func129.trans (congrArg some (by kernel_rfl))
  t0 := Tryz.underlying0
  a0 := Tryz.isAgg0
  z0 := Tryz.sizeOf0
  v0 := Tryz.zeroValue0
  t2 := Tryz.underlying2
  a2 := Tryz.isAgg2
  z2 := Tryz.sizeOf2
  v2 := Tryz.zeroValue2
  t3 := Tryz.underlying3
  a3 := Tryz.isAgg3
  z3 := Tryz.sizeOf3
  v3 := Tryz.zeroValue3
  t4 := Tryz.underlying4
  a4 := Tryz.isAgg4
  z4 := Tryz.sizeOf4
  v4 := Tryz.zeroValue4
  t5 := Tryz.underlying5
  a5 := Tryz.isAgg5
  z5 := Tryz.sizeOf5
  v5 := Tryz.zeroValue5
  t9 := Tryz.underlying9
  a9 := Tryz.isAgg9
  z9 := Tryz.sizeOf9
  v9 := Tryz.zeroValue9
  t20 := Tryz.underlying20
  a20 := Tryz.isAgg20
  z20 := Tryz.sizeOf20
  v20 := Tryz.zeroValue20
  t37 := Tryz.underlying22
  a37 := Tryz.isAgg22
  z37 := Tryz.sizeOf22
  v37 := Tryz.zeroValue22
  t46 := Tryz.underlying106
  a46 := Tryz.isAgg106
  z46 := Tryz.sizeOf106
  v46 := Tryz.zeroValue106
  t51 := Tryz.underlying143
  a51 := Tryz.isAgg143
  z51 := Tryz.sizeOf143
  v51 := Tryz.zeroValue143
  t53 := Tryz.underlying115
  a53 := Tryz.isAgg115
  z53 := Tryz.sizeOf115
  v53 := Tryz.zeroValue115
  t171 := Tryz.underlying114
  a171 := Tryz.isAgg114
  z171 := Tryz.sizeOf114
  v171 := Tryz.zeroValue114
  t173 := Tryz.underlying118
  a173 := Tryz.isAgg118
  z173 := Tryz.sizeOf118
  v173 := Tryz.zeroValue118
  t212 := Tryz.underlying142
  a212 := Tryz.isAgg142
  z212 := Tryz.sizeOf142
  v212 := Tryz.zeroValue142
  t213 := Tryz.underlying144
  a213 := Tryz.isAgg144
  z213 := Tryz.sizeOf144
  t232 := Tryz.underlying156
  a232 := Tryz.isAgg156
  z232 := Tryz.sizeOf156
  v232 := Tryz.zeroValue156
  t233 := Tryz.underlying157
  a233 := Tryz.isAgg157
  z233 := Tryz.sizeOf157
  v233 := Tryz.zeroValue157
  g17 := by kernel_rfl
  g18 := by kernel_rfl
  g19 := by kernel_rfl
  i0 := by kernel_rfl
  i2 := by kernel_rfl
  i3 := by kernel_rfl
  i4 := by kernel_rfl
  i5 := by kernel_rfl
  i9 := by kernel_rfl
  i20 := by kernel_rfl
  i37 := by kernel_rfl
  i46 := by kernel_rfl
  i51 := by kernel_rfl
  i53 := by kernel_rfl
  i171 := by kernel_rfl
  i173 := by kernel_rfl
  i212 := by kernel_rfl
  i232 := by kernel_rfl
  i233 := by kernel_rfl
  m17 := by kernel_rfl
  m18 := by kernel_rfl
  m19 := by kernel_rfl }
open Go.RowKit Go.Sort Go.Lib in
/-- strconv.FormatInt: "FormatInt returns the string representation of i in the given base": AT BASE 10: i's decimal numeral, for every int64. (LAID: no walk: one application.) -/
theorem Tryz.strconv_FormatInt_10 (n : Int) (h0 : -9223372036854775808 ≤ n) (h1 : n ≤ 9223372036854775807) (w : World) (htab : Lib.TabIs Tryz.prog w "internal/strconv.uint64pow10" .u64 Lib.pow10Tab) :
    Calls Tryz.prog 46 #[.int .i64 n, .int .i64 10] w fun e w' => e = .returned (.string ⟨(Lib.itoa n).toArray⟩) ∧ ∃ k os, w' = grow (w.drewN k) os := Any.strconv_FormatInt_10 Tryz.laysM173 n h0 h1 w htab
def Tryz.lays219_ren : Go.Shelf.Ren := ⟨fun | 219 => 113 | 217 => 133 | 225 => 134 | 224 => 135 | 267 => 136 | 266 => 137 | 314 => 138 | n => n, fun | 9 => 9 | 3 => 3 | 4 => 4 | 5 => 5 | 46 => 106 | 146 => 158 | 51 => 143 | n => n, fun | 1 => 0 | n => n⟩
theorem Tryz.lays219 : Go.Proofs.Lays.n219 Tryz.prog Tryz.lays219_ren := {
  mixed := by kernel_rfl
  f217 := Tryz.func133.trans (congrArg some (by kernel_rfl))
  f219 := Tryz.func113.trans (congrArg some (by kernel_rfl))
  f224 := Tryz.func135.trans (congrArg some (by kernel_rfl))
  f225 := Tryz.func134.trans (congrArg some (by kernel_rfl))
  f266 := Tryz.func137.trans (congrArg some (by kernel_rfl))
  f267 := Tryz.func136.trans (congrArg some (by kernel_rfl))
  f314 := Tryz.func138.trans (congrArg some (by kernel_rfl))
  t3 := Tryz.underlying3
  a3 := Tryz.isAgg3
  z3 := Tryz.sizeOf3
  v3 := Tryz.zeroValue3
  t4 := Tryz.underlying4
  a4 := Tryz.isAgg4
  z4 := Tryz.sizeOf4
  v4 := Tryz.zeroValue4
  t5 := Tryz.underlying5
  a5 := Tryz.isAgg5
  z5 := Tryz.sizeOf5
  v5 := Tryz.zeroValue5
  t9 := Tryz.underlying9
  a9 := Tryz.isAgg9
  z9 := Tryz.sizeOf9
  v9 := Tryz.zeroValue9
  t46 := Tryz.underlying106
  a46 := Tryz.isAgg106
  z46 := Tryz.sizeOf106
  v46 := Tryz.zeroValue106
  t51 := Tryz.underlying143
  a51 := Tryz.isAgg143
  z51 := Tryz.sizeOf143
  v51 := Tryz.zeroValue143
  t146 := Tryz.underlying158
  a146 := Tryz.isAgg158
  z146 := Tryz.sizeOf158
  v146 := Tryz.zeroValue158
  g1 := by kernel_rfl }
open Go.RowKit Go.Lib in
/-- internal/stringslite.Index (what strings.Index calls) AT A substr OF ONE BYTE c: IT RETURNS 'Lib.indexByte s c'; the world is as it was. (LAID: no walk: one application.) -/
theorem Tryz.stringslite_Index_one (s : ByteArray) (c : UInt8) (w : World) :
    Calls Tryz.prog 113 #[.string s, .string ⟨#[c]⟩] w fun e w' => e = .returned (.int .i64 (Lib.indexByte s.data.toList c)) ∧ w' = w := Any.stringslite_Index_one Tryz.lays219 s c w
end Go.Proofs

/-! Contracts of chapter 13's landed code: what a kind of instruction tells, which registers it names, what else of it is asked. -/
namespace Go.Proofs.YtogobeegibngiaaGreatDoor
open Go.RowKit

theorem ins_eq (x y : In13) (w : World) : (binOp .eql 56 (insVal x) (insVal y)).run Tryz.prog w = .ok (.bool (decide (x = y))) w := by
  obtain ⟨k, R, A, B, nm⟩ := x
  obtain ⟨k2, R2, A2, B2, nm2⟩ := y
  unfold insVal
  rw [run_eql_struct]
  simp [go_sem]
  by_cases h1 : k = k2
  · by_cases h2 : R = R2
    · by_cases h3 : A = A2
      · by_cases h4 : B = B2
        · by_cases h5 : nm = nm2
          · simp [h1, h2, h3, h4, h5]
          · simp [h1, h2, h3, h4, h5]
        · simp [h1, h2, h3, h4]
      · simp [h1, h2, h3]
    · simp [h1, h2]
  · simp [h1]

/-- What a function tells of an instruction. -/
def Tld (f : Nat) (t : In13 → In13) : Prop := ∀ (i : In13) (w : World), Calls Tryz.prog f #[insVal i] w fun e w' => e = .returned (insVal (t i)) ∧ Below w.heap.size w w'
/-- Which registers it names. -/
def Rgs (f : Nat) (rs : In13 → List Int) : Prop := ∀ (i : In13) (w : World), Calls Tryz.prog f #[insVal i] w fun e w' => ∃ a c, e = .returned (.slice a (rs i).length c) ∧ AsIn w' a (rs i) ∧ Below w.heap.size w w'
/-- What else it asks. -/
def Rit (f : Nat) (q : In13 → Int → Bool) : Prop := ∀ (i : In13) (n : Int) (w : World), i.2.2.2.2.length ≤ 1048576 → Calls Tryz.prog f #[insVal i, .int .i64 n] w fun e w' => e = .returned (.bool (q i n)) ∧ Below w.heap.size w w'

def tlR (i : In13) : In13 := (i.1, i.2.1, 0, 0, [])
def tlA (i : In13) : In13 := (i.1, 0, i.2.2.1, 0, [])
def tlRA (i : In13) : In13 := (i.1, i.2.1, i.2.2.1, 0, [])
def tlRAB (i : In13) : In13 := (i.1, i.2.1, i.2.2.1, i.2.2.2.1, [])
def tlRAN (i : In13) : In13 := (i.1, i.2.1, i.2.2.1, 0, i.2.2.2.2)

set_option maxHeartbeats 1000000 in
set_option maxRecDepth 100000 in
theorem impl_withR : Tld 127 tlR := by
  rintro ⟨k, R, A, B, nm⟩ w
  unfold insVal tlR
  dsimp only
  go_enter Tryz.func127, Tryz.ntmps127
  go_wp2
  refine bodyPost_ret (v := insVal (tlR (k, R, A, B, nm))) (by simp [results, Tryz.results127, go_sem, insVal, tlR]) rfl ⟨rfl, ?_⟩
  exact ((Below.refl _ w).alloc (Nat.le_refl _) _).alloc (by simp) _
set_option maxHeartbeats 1000000 in
set_option maxRecDepth 100000 in
theorem impl_withA : Tld 122 tlA := by
  rintro ⟨k, R, A, B, nm⟩ w
  unfold insVal tlA
  dsimp only
  go_enter Tryz.func122, Tryz.ntmps122
  go_wp2
  refine bodyPost_ret (v := insVal (tlA (k, R, A, B, nm))) (by simp [results, Tryz.results122, go_sem, insVal, tlA]) rfl ⟨rfl, ?_⟩
  exact ((Below.refl _ w).alloc (Nat.le_refl _) _).alloc (by simp) _
set_option maxHeartbeats 1000000 in
set_option maxRecDepth 100000 in
theorem impl_withRA : Tld 117 tlRA := by
  rintro ⟨k, R, A, B, nm⟩ w
  unfold insVal tlRA
  dsimp only
  go_enter Tryz.func117, Tryz.ntmps117
  go_wp2
  refine bodyPost_ret (v := insVal (tlRA (k, R, A, B, nm))) (by simp [results, Tryz.results117, go_sem, insVal, tlRA]) rfl ⟨rfl, ?_⟩
  exact ((Below.refl _ w).alloc (Nat.le_refl _) _).alloc (by simp) _
set_option maxHeartbeats 1000000 in
set_option maxRecDepth 100000 in
theorem impl_withRAB : Tld 114 tlRAB := by
  rintro ⟨k, R, A, B, nm⟩ w
  unfold insVal tlRAB
  dsimp only
  go_enter Tryz.func114, Tryz.ntmps114
  go_wp2
  refine bodyPost_ret (v := insVal (tlRAB (k, R, A, B, nm))) (by simp [results, Tryz.results114, go_sem, insVal, tlRAB]) rfl ⟨rfl, ?_⟩
  exact ((Below.refl _ w).alloc (Nat.le_refl _) _).alloc (by simp) _
set_option maxHeartbeats 1000000 in
set_option maxRecDepth 100000 in
theorem impl_withRAName : Tld 124 tlRAN := by
  rintro ⟨k, R, A, B, nm⟩ w
  unfold insVal tlRAN
  dsimp only
  go_enter Tryz.func124, Tryz.ntmps124
  go_wp2
  refine bodyPost_ret (v := insVal (tlRAN (k, R, A, B, nm))) (by simp [results, Tryz.results124, go_sem, insVal, tlRAN]) rfl ⟨rfl, ?_⟩
  exact ((Below.refl _ w).alloc (Nat.le_refl _) _).alloc (by simp) _
def rsN (_i : In13) : List Int := []
def rsR (i : In13) : List Int := [i.2.1]
def rsRAB (i : In13) : List Int := [i.2.1, i.2.2.1, i.2.2.2.1]
def rsC (i : In13) : List Int := [i.2.1, max i.2.1 (wrap64 (wrap64 (i.2.1 + i.2.2.1) - 1))]
theorem as_new (w : World) (xs : List Int) (t : TypeId) : AsIn (w.alloc (.cells (intsV xs).toArray t)) (some ⟨w.heap.size, 0, none⟩) xs := by
  have hA := heap_alloc_new w (.cells (intsV xs).toArray t)
  intro j hj
  refine ⟨_, 0, rfl, by simp, ?_⟩
  rw [cell_of_row _ _ _ _ _ _ hA, Nat.zero_add]
  simp [intsV, List.getD, hj]
set_option maxHeartbeats 1000000 in
set_option maxRecDepth 100000 in
theorem impl_noRegister : Rgs 123 rsN := by
  rintro ⟨k, R, A, B, nm⟩ w
  unfold insVal
  dsimp only
  have hA := fun W => as_new W (rsN (k, R, A, B, nm)) 2
  unfold rsN at hA ⊢
  (try dsimp only at hA ⊢)
  go_enter Tryz.func123, Tryz.ntmps123
  go_wp2
  go_ret
  refine ⟨_, _, rfl, ?_, ((Below.refl _ w).alloc (Nat.le_refl _) _).alloc (by simp) _⟩
  have h := hA (w.alloc (.cells #[.int .i64 k, .int .i64 R, .int .i64 A, .int .i64 B, .string ⟨nm.toArray⟩] 56))
  simpa [intsV] using h
set_option maxHeartbeats 1000000 in
set_option maxRecDepth 100000 in
theorem impl_registerR : Rgs 118 rsR := by
  rintro ⟨k, R, A, B, nm⟩ w
  unfold insVal
  dsimp only
  have hA := fun W => as_new W (rsR (k, R, A, B, nm)) 2
  unfold rsR at hA ⊢
  (try dsimp only at hA ⊢)
  go_enter Tryz.func118, Tryz.ntmps118
  go_wp2
  go_ret
  refine ⟨_, _, rfl, ?_, ((Below.refl _ w).alloc (Nat.le_refl _) _).alloc (by simp) _⟩
  have h := hA (w.alloc (.cells #[.int .i64 k, .int .i64 R, .int .i64 A, .int .i64 B, .string ⟨nm.toArray⟩] 56))
  simpa [intsV] using h
set_option maxHeartbeats 1000000 in
set_option maxRecDepth 100000 in
theorem impl_registersRAB : Rgs 115 rsRAB := by
  rintro ⟨k, R, A, B, nm⟩ w
  unfold insVal
  dsimp only
  have hA := fun W => as_new W (rsRAB (k, R, A, B, nm)) 2
  unfold rsRAB at hA ⊢
  (try dsimp only at hA ⊢)
  go_enter Tryz.func115, Tryz.ntmps115
  go_wp2
  go_ret
  refine ⟨_, _, rfl, ?_, ((Below.refl _ w).alloc (Nat.le_refl _) _).alloc (by simp) _⟩
  have h := hA (w.alloc (.cells #[.int .i64 k, .int .i64 R, .int .i64 A, .int .i64 B, .string ⟨nm.toArray⟩] 56))
  simpa [intsV] using h
set_option maxHeartbeats 1000000 in
set_option maxRecDepth 100000 in
theorem impl_registersOfCall : Rgs 125 rsC := by
  rintro ⟨k, R, A, B, nm⟩ w
  unfold insVal
  dsimp only
  have hA := fun W => as_new W (rsC (k, R, A, B, nm)) 2
  unfold rsC at hA ⊢
  (try dsimp only at hA ⊢)
  go_enter Tryz.func125, Tryz.ntmps125
  go_wp2
  go_ret
  refine ⟨_, _, rfl, ?_, ((Below.refl _ w).alloc (Nat.le_refl _) _).alloc (by simp) _⟩
  have h := hA (w.alloc (.cells #[.int .i64 k, .int .i64 R, .int .i64 A, .int .i64 B, .string ⟨nm.toArray⟩] 56))
  simpa [intsV] using h
def rqY (_i : In13) (_n : Int) : Bool := true
def rqW (i : In13) (_n : Int) : Bool := inB i.2.2.1 (-2147483648) 2147483647
def rqA (i : In13) (_n : Int) : Bool := decide (0 ≤ i.2.2.1) && decide (i.2.2.1 ≤ 2)
def rqP (i : In13) (n : Int) : Bool := decide (0 ≤ i.2.2.1) && decide (i.2.2.1 < n)
def rqC (i : In13) (_n : Int) : Bool := decide (0 ≤ i.2.2.1) && decide (i.2.2.1 ≤ 3) && name13 i.2.2.2.2
set_option maxHeartbeats 1000000 in
set_option maxRecDepth 100000 in
theorem impl_nothingElse : Rit 116 rqY := by
  rintro ⟨k, R, A, B, nm⟩ n w _
  unfold insVal rqY
  go_enter Tryz.func116, Tryz.ntmps116
  go_wp2
  go_ret
  exact ⟨rfl, (Below.refl _ w).alloc (Nat.le_refl _) _⟩
set_option maxHeartbeats 1000000 in
set_option maxRecDepth 100000 in
theorem impl_wordInA : Rit 119 rqW := by
  rintro ⟨k, R, A, B, nm⟩ n w _
  unfold insVal rqW
  dsimp only
  go_enter Tryz.func119, Tryz.ntmps119
  go_wp2_with (go_at_call 78; refine (implWordOkS _ _).mono ?_; rintro e w' ⟨rfl, rfl⟩)
  go_ret
  exact ⟨rfl, (Below.refl _ w).alloc (Nat.le_refl _) _⟩
set_option maxHeartbeats 1000000 in
set_option maxRecDepth 100000 in
theorem impl_argInA : Rit 120 rqA := by
  rintro ⟨k, R, A, B, nm⟩ n w _
  unfold insVal rqA
  dsimp only
  by_cases h1 : 0 ≤ A
  · by_cases h2 : A ≤ 2
    · rw [decide_eq_true h1, decide_eq_true h2]
      go_enter Tryz.func120, Tryz.ntmps120
      go_wp2
      go_ret
      exact ⟨rfl, (Below.refl _ w).alloc (Nat.le_refl _) _⟩
    · rw [decide_eq_true h1, decide_eq_false h2]
      go_enter Tryz.func120, Tryz.ntmps120
      go_wp2
      go_ret
      exact ⟨rfl, (Below.refl _ w).alloc (Nat.le_refl _) _⟩
  · rw [decide_eq_false h1]
    go_enter Tryz.func120, Tryz.ntmps120
    go_wp2
    go_ret
    exact ⟨rfl, (Below.refl _ w).alloc (Nat.le_refl _) _⟩
set_option maxHeartbeats 1000000 in
set_option maxRecDepth 100000 in
theorem impl_placeInA : Rit 121 rqP := by
  rintro ⟨k, R, A, B, nm⟩ n w _
  unfold insVal rqP
  dsimp only
  by_cases h1 : 0 ≤ A
  · by_cases h2 : A < n
    · rw [decide_eq_true h1, decide_eq_true h2]
      go_enter Tryz.func121, Tryz.ntmps121
      go_wp2
      go_ret
      exact ⟨rfl, (Below.refl _ w).alloc (Nat.le_refl _) _⟩
    · rw [decide_eq_true h1, decide_eq_false h2]
      go_enter Tryz.func121, Tryz.ntmps121
      go_wp2
      go_ret
      exact ⟨rfl, (Below.refl _ w).alloc (Nat.le_refl _) _⟩
  · rw [decide_eq_false h1]
    go_enter Tryz.func121, Tryz.ntmps121
    go_wp2
    go_ret
    exact ⟨rfl, (Below.refl _ w).alloc (Nat.le_refl _) _⟩
set_option maxHeartbeats 1000000 in
set_option maxRecDepth 100000 in
theorem liteCut13 (l : List UInt8) (b : UInt8) (w : World) (hl : l.length ≤ 1048576) :
    Calls Tryz.prog 99 #[.string ⟨l.toArray⟩, .string ⟨#[b]⟩] w fun e w' => ∃ g, e = .returned (.tuple #[.string ⟨(cutA b l).toArray⟩, .string ⟨(cutB b l).toArray⟩, .bool g]) ∧ Below w.heap.size w w' := by
  have hext := ext_list
  have HC : Hid (_) := fun W : World => Tryz.stringslite_Index_one ⟨l.toArray⟩ b W
  rcases cut_at b l with ⟨h1, h2, h3⟩ | ⟨k, h1, hk, h3, h4⟩
  · rw [h2, h3]
    rw [show (⟨l.toArray⟩ : ByteArray).data.toList = l from rfl, h1] at HC
    clear h1 h2 h3
    go_enter Tryz.func99, Tryz.ntmps99
    go_wp2_with (go_at_call 113; refine Calls.mono (HC.out _) ?_; rintro e w' ⟨rfl, rfl⟩)
    go_ret3
    exact ⟨_, rfl, Below.refl _ _⟩
  · rw [h3, h4]
    rw [show (⟨l.toArray⟩ : ByteArray).data.toList = l from rfl, h1] at HC
    have c2 : (k : Int) ≤ (l.length : Int) := by omega
    have c4 : (k : Int) + 1 ≤ (l.length : Int) := by omega
    have c5 : (l.length : Int) ≤ 1048576 := by omega
    have htk : List.take (l.length - (k + 1)) (List.drop (k + 1) l) = List.drop (k + 1) l := List.take_of_length_le (by rw [List.length_drop]; omega)
    clear h1 h3 h4
    go_enter Tryz.func99, Tryz.ntmps99
    go_wp2_with (go_at_call 113; refine Calls.mono (HC.out _) ?_; rintro e w' ⟨rfl, rfl⟩)
    go_quiet (fail)
    go_wp2
    go_ret3
    exact ⟨_, rfl, ⟨rfl, rfl, rfl, Nat.le_refl _, fun _ _ => rfl⟩⟩

set_option maxHeartbeats 1000000 in
set_option maxRecDepth 100000 in
theorem cutOne13 (l : List UInt8) (b : UInt8) (w : World) (hl : l.length ≤ 1048576) :
    Calls Tryz.prog 80 #[.string ⟨l.toArray⟩, .string ⟨#[b]⟩] w fun e w' => ∃ g, e = .returned (.tuple #[.string ⟨(cutA b l).toArray⟩, .string ⟨(cutB b l).toArray⟩, .bool g]) ∧ Below w.heap.size w w' := by
  have HC : Hid (_) := liteCut13 l b w hl
  generalize cutA b l = x at HC ⊢
  generalize cutB b l = y at HC ⊢
  go_enter Tryz.func80, Tryz.ntmps80
  go_wp2_with fail
  refine Calls.mono HC.out ?_
  rintro e w1 ⟨g, rfl, hb1⟩
  go_wp2
  go_ret3
  exact ⟨_, rfl, hb1⟩

theorem drop_none : ∀ (s : List UInt8), (∀ c ∈ s, c ≠ 46) → s.dropWhile (fun c => c != 46) = []
  | [], _ => rfl
  | c :: r, h => by rw [List.dropWhile_cons, if_pos (bne_iff_ne.2 (h c (by simp)))]; exact drop_none r (fun d hd => h d (by simp [hd]))
theorem name_cut (s : List UInt8) : (nameB (cutA 46 s) && nameB (cutB 46 s)) = name13 s := by
  have hno : ∀ {l : List UInt8}, nameB l = true → ∀ c ∈ l, c ≠ 46 := fun h c hc e => by
    unfold nameB at h
    rw [Bool.and_eq_true, List.all_eq_true] at h
    have := h.2 c hc
    subst e
    simp at this
  have hnil : nameB [] = false := by decide
  by_cases hm : (46 : UInt8) ∈ s
  · obtain ⟨x, y, rfl, hx⟩ := List.eq_append_cons_of_mem hm
    have hx2 : ∀ c ∈ x, c ≠ 46 := fun c hc e => hx (e ▸ hc)
    obtain ⟨ea, eb⟩ := cut_one 46 x y hx2
    rw [ea, eb]
    by_cases hy : (46 : UInt8) ∈ y
    · have hny : nameB y = false := by
        rcases h : nameB y with _ | _
        · rfl
        · exact absurd rfl (hno h 46 hy)
      obtain ⟨y1, y2, rfl, hy1⟩ := List.eq_append_cons_of_mem hy
      have hy2 : ∀ c ∈ y1, c ≠ 46 := fun c hc e => hy1 (e ▸ hc)
      have hs : splitL 46 (x ++ 46 :: (y1 ++ 46 :: y2)) = x :: y1 :: splitGo 46 [] y2 := by
        unfold splitL
        rw [split_one 46 x _ [] hx2, split_one 46 y1 y2 [] hy2]
        rfl
      have hne := splitGo_ne 46 y2 []
      unfold name13
      rw [hs, hny, Bool.and_false]
      have : ((x :: y1 :: splitGo 46 [] y2).length == 2) = false := by
        rcases hq : splitGo 46 [] y2 with _ | _
        · exact absurd hq hne
        · simp
      rw [this]
      rfl
    · have hy2 : ∀ c ∈ y, c ≠ 46 := fun c hc e => hy (e ▸ hc)
      have hs : splitL 46 (x ++ 46 :: y) = [x, y] := by
        unfold splitL
        rw [split_one 46 x y [] hx2, split_none 46 y [] hy2]
        rfl
      unfold name13
      rw [hs]
      simp
  · have h2 : ∀ c ∈ s, c ≠ 46 := fun c hc e => hm (e ▸ hc)
    have hb : cutB 46 s = [] := by
      unfold cutB
      rw [drop_none s h2]
      rfl
    have hs : splitL 46 s = [s] := by
      unfold splitL
      rw [split_none 46 s [] h2]
      rfl
    rw [hb, hnil, Bool.and_false]
    unfold name13
    rw [hs]
    rfl
set_option maxHeartbeats 1000000 in
set_option maxRecDepth 100000 in
theorem implWhole (s : List UInt8) (w : World) (hl : s.length ≤ 1048576) :
    Calls Tryz.prog 60 #[.string ⟨s.toArray⟩] w fun e w' => e = .returned (.bool (name13 s)) ∧ Below w.heap.size w w' := by
  rw [← name_cut]
  have HC : Hid (_) := cutOne13 s 46 w hl
  have h1 := cutA_len 46 s
  have h2 := cutB_len 46 s
  generalize cutA 46 s = x at HC h1 ⊢
  generalize cutB 46 s = y at HC h2 ⊢
  have HX : Hid (_) := fun W : World => implNameOk x W (by omega)
  have HY : Hid (_) := fun W : World => implNameOk y W (by omega)
  generalize nameB y = by2 at HY ⊢
  generalize nameB x = bx at HX ⊢
  cases bx
  · go_enter Tryz.func60, Tryz.ntmps60
    go_wp2_with fail
    refine Calls.mono HC.out ?_
    rintro e w1 ⟨g, rfl, hb1⟩
    go_wp2_with fail
    refine Calls.mono (HX.out _) ?_
    rintro e w2 ⟨rfl, hb2⟩
    go_wp2
    go_ret
    exact ⟨rfl, hb1.trans (hb2.mono hb1.size)⟩
  · go_enter Tryz.func60, Tryz.ntmps60
    go_wp2_with fail
    refine Calls.mono HC.out ?_
    rintro e w1 ⟨g, rfl, hb1⟩
    go_wp2_with fail
    refine Calls.mono (HX.out _) ?_
    rintro e w2 ⟨rfl, hb2⟩
    go_wp2_with fail
    refine Calls.mono (HY.out _) ?_
    rintro e w3 ⟨rfl, hb3⟩
    have hB2 := hb1.trans (hb2.mono hb1.size)
    go_wp2
    go_ret
    exact ⟨rfl, hB2.trans (hb3.mono hB2.size)⟩
set_option maxHeartbeats 1000000 in
set_option maxRecDepth 100000 in
theorem impl_countAndName : Rit 126 rqC := by
  rintro ⟨k, R, A, B, nm⟩ n w hl
  unfold insVal rqC
  dsimp only at hl ⊢
  by_cases h1 : 0 ≤ A
  · by_cases h2 : A ≤ 3
    · rw [decide_eq_true h1, decide_eq_true h2]
      have HC : Hid (_) := fun W : World => implWhole nm W hl
      generalize name13 nm = bn at HC ⊢
      go_enter Tryz.func126, Tryz.ntmps126
      go_wp2_with fail
      refine Calls.mono (HC.out _) ?_
      rintro e w2 ⟨rfl, hb2⟩
      go_wp2
      go_ret
      have hb1 : Below w.heap.size w _ := (Below.refl _ w).alloc (Nat.le_refl _) (.cells #[.int .i64 k, .int .i64 R, .int .i64 A, .int .i64 B, .string ⟨nm.toArray⟩] 56)
      exact ⟨rfl, hb1.trans (hb2.mono hb1.size)⟩
    · rw [decide_eq_true h1, decide_eq_false h2]
      go_enter Tryz.func126, Tryz.ntmps126
      go_wp2
      go_ret
      exact ⟨rfl, (Below.refl _ w).alloc (Nat.le_refl _) _⟩
  · rw [decide_eq_false h1]
    go_enter Tryz.func126, Tryz.ntmps126
    go_wp2
    go_ret
    exact ⟨rfl, (Below.refl _ w).alloc (Nat.le_refl _) _⟩
def regB (rs : List Int) : Bool := rs.all (fun r => inB r 0 63)
theorem regB_snoc (rs : List Int) (j : Nat) (hj : j < rs.length) : regB (rs.take (j + 1)) = (regB (rs.take j) && inB (rs.getD j 0) 0 63) := by
  have hg : rs.getD j 0 = rs[j] := by simp [List.getD, hj]
  rw [hg, List.take_succ_eq_append_getElem hj]
  unfold regB
  rw [List.all_append]
  simp
theorem regB_no {rs : List Int} {j : Nat} (hj : j < rs.length) (h : inB (rs.getD j 0) 0 63 = false) : regB rs = false := by
  have hg : rs.getD j 0 = rs[j] := by simp [List.getD, hj]
  rcases hb : regB rs with _ | _
  · rfl
  · have := List.all_eq_true.1 hb rs[j] (List.getElem_mem hj)
    rw [← hg, h] at this
    cases this
set_option maxHeartbeats 1000000 in
set_option maxRecDepth 100000 in
theorem implRegistersOk (a : Option Addr) (n c : Nat) (rs : List Int) (w : World) (hn : rs.length = n) (hin : AsIn w a rs) (hnl : n ≤ 1048576) :
    Calls Tryz.prog 101 #[.slice a n c] w fun e w' => e = .returned (.bool (regB rs)) ∧ w' = w := by
  have HIn : Hid (AsIn w a rs) := hin
  have HN : Hid (rs.length = n) := hn
  clear hin hn
  go_enter Tryz.func101, Tryz.ntmps101
  go_wp2
  go_loop [4, 7] (fun _ jv => ∃ j : Nat, jv = .int .i64 (j : Int) ∧ j ≤ n ∧ Hid (regB (rs.take j) = true)) (fun _ jv => n - (intOf jv).toNat)
  case atStart => exact ⟨0, rfl, Nat.zero_le _, rfl⟩
  case round =>
    obtain ⟨j, rfl, hj, st⟩ := hrel
    by_cases hlt : (j : Int) < (n : Int)
    · obtain ⟨b, off, rfl, hbl, hc⟩ := HIn.out j (by rw [HN.out]; omega)
      have HS : Hid (_) := regB_snoc rs j (by rw [HN.out]; omega)
      have HO : Hid (inB (rs.getD j 0) 0 63 = false → regB rs = false) := fun h => regB_no (by rw [HN.out]; omega) h
      rw [st.out, Bool.true_and] at HS
      generalize rs.getD j 0 = r at hc HS HO
      by_cases h1 : r < 0
      · have HF : Hid (regB rs = false) := HO.out (inB_no _ _ _ (Or.inl (by omega)))
        clear HS HO
        go_wp2
        go_ret
        exact ⟨by rw [HF.out]; rfl, rfl⟩
      · by_cases h2 : 63 < r
        · have HF : Hid (regB rs = false) := HO.out (inB_no _ _ _ (Or.inr (by omega)))
          clear HS HO
          go_wp2
          go_ret
          exact ⟨by rw [HF.out]; rfl, rfl⟩
        · have HF : Hid (regB (rs.take (j + 1)) = true) := by exact (by rw [HS.out]; exact inB_yes _ _ _ (by omega) (by omega) : regB (rs.take (j + 1)) = true)
          clear HS HO
          go_wp2
          go_round
          case rel => exact ⟨j + 1, by go_num, by omega, HF⟩
          case measure => simp [intOf]; omega
    · have HE : Hid (regB rs = true) := by
        have h := st.out
        rw [List.take_of_length_le (by rw [HN.out]; omega)] at h
        exact h
      go_wp2
      go_ret
      exact ⟨by rw [HE.out]; rfl, rfl⟩

end Go.Proofs.YtogobeegibngiaaGreatDoor

/-! Needs as the landed code of chapter 12 holds them: arrays of sixty marks, the first k of them set; what is read and written of them as a whole. -/
namespace Go.Proofs.YtogobeegibngiaaGreatDoor
open Go.RowKit

def nvL (k : Nat) : List Value := (List.range 60).map fun j => .bool (decide (j < k))
def nv (k : Nat) : Array Value := (nvL k).toArray
section
variable {X Y : World} {b o k : Nat}
end
theorem grown_setNv (b : Nat) : ∀ (vs : List Value) (o : Nat) (w : World), w.grownBy (w.setCells b o vs) (some b)
  | [], _, w => World.grownBy.refl w _
  | v :: r, o, w => by
    rw [World.setCells]
    exact (grown_set w b o v).trans (grown_setNv b r (o + 1) _)

end Go.Proofs.YtogobeegibngiaaGreatDoor
