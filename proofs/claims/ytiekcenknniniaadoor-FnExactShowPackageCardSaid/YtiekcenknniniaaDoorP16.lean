/-
  Parts of one proof, one behind the other: Shelf, PowI, TreeJ, TreeJ2, ChunkI.
-/
import Derived.Test.YtiekcenknniniaaDoorP15
import Derived.Shelf.Strings.Builder1
import Derived.Shelf.Strings.Builder2
import Derived.Shelf.Strings.OnBuilder
import Derived.Shelf.Strconv.Itoa0
import Derived.Shelf.Strconv.Itoa1
import Derived.Shelf.LaysM
import Derived.Shelf.Strconv.Itoa2
import Derived.Shelf.Strconv.Itoa3
import Derived.Shelf.Strconv.Itoa4
import Derived.Test.YtiekcenknniniaaDoorProg
import Derived.Test.YtiekcenknniniaaDoorP12
import Derived.Lib.AppendIntMem
import Derived.Lib.SmallJoins
import Derived.Lib.LaidTab
import Derived.Deep.RegionHeld3
import Derived.Test.YtiekcenknniniaaDoorP4
import Derived.Test.YtiekcenknniniaaDoorP3
import Derived.Laws.MakeOwn
import Derived.Lib.BufferWrite
import Derived.Lib.Strings

/-! The functions of this program that are the library's are the ones that the library has contracts of: number by number, type by type; and these contracts, at this program. -/
namespace Go.Proofs
open Go.Shelf
def Tryd.lays156_ren : Go.Shelf.Ren := ⟨fun | 156 => 36 | 165 => 53 | 166 => 54 | 169 => 55 | 240 => 66 | 241 => 67 | 276 => 74 | 277 => 75 | n => n, fun | 31 => 22 | 9 => 9 | 3 => 3 | 4 => 4 | 0 => 0 | 20 => 20 | 72 => 84 | 76 => 88 | 70 => 82 | 37 => 58 | 75 => 87 | 127 => 115 | 164 => 120 | 5 => 5 | 80 => 90 | n => n, fun | n => n⟩
theorem Tryd.lays156 : Go.Proofs.Lays.n156 Tryd.prog Tryd.lays156_ren := {
  mixed := by kernel_rfl
  f156 := Tryd.func36.trans (congrArg some (by kernel_rfl))
  f165 := Tryd.func53.trans (congrArg some (by kernel_rfl))
  f166 := Tryd.func54.trans (congrArg some (by kernel_rfl))
  f169 := Tryd.func55.trans (congrArg some (by kernel_rfl))
  f240 := Tryd.func66.trans (congrArg some (by kernel_rfl))
  f241 := Tryd.func67.trans (congrArg some (by kernel_rfl))
  f276 := Tryd.func74.trans (congrArg some (by kernel_rfl))
  f277 := Tryd.func75.trans (congrArg some (by kernel_rfl))
  t0 := Tryd.underlying0
  a0 := Tryd.isAgg0
  z0 := Tryd.sizeOf0
  v0 := Tryd.zeroValue0
  t3 := Tryd.underlying3
  a3 := Tryd.isAgg3
  z3 := Tryd.sizeOf3
  v3 := Tryd.zeroValue3
  t4 := Tryd.underlying4
  a4 := Tryd.isAgg4
  z4 := Tryd.sizeOf4
  v4 := Tryd.zeroValue4
  t9 := Tryd.underlying9
  a9 := Tryd.isAgg9
  z9 := Tryd.sizeOf9
  v9 := Tryd.zeroValue9
  t20 := Tryd.underlying20
  a20 := Tryd.isAgg20
  z20 := Tryd.sizeOf20
  v20 := Tryd.zeroValue20
  t31 := Tryd.underlying22
  a31 := Tryd.isAgg22
  z31 := Tryd.sizeOf22
  v31 := Tryd.zeroValue22
  t37 := Tryd.underlying58
  a37 := Tryd.isAgg58
  z37 := Tryd.sizeOf58
  v37 := Tryd.zeroValue58
  t70 := Tryd.underlying82
  a70 := Tryd.isAgg82
  z70 := Tryd.sizeOf82
  v70 := Tryd.zeroValue82
  t72 := Tryd.underlying84
  a72 := Tryd.isAgg84
  z72 := Tryd.sizeOf84
  v72 := Tryd.zeroValue84
  t75 := Tryd.underlying87
  a75 := Tryd.isAgg87
  z75 := Tryd.sizeOf87
  v75 := Tryd.zeroValue87
  t76 := Tryd.underlying88
  a76 := Tryd.isAgg88
  z76 := Tryd.sizeOf88
  v76 := Tryd.zeroValue88
  t127 := Tryd.underlying115
  a127 := Tryd.isAgg115
  z127 := Tryd.sizeOf115
  v127 := Tryd.zeroValue115
  t164 := Tryd.underlying120
  a164 := Tryd.isAgg120
  z164 := Tryd.sizeOf120
  v164 := Tryd.zeroValue120 }
theorem Tryd.Builder_Extra_156 : Builder.Extra Tryd.prog Tryd.lays156_ren := {
  sizeBuilder := by kernel_rfl
  liesBuilder := by kernel_rfl
  t5 := Tryd.underlying5
  a5 := Tryd.isAgg5
  z5 := Tryd.sizeOf5
  v5 := Tryd.zeroValue5
  infoByte := by kernel_rfl
  cellsByte := by kernel_rfl
  sizeByte := by kernel_rfl
  neB5 := by decide }
open Go.RowKit in
/-- No element: the empty string; the world is as it was. (Whatever the slice's address and capacity: a nil slice too.) (LAID: no walk: one application.) -/
theorem Tryd.strings_Join_none (a : Option Addr) (c : Nat) (sep : ByteArray) (w : World) :
    Calls Tryd.prog 36 #[.slice a 0 c, .string sep] w fun e w' => e = .returned (.string ⟨#[]⟩) ∧ w' = w := Any.strings_Join_none Tryd.lays156 Tryd.Builder_Extra_156 a c sep w
open Go.RowKit in
/-- strings.Join: "Join concatenates the elements of its first argument to create a single string. The separator string sep is placed between elements in the resulting string.": HOWEVER MANY ELEMENTS. Below the heap's end the world is as it was. (LAID: no walk: one application.) -/
theorem Tryd.strings_Join (bk o c : Nat) (xs : List ByteArray) (sep : ByteArray) (w : World) (hcells : ∀ (j : Nat) x, xs[j]? = some x → w.cell? ⟨bk, o + j, none⟩ = some (.string x)) (hbk : bk < w.heap.size) (hN : xs.length ≤ 140737488355328) (hcap : xs.length ≤ c) (hlen : (Lib.join (xs.map (·.data.toList)) sep.data.toList).length ≤ 140737488355328) :
    Calls Tryd.prog 36 #[.slice (some ⟨bk, o, none⟩) xs.length c, .string sep] w fun e w' => e = .returned (.string ⟨(Lib.join (xs.map (·.data.toList)) sep.data.toList).toArray⟩) ∧ Below w.heap.size w w' := Any.strings_Join Tryd.lays156 Tryd.Builder_Extra_156 bk o c xs sep w hcells hbk hN hcap hlen
def Tryd.laysM173_ren : Go.Shelf.Ren := ⟨fun | 173 => 17 | 246 => 35 | 283 => 49 | 284 => 50 | 285 => 51 | 286 => 52 | 129 => 62 | 317 => 61 | 318 => 63 | 319 => 64 | 320 => 65 | 337 => 72 | 338 => 73 | n => n, fun | 2 => 2 | 3 => 3 | 9 => 9 | 4 => 4 | 171 => 76 | 0 => 0 | 53 => 77 | 37 => 58 | 5 => 5 | 173 => 80 | 212 => 109 | 51 => 110 | 20 => 20 | 213 => 111 | 46 => 113 | 232 => 125 | 233 => 126 | n => n, fun | 17 => 0 | 18 => 1 | 19 => 2 | n => n⟩
theorem Tryd.laysM173 : Go.Proofs.LaysM.n173 Tryd.prog Tryd.laysM173_ren := {
  mixed := by kernel_rfl
  f129 := Tryd.func62.trans (congrArg some (by kernel_rfl))
  f173 := Tryd.func17.trans (congrArg some (by kernel_rfl))
  f246 := Tryd.func35.trans (congrArg some (by kernel_rfl))
  f283 := Tryd.func49.trans (congrArg some (by kernel_rfl))
  f284 := Tryd.func50.trans (congrArg some (by kernel_rfl))
  f285 := Tryd.func51.trans (congrArg some (by kernel_rfl))
  f286 := Tryd.func52.trans (congrArg some (by kernel_rfl))
  f317 := Tryd.func61.trans (congrArg some (by kernel_rfl))
  f318 := Tryd.func63.trans (congrArg some (by kernel_rfl))
  f319 := Tryd.func64.trans (congrArg some (by kernel_rfl))
  f320 := Tryd.func65.trans (congrArg some (by kernel_rfl))
  f337 := Tryd.func72.trans (congrArg some (by kernel_rfl))
  f338 := Tryd.func73.trans (congrArg some (by kernel_rfl))
  t0 := Tryd.underlying0
  a0 := Tryd.isAgg0
  z0 := Tryd.sizeOf0
  v0 := Tryd.zeroValue0
  t2 := Tryd.underlying2
  a2 := Tryd.isAgg2
  z2 := Tryd.sizeOf2
  v2 := Tryd.zeroValue2
  t3 := Tryd.underlying3
  a3 := Tryd.isAgg3
  z3 := Tryd.sizeOf3
  v3 := Tryd.zeroValue3
  t4 := Tryd.underlying4
  a4 := Tryd.isAgg4
  z4 := Tryd.sizeOf4
  v4 := Tryd.zeroValue4
  t5 := Tryd.underlying5
  a5 := Tryd.isAgg5
  z5 := Tryd.sizeOf5
  v5 := Tryd.zeroValue5
  t9 := Tryd.underlying9
  a9 := Tryd.isAgg9
  z9 := Tryd.sizeOf9
  v9 := Tryd.zeroValue9
  t20 := Tryd.underlying20
  a20 := Tryd.isAgg20
  z20 := Tryd.sizeOf20
  v20 := Tryd.zeroValue20
  t37 := Tryd.underlying58
  a37 := Tryd.isAgg58
  z37 := Tryd.sizeOf58
  v37 := Tryd.zeroValue58
  t46 := Tryd.underlying113
  a46 := Tryd.isAgg113
  z46 := Tryd.sizeOf113
  v46 := Tryd.zeroValue113
  t51 := Tryd.underlying110
  a51 := Tryd.isAgg110
  z51 := Tryd.sizeOf110
  v51 := Tryd.zeroValue110
  t53 := Tryd.underlying77
  a53 := Tryd.isAgg77
  z53 := Tryd.sizeOf77
  v53 := Tryd.zeroValue77
  t171 := Tryd.underlying76
  a171 := Tryd.isAgg76
  z171 := Tryd.sizeOf76
  v171 := Tryd.zeroValue76
  t173 := Tryd.underlying80
  a173 := Tryd.isAgg80
  z173 := Tryd.sizeOf80
  v173 := Tryd.zeroValue80
  t212 := Tryd.underlying109
  a212 := Tryd.isAgg109
  z212 := Tryd.sizeOf109
  v212 := Tryd.zeroValue109
  t213 := Tryd.underlying111
  a213 := Tryd.isAgg111
  z213 := Tryd.sizeOf111
  t232 := Tryd.underlying125
  a232 := Tryd.isAgg125
  z232 := Tryd.sizeOf125
  v232 := Tryd.zeroValue125
  t233 := Tryd.underlying126
  a233 := Tryd.isAgg126
  z233 := Tryd.sizeOf126
  v233 := Tryd.zeroValue126
  g17 := by kernel_rfl
  g18 := by kernel_rfl
  g19 := by kernel_rfl
  i0 := by kernel_rfl
  i2 := by kernel_rfl
  i3 := by kernel_rfl
  i4 := by kernel_rfl
  i5 := by kernel_rfl
  i9 := by kernel_rfl
  i20 := by kernel_rfl
  i37 := by kernel_rfl
  i46 := by kernel_rfl
  i51 := by kernel_rfl
  i53 := by kernel_rfl
  i171 := by kernel_rfl
  i173 := by kernel_rfl
  i212 := by kernel_rfl
  i232 := by kernel_rfl
  i233 := by kernel_rfl
  m17 := by kernel_rfl
  m18 := by kernel_rfl
  m19 := by kernel_rfl }
open Go.RowKit Go.Sort Go.Lib in
/-- strconv.FormatInt: "FormatInt returns the string representation of i in the given base": AT BASE 10: i's decimal numeral, for every int64. (LAID: no walk: one application.) -/
theorem Tryd.strconv_FormatInt_10 (n : Int) (h0 : -9223372036854775808 ≤ n) (h1 : n ≤ 9223372036854775807) (w : World) (htab : Lib.TabIs Tryd.prog w "internal/strconv.uint64pow10" .u64 Lib.pow10Tab) :
    Calls Tryd.prog 17 #[.int .i64 n, .int .i64 10] w fun e w' => e = .returned (.string ⟨(Lib.itoa n).toArray⟩) ∧ ∃ k os, w' = grow (w.drewN k) os := Any.strconv_FormatInt_10 Tryd.laysM173 n h0 h1 w htab
end Go.Proofs

/-! The landed code's numbers and texts: the library's table of powers of ten, numbers written, texts joined. -/
namespace Go.Proofs.YtiekcenknniniaaDoor
open Go.RowKit

/-- The library's table of powers of ten lies as its text lays it. -/
def PowIs (w : World) : Prop := Lib.TabIs Tryd.prog w "internal/strconv.uint64pow10" .u64 Lib.pow10Tab
theorem powAt : (Tryd.prog.globalNamed "internal/strconv.uint64pow10").isSome = true := by kernel_rfl
theorem powTy : (Tryd.prog.globalNamed "internal/strconv.uint64pow10").bind (fun g => (Tryd.prog.globals[g]?).map (·.type)) = some 109 := by kernel_rfl
/-- A listed variable that reads as the table holds it. -/
theorem pow_of_cells {W : World} {g : Nat} {t : TypeId} {cs : Array Value} {fuel : Nat} {p : List MemPlace} (hg : Tryd.prog.globalNamed "internal/strconv.uint64pow10" = some g) (ht : (Tryd.prog.globals[g]?).map (·.type) = some t)
    (hv : W.var? Tryd.prog "internal/strconv.uint64pow10" = some cs) (hd : DataW.trod (fun _ => ()) Tryd.prog W 0 (fun _ => true) false fuel t cs.toList = some (Lib.tabData .u64 Lib.pow10Tab, p)) : PowIs W := by
  have h1 := powTy
  rw [hg, Option.bind_some, ht] at h1
  obtain rfl := Option.some.inj h1
  unfold PowIs Lib.TabIs
  rw [hv, ← Lib.cells_of_tab Tryd.underlying109 Tryd.underlying77 (by kernel_rfl) (by kernel_rfl) hd]
theorem PowIs.below {w w' : World} (h : PowIs w) (hb : Below w.heap.size w w') : PowIs w' := by
  obtain ⟨g, hg⟩ := Option.isSome_iff_exists.1 powAt
  exact Go.Joins.tab_stays hg h hb (Nat.le_refl _)
theorem PowIs.drew {w : World} (h : PowIs w) : PowIs w.drew := h

theorem fmtInt (n : Int) (w : World) (ht : PowIs w) (h0 : -2147483648 ≤ n) (h1 : n ≤ 2147483647) :
    Calls Tryd.prog 17 #[.int .i64 n, .int .i64 10] w fun e w' => e = .returned (.string ⟨(intL n).toArray⟩) ∧ Below w.heap.size w w' := by
  refine (Tryd.strconv_FormatInt_10 n (by omega) (by omega) w ht).mono ?_
  rintro e w' ⟨rfl, k, os, rfl⟩
  exact ⟨by rw [itoa_int], Lib.below_grow _ w (Nat.le_refl _) k os⟩

theorem joinTexts (v : Value) (ts : List (List UInt8)) (base : Nat) (w : World) (h : w.ownsRow base 9 1 v ts.length (strV ts)) (hn : ts.length ≤ 1048576) (hl : (joinBy 32 ts).length ≤ 1048576) :
    Calls Tryd.prog 36 #[v, .string ⟨#[32]⟩] w fun e w' => e = .returned (.string ⟨(joinBy 32 ts).toArray⟩) ∧ Below w.heap.size w w' := by
  rcases h.2 with ⟨rfl, h0⟩ | ⟨g, cap, cur, rfl, hb, hg, hcap, _⟩
  · obtain rfl : ts = [] := List.eq_nil_of_length_eq_zero h0
    refine (Tryd.strings_Join_none none 0 ⟨#[32]⟩ w).mono ?_
    rintro e w' ⟨rfl, rfl⟩
    exact ⟨rfl, Below.refl _ _⟩
  · have hx : (ts.map (fun l => (⟨l.toArray⟩ : ByteArray))).map (·.data.toList) = ts := by rw [List.map_map]; exact (List.map_congr_left (fun l _ => rfl)).trans (List.map_id ts)
    have hxl : (ts.map (fun l => (⟨l.toArray⟩ : ByteArray))).length = ts.length := by simp
    have hj : Lib.join ((ts.map (fun l => (⟨l.toArray⟩ : ByteArray))).map (·.data.toList)) (⟨#[32]⟩ : ByteArray).data.toList = joinBy 32 ts := by rw [hx]; exact join_by ts
    have hc := Tryd.strings_Join g 0 cap (ts.map (fun l => (⟨l.toArray⟩ : ByteArray))) ⟨#[32]⟩ w (by
      intro j x hjx
      rw [List.getElem?_map, Option.map_eq_some_iff] at hjx
      obtain ⟨l, hl1, rfl⟩ := hjx
      obtain ⟨hj2, hl2⟩ := List.getElem?_eq_some_iff.1 hl1
      have := str_cellsD h rfl j hj2
      rw [Nat.zero_add, this, List.getD_eq_getElem?_getD, hl1]
      rfl) (h.lt g rfl).2 (by rw [hxl]; omega) (by rw [hxl]; exact hcap) (by rw [hj]; omega)
    rw [hj, hxl] at hc
    exact hc

end Go.Proofs.YtiekcenknniniaaDoor

/-! The contracts of chapter 6's landed code: what a shape is written as. -/
namespace Go.Proofs.YtiekcenknniniaaDoor
open Go.RowKit

set_option maxHeartbeats 2000000 in
set_option maxRecDepth 100000 in
theorem implWordOf (n : Nd) (w : World) (ht : PowIs w) (hn : nodeB n = true) :
    Calls Tryd.prog 38 #[shVal (shOf n)] w fun e w' => e = .returned (.string ⟨(showN n).toArray⟩) ∧ Below w.heap.size w w' := by
  obtain ⟨k, a, p, f⟩ := n
  have hcat := cat_list
  have hp := nodeB_iff.1 hn
  unfold nodeP at hp
  simp only at hp
  rcases hp with ⟨rfl, ⟨h0, h1⟩, rfl, rfl⟩ | ⟨rfl, ⟨h0, h1⟩, rfl, rfl⟩ | ⟨hk, rfl, rfl, rfl⟩ | ⟨rfl, ⟨h0, h1⟩, hpn, hfn⟩
  · have hs : showN (1, a, [], []) = intL a := by unfold showN; simp
    have hv : shVal (shOf (1, a, [], [])) = .iface 93 (.agg #[.int .i64 a]) := rfl
    rw [hs, hv]
    have ht2 : Hid (PowIs (w.alloc (.cells #[.int .i64 a] 93))) := ht.below ((Below.refl _ w).alloc (Nat.le_refl _) _)
    have q0 := as_num_num; have q1 := as_num_arg; have q2 := as_num_pair; have q3 := as_num_cond; have q4 := as_num_call
    clear hs hn hv ht
    go_enter Tryd.func38, Tryd.ntmps38
    go_wp2_with fail
    refine (fmtInt a _ ht2.out (by omega) (by omega)).mono ?_
    rintro e w1 ⟨rfl, hb1⟩
    go_wp2
    go_ret
    exact ⟨rfl, below_boxed hb1⟩
  · have hs : showN (2, a, [], []) = 36 :: intL a := by unfold showN; simp
    have hv : shVal (shOf (2, a, [], [])) = .iface 95 (.agg #[.int .i64 a]) := rfl
    rw [hs, hv]
    have ht2 : Hid (PowIs (w.alloc (.cells #[.int .i64 a] 95))) := ht.below ((Below.refl _ w).alloc (Nat.le_refl _) _)
    have q0 := as_arg_num; have q1 := as_arg_arg; have q2 := as_arg_pair; have q3 := as_arg_cond; have q4 := as_arg_call
    have hl := intL_short a (by omega) (by omega)
    clear hs hn hv ht
    go_enter Tryd.func38, Tryd.ntmps38
    go_wp2_with fail
    refine (fmtInt a _ ht2.out (by omega) (by omega)).mono ?_
    rintro e w1 ⟨rfl, hb1⟩
    have hli : ((intL a).length : Int) ≤ 11 := by omega
    go_wp2
    go_ret
    exact ⟨rfl, below_boxed hb1⟩
  · by_cases h7 : k = 7
    · subst h7
      have hv : shVal (shOf (7, 0, [], [])) = .iface 99 (.agg #[]) := rfl
      rw [hv]
      have q0 := as_cond_num; have q1 := as_cond_arg; have q2 := as_cond_pair; have q3 := as_cond_cond; have q4 := as_cond_call
      clear hn hv ht
      go_enter Tryd.func38, Tryd.ntmps38
      go_wp2
      go_ret
      exact ⟨by unfold showN; simp, (Below.refl _ w).alloc (Nat.le_refl _) _⟩
    · have q0 := as_pair_num; have q1 := as_pair_arg; have q2 := as_pair_pair; have q3 := as_pair_cond; have q4 := as_pair_call
      rcases (show k = 3 ∨ k = 4 ∨ k = 5 ∨ k = 6 by omega) with rfl | rfl | rfl | rfl
      · have hv : shVal (shOf (3, 0, [], [])) = .iface 97 (.agg #[.int .i64 3]) := rfl
        have hsw : showN (3, 0, [], []) = [43] := by unfold showN; simp
        rw [hv, hsw]
        clear hn hv ht hsw
        go_enter Tryd.func38, Tryd.ntmps38
        go_wp2
        go_ret
        exact ⟨by kernel_rfl, (Below.refl _ w).alloc (Nat.le_refl _) _⟩
      · have hv : shVal (shOf (4, 0, [], [])) = .iface 97 (.agg #[.int .i64 4]) := rfl
        have hsw : showN (4, 0, [], []) = [45] := by unfold showN; simp
        rw [hv, hsw]
        clear hn hv ht hsw
        go_enter Tryd.func38, Tryd.ntmps38
        go_wp2
        go_ret
        exact ⟨by kernel_rfl, (Below.refl _ w).alloc (Nat.le_refl _) _⟩
      · have hv : shVal (shOf (5, 0, [], [])) = .iface 97 (.agg #[.int .i64 5]) := rfl
        have hsw : showN (5, 0, [], []) = [42] := by unfold showN; simp
        rw [hv, hsw]
        clear hn hv ht hsw
        go_enter Tryd.func38, Tryd.ntmps38
        go_wp2
        go_ret
        exact ⟨by kernel_rfl, (Below.refl _ w).alloc (Nat.le_refl _) _⟩
      · have hv : shVal (shOf (6, 0, [], [])) = .iface 97 (.agg #[.int .i64 6]) := rfl
        have hsw : showN (6, 0, [], []) = [47] := by unfold showN; simp
        rw [hv, hsw]
        clear hn hv ht hsw
        go_enter Tryd.func38, Tryd.ntmps38
        go_wp2
        go_ret
        exact ⟨by kernel_rfl, (Below.refl _ w).alloc (Nat.le_refl _) _⟩
  · have HS : Hid (showN (8, a, p, f) = (64 :: p) ++ [46] ++ f ++ [47] ++ intL a) := by exact (by unfold showN; simp : showN (8, a, p, f) = (64 :: p) ++ [46] ++ f ++ [47] ++ intL a)
    have hv : shVal (shOf (8, a, p, f)) = .iface 101 (.agg #[.string ⟨p.toArray⟩, .string ⟨f.toArray⟩, .int .i64 a]) := rfl
    rw [hv]
    have q0 := as_call_num; have q1 := as_call_arg; have q2 := as_call_pair; have q3 := as_call_cond; have q4 := as_call_call
    have ht2 : Hid (PowIs (w.alloc (.cells #[.string ⟨p.toArray⟩, .string ⟨f.toArray⟩, .int .i64 a] 101)).drew) := (ht.below ((Below.refl _ w).alloc (Nat.le_refl _) _)).drew
    have hl := intL_short a (by omega) (by omega)
    have hpl := (name_letters hpn).1.2
    have hfl := (name_letters hfn).1.2
    have hli : ((intL a).length : Int) ≤ 11 := by omega
    have hpi : (p.length : Int) ≤ 8 := by omega
    have hfi : (f.length : Int) ≤ 8 := by omega
    have e1 : ∀ W : World, (Op.stringOp .add ⟨#[64]⟩ ⟨p.toArray⟩).run Tryd.prog W = .ok (.string ⟨(64 :: p).toArray⟩) W := fun W => by
      have := run_string_add_lists (P := Tryd.prog) W [64] p (by simp) (by omega)
      simpa using this
    have e2 : ∀ W : World, (Op.stringOp .add ⟨(64 :: p).toArray⟩ ⟨#[46]⟩).run Tryd.prog W = .ok (.string ⟨(64 :: (p ++ [46])).toArray⟩) W := fun W => by
      have := run_string_add_lists (P := Tryd.prog) W (64 :: p) [46] (by simp; omega) (by simp)
      simpa using this
    have e3 : ∀ W : World, (Op.stringOp .add ⟨(64 :: (p ++ [46])).toArray⟩ ⟨f.toArray⟩).run Tryd.prog W = .ok (.string ⟨(64 :: (p ++ 46 :: f)).toArray⟩) W := fun W => by
      have := run_string_add_lists (P := Tryd.prog) W (64 :: (p ++ [46])) f (by simp; omega) (by omega)
      simpa using this
    have e4 : ∀ W : World, (Op.stringOp .add ⟨(64 :: (p ++ 46 :: f)).toArray⟩ ⟨#[47]⟩).run Tryd.prog W = .ok (.string ⟨(64 :: (p ++ 46 :: (f ++ [47]))).toArray⟩) W := fun W => by
      have := run_string_add_lists (P := Tryd.prog) W (64 :: (p ++ 46 :: f)) [47] (by simp; omega) (by simp)
      simpa using this
    have e5 : ∀ W : World, (Op.stringOp .add ⟨(64 :: (p ++ 46 :: (f ++ [47]))).toArray⟩ ⟨(intL a).toArray⟩).run Tryd.prog W = .ok (.string ⟨(64 :: (p ++ 46 :: (f ++ 47 :: intL a))).toArray⟩) W := fun W => by
      have := run_string_add_lists (P := Tryd.prog) W (64 :: (p ++ 46 :: (f ++ [47]))) (intL a) (by simp; omega) (by omega)
      simpa using this
    clear hn hpn hfn hcat hv ht
    go_enter Tryd.func38, Tryd.ntmps38
    go_wp2
    go_region_held3 (fun w' => w'.cell? ⟨w.heap.size, 0, none⟩ = some (.string ⟨p.toArray⟩) ∧ w'.cell? ⟨w.heap.size, 1, none⟩ = some (.string ⟨f.toArray⟩) ∧ w'.cell? ⟨w.heap.size, 2, none⟩ = some (.int .i64 a)) (go_keep) (first | (go_at_call 17; refine (fmtInt a _ ht2.out (by omega) (by omega)).mono ?_; rintro e w1 ⟨rfl, hb1⟩; have hc0 : w1.cell? ⟨w.heap.size, 0, none⟩ = some (.string ⟨p.toArray⟩) := (hb1.cell (p := ⟨w.heap.size, 0, none⟩) (by simp)).trans (by simp); have hc1 : w1.cell? ⟨w.heap.size, 1, none⟩ = some (.string ⟨f.toArray⟩) := (hb1.cell (p := ⟨w.heap.size, 1, none⟩) (by simp)).trans (by simp); have hc2 : w1.cell? ⟨w.heap.size, 2, none⟩ = some (.int .i64 a) := (hb1.cell (p := ⟨w.heap.size, 2, none⟩) (by simp)).trans (by simp)))
    all_goals
      go_wp2
      go_ret
      exact ⟨ret_strl (by rw [HS.out]; simp), below_boxd hb1⟩

end Go.Proofs.YtiekcenknniniaaDoor

/-! The contracts of chapter 6's landed code: ShowTree. -/
namespace Go.Proofs.YtiekcenknniniaaDoor
open Go.RowKit

theorem show_take (ns : List Nd) (k : Nat) (hk : k < ns.length) : (ns.map showN).take (k + 1) = (ns.map showN).take k ++ [showN (ns.getD k nd0)] := by
  rw [List.take_succ_eq_append_getElem (by simpa using hk)]
  simp [List.getD, hk]

set_option maxHeartbeats 4000000 in
set_option maxRecDepth 100000 in
theorem implShowTree (a : Option Addr) (len cap : Nat) (ns : List Nd) (w : World) (hin : NodesIn w a len ns) (hint : IntT ns) (hsh : ShortT ns) (hlen : len ≤ 1048576) (ht : PowIs w) :
    Calls Tryd.prog 19 #[.slice a len cap] w fun e w' => e = .returned (.string ⟨(showT ns).toArray⟩) ∧ Below w.heap.size w w' := by
  obtain rfl : ns.length = len := hin.1
  have HC : Hid (_) := implTreeOk a ns.length cap ns w hin hint hsh hlen
  rcases htb : treeB ns with _ | _
  · have HS : Hid (showT ns = []) := by exact (by unfold showT; rw [if_neg (by rw [htb]; simp)] : showT ns = [])
    rw [htb] at HC
    clear hin hint hsh htb ht
    go_enter Tryd.func19, Tryd.ntmps19
    go_wp2_with fail
    refine Calls.mono HC.out ?_
    rintro e w1 ⟨rfl, hb1⟩
    go_wp2
    go_ret
    exact ⟨by rw [HS.out]; rfl, hb1⟩
  · have HS : Hid (showT ns = joinBy 32 (ns.map showN)) := by exact (by unfold showT; rw [if_pos htb]; rfl : showT ns = joinBy 32 (ns.map showN))
    have h60 : ns.length ≤ 60 := (tree_end htb).1.2
    have HNs : Hid (∀ n ∈ ns, nodeB n = true) := tree_nodes htb
    have HLen : Hid ((joinBy 32 (ns.map showN)).length ≤ ns.length * 31) := showL_len ns HNs.out
    have HI : Hid (NodesIn w a ns.length ns) := hin
    have HP : Hid (PowIs w) := ht
    obtain ⟨i0, hi, hz0, hz1, hz2⟩ := info_parts info9
    rw [htb] at HC
    clear hin hint hsh htb ht
    go_enter Tryd.func19, Tryd.ntmps19
    go_wp2_with fail
    refine Calls.mono HC.out ?_
    rintro e w1 ⟨rfl, hb1⟩
    have hown0 := (World.ownsRow_lit (base := w.heap.size) (e := 9) (size := 1) w1 #[] 0 hb1.size (by decide) rfl)
    have hB1 : Below w.heap.size w (w1.alloc (.cells #[] 9)) := hb1.alloc hb1.size _
    clear hb1 HC
    go_wp2
    go_loopw [3, 12] (fun v i wr => ∃ k : Nat, k ≤ ns.length ∧ i = .int .i64 k ∧ Hid (wr.ownsRow w.heap.size 9 1 v k (strV ((ns.map showN).take k))) ∧ Below w.heap.size w wr) (fun _ i _ => ns.length - (intOf i).toNat)
    case atStart => exact ⟨0, Nat.zero_le _, rfl, hown0, hB1⟩
    case round =>
      obtain ⟨k, hk, rfl, HV, hb⟩ := hrel
      clear hown0 hB1
      by_cases hkl : (k : Int) < (ns.length : Int)
      · have hk2 : k < ns.length := by omega
        have hst := show_take ns k hk2
        have hnk : nodeB (ns.getD k nd0) = true := by
          have hg : ns.getD k nd0 = ns[k] := by simp [List.getD, hk2]
          rw [hg]; exact HNs.out _ (List.getElem_mem hk2)
        obtain ⟨b, off, rfl, hbl, hcells⟩ := (HI.out.below hb).at (by omega)
        obtain ⟨c0, c1, c2, c3⟩ := hcells k hk2
        obtain ⟨n, hn⟩ : ∃ n, ns.getD k nd0 = n := ⟨_, rfl⟩
        rw [hn] at hst hnk c0 c1 c2 c3
        have HS1 : Hid (_) := fun W : World => implShapeOf n W
        have HW : Hid (_) := fun (W : World) (h : PowIs W) => implWordOf n W h hnk
        generalize shOf n = s at HS1 HW
        obtain ⟨x, hx⟩ : ∃ x, showN n = x := ⟨_, rfl⟩
        rw [hx] at hst HW
        have HST : Hid ((ns.map showN).take (k + 1) = (ns.map showN).take k ++ [x]) := hst
        have hpw := HP.out.below hb
        obtain ⟨kd, aa, p, f⟩ := n
        unfold nodeVal at HS1
        simp only at c0 c1 c2 c3 HS1
        obtain ⟨W0, hW0⟩ : ∃ W0, wr.alloc (.cells #[.int .i64 kd, .int .i64 aa, .string ⟨p.toArray⟩, .string ⟨f.toArray⟩] 65) = W0 := ⟨_, rfl⟩
        have hbW : Below wr.heap.size wr W0 := by rw [← hW0]; exact (Below.refl _ wr).alloc (Nat.le_refl _) _
        clear hn hcells hst hx hnk
        have st := NdAt.new wr kd aa p f
        rw [hW0] at st
        have d0 := st.c0
        have d1 := st.c1
        have d2 := st.c2
        have d3 := st.c3
        go_wp2_with fail
        refine Calls.mono (HS1.out _) ?_
        rintro e w2 ⟨rfl, hb2⟩
        have hB2 := hbW.trans (hb2.mono hbW.size)
        clear hb2 st d0 d1 d2 d3 c0 c1 c2 c3 HS1 hbW
        go_wp2_with fail
        refine Calls.mono (HW.out _ (hpw.below hB2)) ?_
        rintro e w3 ⟨rfl, hb3⟩
        have hB3 := hB2.trans (hb3.mono hB2.size)
        have hV3 := own_below HV.out hB3
        have hbd : Below w.heap.size w w3 := hb.trans (hB3.mono hb.size)
        have hsc : w.heap.size ≤ w3.heap.size := hbd.size
        clear hB2 hb3 hB3 HV HW hb hpw
        go_wp2_with (at_builtin; refine wpList_append_own _ rfl _ _ 22 rfl w.heap.size 9 i0 (.string ⟨#[]⟩) 1 16 Tryd.underlying22 hi hz0 hz1 hz2 rfl (by decide) _ _ _ rfl (hV3.alloc _) ⟨w3.heap.size, 0, none⟩ 1 1 [.string ⟨x.toArray⟩] rfl rfl ?c1 ?c2 ?c3 ?c4 ?c5 ?_)
        first | (case c1 => exact cell_one_new _ _ _) | skip
        first | (case c2 => first | rfl | (intro u hu; simp at hu; subst hu; rfl)) | skip
        first | (case c3 => unfold maxLen; omega) | skip
        first | (case c4 => omega) | skip
        first | (case c5 => simp; try omega) | skip
        intro v' w4 hown4 hgrow4 _
        have HV4 : Hid (w4.ownsRow w.heap.size 9 1 v' (k + 1) (strV ((ns.map showN).take (k + 1)))) := by
          exact (by rw [HST.out, ← strV_snoc]; exact hown4 : w4.ownsRow w.heap.size 9 1 v' (k + 1) (strV ((ns.map showN).take (k + 1))))
        have hb4 : Below w.heap.size w w4 := (hbd.alloc hbd.size _).grown hgrow4 (by simp; omega) (fun q e => (hV3.lt q e).1)
        clear hown4 hgrow4 hV3 hbd
        go_wp2
        go_roundw
        case rel => exact ⟨k + 1, by omega, by go_num, HV4, hb4⟩
        case measure => simp [intOf]; omega
      · obtain rfl : k = ns.length := by omega
        have hV := HV.out
        rw [List.take_of_length_le (by simp)] at hV
        have hj := joinTexts _ (ns.map showN) w.heap.size _ (by rw [List.length_map]; exact hV) (by simp; omega) (by have := HLen.out; omega)
        have HJ : Hid (_) := hj
        clear hj HV hV
        go_wp2_with fail
        refine Calls.mono HJ.out ?_
        rintro e w2 ⟨rfl, hb2⟩
        have hB2 := hb.trans (hb2.mono hb.size)
        go_wp2
        go_ret
        exact ⟨by rw [HS.out]; rfl, hB2⟩

end Go.Proofs.YtiekcenknniniaaDoor

/-! The contracts of the landed Chunks and Joined. -/
namespace Go.Proofs.YtiekcenknniniaaDoor
open Go.RowKit

/-- The bytes of r lie in block B, where A says; where there are none, A may be whatever. -/
def BytesAt (w : World) (B : Nat) (A : Option Addr) (r : List UInt8) : Prop :=
  r = [] ∨ ∃ off, A = some ⟨B, off, none⟩ ∧ ∀ j (hj : j < r.length), w.cell? ⟨B, off + j, none⟩ = some (.int .u8 (r[j].toNat : Int))

theorem BytesAt.below {w w' : World} {B : Nat} {A : Option Addr} {r : List UInt8} (h : BytesAt w B A r) (hb : w'.heap[B]? = w.heap[B]?) : BytesAt w' B A r := by
  rcases h with h | ⟨off, hA, hc⟩
  · exact Or.inl h
  · exact Or.inr ⟨off, hA, fun j hj => (World.cell?_of_block (a := ⟨B, off + j, none⟩) hb).trans (hc j hj)⟩

theorem BytesAt.drop {w : World} {B off cp : Nat} {r : List UInt8} (m : Nat) (hm : m ≤ r.length) (hcp : r.length ≤ cp) (hc : ∀ j (hj : j < r.length), w.cell? ⟨B, off + j, none⟩ = some (.int .u8 (r[j].toNat : Int))) : BytesAt w B (if cp = m then some ⟨B, off, none⟩ else some ⟨B, off + m, none⟩) (r.drop m) := by
  by_cases h : r.length = m
  · exact Or.inl (List.drop_eq_nil_of_le (by omega))
  · refine Or.inr ⟨off + m, by rw [if_neg (by omega)], fun j hj => ?_⟩
    rw [List.length_drop] at hj
    have := hc (m + j) (by omega)
    rw [← Nat.add_assoc] at this
    rw [this, List.getElem_drop]

theorem bytes_back {w : World} {B off : Nat} {r : List UInt8} (m : Nat) (hm : m ≤ r.length) (hc : ∀ j (hj : j < r.length), w.cell? ⟨B, off + j, none⟩ = some (.int .u8 (r[j].toNat : Int))) (c : Nat) :
    (convert 58 9 (.slice (some ⟨B, off, none⟩) m c)).run Tryd.prog w = .ok (.string ⟨(r.take m).toArray⟩) w := by
  have hl : (r.take m).length = m := by rw [List.length_take]; omega
  have h := run_convert_bytes_back (P := Tryd.prog) w 58 9 5 ⟨B, off, none⟩ c (r.take m) Tryd.underlying58 Tryd.underlying5 Tryd.underlying9 (by
    intro j hj
    have e0 : (⟨B, off, none⟩ : Addr).add j = ⟨B, off + j, none⟩ := by unfold Addr.add; split <;> simp_all
    rw [e0, hc j (by omega)]
    simp)
  rw [hl] at h
  exact h


def flatN (ts : List (List UInt8)) (k : Nat) : Nat := (ts.take k).flatten.length
def flatF (ts : List (List UInt8)) (k : Nat) : List UInt8 := (ts.take k).flatten

theorem flatN_step (ts : List (List UInt8)) (k : Nat) (hk : k < ts.length) : flatN ts (k + 1) = flatN ts k + (ts.getD k []).length ∧ flatF ts (k + 1) = flatF ts k ++ ts.getD k [] := by
  unfold flatN flatF
  rw [flat_snoc ts k hk, List.length_append]
  exact ⟨rfl, rfl⟩

theorem flatN_le (ts : List (List UInt8)) (k : Nat) : flatN ts k ≤ ts.flatten.length := flat_take ts k

/-- Block g is a row of N bytes of the call's own, of which the first hold l. -/
def RowAt (w : World) (g N : Nat) (l : List UInt8) : Prop := ∃ Y : Array Value, w.heap[g]? = some (.cells Y 5 (0, 0)) ∧ Y.size = N ∧ l.length ≤ N ∧ Y.toList.take l.length = bytesV l

theorem byteCells_list (l : List UInt8) : Lib.byteCells l = bytesV l := by simp [Lib.byteCells, bytesV]

/-- A text is copied behind what is there. -/
theorem RowAt.copy {w : World} {g N : Nat} {l t : List UInt8} (h : RowAt w g N l) (hfit : l.length + t.length ≤ N) (ty : TypeId) (off : Nat) (hfo : off + t.length ≤ N) (hoff : t = [] ∨ off = l.length) :
    ∃ w', (Builtin.copy_ #[58, 9] ty #[.slice (some ⟨g, off, none⟩) (N - l.length) (N - l.length), .string ⟨t.toArray⟩]).run Tryd.prog w = .ok (.int .i64 (t.length : Int)) w' ∧ RowAt w' g N (l ++ t) ∧ w.grownBy w' (some g) := by
  obtain ⟨Y, hY, hYs, hlN, htk⟩ := h
  obtain ⟨i0, hi, hz0, hz1, hz2⟩ := info_parts info5
  have hinfo : (Tryd.prog.info? 5).map (·.size) = some 1 := by rw [hi]; simp [hz1]
  have hts : (⟨t.toArray⟩ : ByteArray).size = t.length := List.size_toArray
  have hcp := Lib.run_copy_row_string (P := Tryd.prog) w 58 9 ty 5 g off (N - l.length) (N - l.length) ⟨t.toArray⟩ Y 5 Tryd.underlying58 hinfo hY (by rw [hts]; omega) (by rw [hts]; omega)
  rw [hts] at hcp
  have hYl : Y.toList.length = N := by rw [Array.length_toList]; exact hYs
  have hbl : (Lib.byteCells t).length = t.length := Lib.byteCells_length t
  refine ⟨_, hcp, ⟨_, setRow_heap _ _ Y _ 5 (0, 0) hY, ?_, by rw [List.length_append]; omega, ?_⟩, ⟨rfl, rfl, rfl, by simp, fun k hk hne => setRow_other _ _ _ _ (fun e => hne (by rw [e]))⟩⟩
  · rw [List.size_toArray, List.length_append, List.length_append, List.length_take, List.length_drop, hbl, hYl]
    omega
  · rw [List.toList_toArray]
    rcases hoff with rfl | rfl
    · simp only [Lib.byteCells, List.map_nil, List.append_nil, List.length_nil, Nat.add_zero, List.take_append_drop]
      exact htk
    · rw [htk, byteCells_list, List.length_append]
      have : bytesV (l ++ t) = bytesV l ++ bytesV t := by simp [bytesV]
      rw [← this, List.take_append_of_le_length (by simp [bytesV]), List.take_of_length_le (by simp [bytesV])]

set_option maxHeartbeats 2000000 in
set_option maxRecDepth 100000 in
theorem implJoined (a : Option Addr) (len cap : Nat) (ts : List (List UInt8)) (w : World) (hin : TextsIn w a len ts) (hl : ts.flatten.length ≤ 1048576) (hlen : len ≤ 4194304) :
    Calls Tryd.prog 20 #[.slice a len cap] w fun e w' => e = .returned (.string ⟨ts.flatten.toArray⟩) ∧ Below w.heap.size w w' := by
  have hlb := hin.1
  have HI : Hid (TextsIn w a len ts) := hin
  have HL : Hid (ts.flatten.length ≤ 1048576) := hl
  clear hin hl
  obtain ⟨i0, hi, hz0, hz1, hz2⟩ := info_parts info5
  have hmk : ∀ (N : Nat) (W : World), N ≤ 1048576 → ∃ M, M.size = N ∧ (Instr.makeSlice 58 (.int .i64 (N : Int)) (.int .i64 (N : Int))).run Tryd.prog W = .ok (.slice (some ⟨W.heap.size, 0, none⟩) N N) (W.alloc (.cells M 5)) := fun N W hN => by
    have h := run_make (P := Tryd.prog) W 58 5 i0 (.int .u8 0) Tryd.underlying58 hi hz0 .i64 .i64 (N : Int) (N : Int) (by omega) (by omega) (by rw [hz2]; omega) (by omega)
    refine ⟨madeCells (Value.int .u8 0).cells (((N : Int)).toNat * i0.size), by rw [size_madeCells, hz1]; simp, ?_⟩
    simpa using h
  have HMK := hmk ts.flatten.length w HL.out
  obtain ⟨M, hMs, hmake⟩ := HMK
  have HN : Hid (flatN ts len = ts.flatten.length) := by exact (by unfold flatN; rw [List.take_of_length_le (by omega)] : flatN ts len = ts.flatten.length)
  rw [← HN.out] at hMs hmake
  obtain ⟨N, hNN⟩ : ∃ N, flatN ts len = N := ⟨_, rfl⟩
  rw [hNN] at hMs hmake
  have HNN : Hid (flatN ts len = N) := hNN
  have HMS : Hid (M.size = N) := hMs
  clear hmk hMs hNN
  go_enter Tryd.func20, Tryd.ntmps20
  go_wp2
  go_loop [3, 12] (fun n i => ∃ k : Nat, k ≤ len ∧ i = .int .i64 k ∧ n = .int .i64 (flatN ts k : Nat)) (fun _ i => len - (intOf i).toNat)
  case atStart => exact ⟨0, Nat.zero_le _, rfl, rfl⟩
  case round =>
    obtain ⟨k, hk, rfl, rfl⟩ := hrel
    by_cases hkl : (k : Int) < (len : Int)
    · obtain ⟨b, off, rfl, hbl, hcells⟩ := HI.out.at (by omega)
      have ck := hcells k (by omega)
      have hst := (flatN_step ts k (by omega)).1
      have hft := flatN_le ts (k + 1)
      have hll := HL.out
      obtain ⟨t, ht⟩ : ∃ t, ts.getD k [] = t := ⟨_, rfl⟩
      rw [ht] at ck hst
      have hlen2 : (flatN ts k : Int) + (t.length : Int) ≤ 1048576 := by omega
      have HF : Hid (flatN ts (k + 1) = flatN ts k + t.length) := hst
      clear hcells hst hft ht hll hmake
      go_wp2
      go_round
      case rel => exact ⟨k + 1, by omega, by go_num, by rw [HF.out]; go_num⟩
      case measure => simp [intOf]; omega
    · obtain rfl : k = len := by omega
      have hR0 : RowAt (w.alloc (.cells M 5)) w.heap.size N (flatF ts 0) := ⟨M, heap_alloc_new w _, HMS.out, by simp [flatF], by simp [flatF, bytesV]⟩
      have HR0 : Hid (RowAt (w.alloc (.cells M 5)) w.heap.size N (flatF ts 0)) := hR0
      clear hR0
      rw [HNN.out]
      go_wp2
      go_loopw [7, 25] (fun at_ i wr => ∃ q : Nat, q ≤ k ∧ i = .int .i64 q ∧ at_ = .int .i64 (flatN ts q : Nat) ∧ Hid (RowAt wr w.heap.size N (flatF ts q)) ∧ w.heap.size < wr.heap.size ∧ Below w.heap.size w wr) (fun _ i _ => k - (intOf i).toNat)
      case atStart => exact ⟨0, Nat.zero_le _, rfl, rfl, HR0, by simp, (Below.refl _ _).alloc (Nat.le_refl _) _⟩
      case round =>
        obtain ⟨q, hq, rfl, rfl, HR, hlt, hb⟩ := hrel
        clear hmake HR0
        by_cases hql : (q : Int) < (k : Int)
        · obtain ⟨b, off, rfl, hbl, hcells⟩ := (HI.out.below hb).at (by omega)
          have ck := hcells q (by omega)
          have hst := flatN_step ts q (by omega)
          have hft := flatN_le ts (q + 1)
          have hll := HL.out
          have hn := HN.out
          have hn2 := HNN.out
          obtain ⟨t, ht⟩ : ∃ t, ts.getD q [] = t := ⟨_, rfl⟩
          rw [ht] at ck hst
          have hlen2 : (flatN ts q : Int) + (t.length : Int) ≤ (N : Int) := by omega
          have hlen3 : (N : Int) ≤ 1048576 := by omega
          have hlen4 : (flatN ts q : Int) ≤ (N : Int) := by omega
          have HF : Hid (flatN ts (q + 1) = flatN ts q + t.length) := hst.1
          have HF2 : Hid (flatF ts (q + 1) = flatF ts q ++ t) := hst.2
          have hfl : (flatF ts q).length = flatN ts q := rfl
          have HFL : Hid ((flatF ts q).length = flatN ts q) := hfl
          clear hcells hst hft ht hll hn hn2 hfl
          by_cases hA : flatN ts q = N
          · have ht0 : t = [] := List.eq_nil_of_length_eq_zero (by omega)
            subst ht0
            obtain ⟨w3, hcp, hR3, hg3⟩ := HR.out.copy (t := []) (by simp; rw [HFL.out]; omega) 3 0 (by simp) (Or.inl rfl)
            rw [HFL.out, hA, Nat.sub_self] at hcp
            rw [← HF2.out] at hR3
            have HR3 : Hid (RowAt w3 w.heap.size N (flatF ts (q + 1))) := hR3
            have HA : Hid (flatN ts q = N) := hA
            have hb3 : Below w.heap.size w w3 := hb.grown hg3 hb.size (fun j e => by injection e with e; omega)
            have hlt3 : w.heap.size < w3.heap.size := by have := hg3.size; omega
            rw [hA]
            clear hA hR3 hg3
            go_wp2
            go_roundw
            case rel => exact ⟨q + 1, by omega, by go_num, by rw [HF.out, HA.out]; rfl, HR3, hlt3, hb3⟩
            case measure => simp [intOf]; omega
          · obtain ⟨w3, hcp, hR3, hg3⟩ := HR.out.copy (t := t) (by rw [HFL.out]; omega) 3 (flatN ts q) (by omega) (Or.inr HFL.out.symm)
            rw [HFL.out] at hcp
            rw [← HF2.out] at hR3
            have HR3 : Hid (RowAt w3 w.heap.size N (flatF ts (q + 1))) := hR3
            have hA2 : ¬ N = flatN ts q := fun e => hA e.symm
            have hb3 : Below w.heap.size w w3 := hb.grown hg3 hb.size (fun j e => by injection e with e; omega)
            have hlt3 : w.heap.size < w3.heap.size := by have := hg3.size; omega
            clear hA hR3 hg3
            go_wp2
            go_roundw
            case rel => exact ⟨q + 1, by omega, by go_num, by rw [HF.out]; go_num, HR3, hlt3, hb3⟩
            case measure => simp [intOf]; omega
        · obtain rfl : q = k := by omega
          obtain ⟨Y, hY, hYs, hlN, htk⟩ := HR.out
          have hfl : (flatF ts q).length = N := (rfl : (flatF ts q).length = flatN ts q).trans HNN.out
          rw [hfl] at htk
          have hcells : ∀ j (hj : j < (flatF ts q).length), wr.cell? ⟨w.heap.size, 0 + j, none⟩ = some (.int .u8 ((flatF ts q)[j].toNat : Int)) := fun j hj => by
            have h1 : Y.toList = bytesV (flatF ts q) := by rw [← htk, List.take_of_length_le (by rw [Array.length_toList]; omega)]
            rw [Nat.zero_add]
            simp only [World.cell?, hY]
            simp only [Option.isSome_none, Bool.false_eq_true, if_false]
            rw [← Array.getElem?_toList, h1]
            simp [bytesV, hj]
          have hbk := bytes_back N (by omega) hcells N
          rw [List.take_of_length_le (by omega)] at hbk
          have HT : Hid (flatF ts q = ts.flatten) := by exact (by unfold flatF; rw [List.take_of_length_le (by omega)] : flatF ts q = ts.flatten)
          rw [HT.out] at hbk
          clear hcells hfl htk hlN hYs hY
          go_wp2
          go_ret
          exact ⟨rfl, hb⟩

end Go.Proofs.YtiekcenknniniaaDoor
