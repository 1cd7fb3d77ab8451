/-
  Parts of one proof, one behind the other: FrameS, NewS2, Shelf, PowI, FrameI, NewI.
-/
import Derived.Test.YtdoghjpjepolbaaGreatDoorP29
import Derived.Test.YtdoghjpjepolbaaGreatDoorP27
import Derived.Test.YtdoghjpjepolbaaGreatDoorP1
import Derived.Test.YtdoghjpjepolbaaGreatDoorP2
import Derived.Shelf.Small.Strs
import Derived.Shelf.Strconv.Itoa0
import Derived.Shelf.Strconv.Itoa1
import Derived.Shelf.LaysM
import Derived.Shelf.Strconv.Itoa2
import Derived.Shelf.Strconv.Itoa3
import Derived.Shelf.Strconv.Itoa4
import Derived.Shelf.Strings.Search1
import Derived.Shelf.Strings.Prefix
import Derived.Ground.Names2Prog
import Derived.Shelf.Slices.Clone
import Derived.Ground.SlgnProg
import Derived.Shelf.SlicesE.Clone
import Derived.Test.YtdoghjpjepolbaaGreatDoorProg
import Derived.Test.YtdoghjpjepolbaaGreatDoorP13
import Derived.Lib.AppendIntMem
import Derived.Lib.SmallJoins
import Derived.Lib.LaidTab
import Derived.Deep.RegionHeld3
import Derived.Test.YtdoghjpjepolbaaGreatDoorP14
import Derived.Test.YtdoghjpjepolbaaGreatDoorP21
import Derived.Test.YtdoghjpjepolbaaGreatDoorP20

/-! The contracts of chapter 2's specification: Framed, the first frame of a text, Unframed. -/
namespace Go.Proofs.YtdoghjpjepolbaaGreatDoor
open Go.RowKit

set_option maxHeartbeats 400000 in
set_option maxRecDepth 100000 in
theorem specL2Framed (l : List UInt8) (w : World) (hl : l.length ≤ 1048576) :
 Calls Tryz.prog 42 #[.string ⟨l.toArray⟩] w fun e w' => e = .returned (.string ⟨(framedL l).toArray⟩) ∧ Below w.heap.size w w' := by
 have hd := hashL_bd l
 go_enter Tryz.func42, Tryz.ntmps42
 go_wp2_with fail
 refine (specL1Hex _ _ (by omega) (by omega)).mono ?_
 rintro e w1 ⟨rfl, hb1⟩
 go_wp2_with fail
 refine (specHashX l _ hl).mono ?_
 rintro e w2 ⟨rfl, rfl⟩
 go_wp2_with fail
 refine (specL1Hex _ _ (by omega) (by omega)).mono ?_
 rintro e w3 ⟨rfl, hb3⟩
 have h8 : ∀ n, (hexL n).length = 8 := fun _ => rfl
 have hcat := cat_list
 go_wp2
 go_ret
 exact ⟨rfl, hb1.trans (hb3.mono hb1.size)⟩


end Go.Proofs.YtdoghjpjepolbaaGreatDoor

/-! The contracts of chapter 18's specification: l18Start, NewDesk. -/
namespace Go.Proofs.YtdoghjpjepolbaaGreatDoor
open Go.RowKit

theorem intL_len18 {n : Int} (h0 : -9223372036854775808 ≤ n) (h1 : n ≤ 9223372036854775807) : (intL n).length ≤ 21 := by
 have h := digL_len 19 n.natAbs (by omega)
 unfold intL
 split
 ·
  simp only [List.length_cons]; omega
 ·
  omega
/-- The text of a start. -/
def startT (n : Int) : List UInt8 := 115 :: 116 :: 97 :: 114 :: 116 :: 32 :: intL n
theorem startT_len {n : Int} (h0 : -9223372036854775808 ≤ n) (h1 : n ≤ 9223372036854775807) : (startT n).length ≤ 27 := by
 have := intL_len18 h0 h1
 unfold startT
 simp only [List.length_cons]
 omega
theorem startL_framed {n : Int} (h0 : -9223372036854775808 ≤ n) (h1 : n ≤ 9223372036854775807) : startL n = framedL (startT n) := by
 have := startT_len h0 h1
 exact framedS_yes (startT n) (by omega)

set_option maxHeartbeats 1000000 in
set_option maxRecDepth 100000 in
theorem specStart18 (n : Int) (w : World) (h0 : -9223372036854775808 ≤ n) (h1 : n ≤ 9223372036854775807) :
 Calls Tryz.prog 19 #[.int .i64 n] w fun e w' => e = .returned (.string ⟨(startL n).toArray⟩) ∧ Below w.heap.size w w' := by
 have HI : Hid (_) := specInt n w h0 h1
 have HF : Hid (∀ Z, _) := fun Z => specL2Framed (startT n) Z (by have := startT_len h0 h1; omega)
 have HT : Hid (startT n = 115 :: 116 :: 97 :: 114 :: 116 :: 32 :: intL n) := rfl
 rw [startL_framed h0 h1]
 generalize framedL (startT n) = r at HF ⊢
 rw [HT.out] at HF
 have hcat := cat_list
 have hi := intL_len18 h0 h1
 have hd6 : (⟨#[115, 116, 97, 114, 116, 32]⟩ : ByteArray) = ⟨([115, 116, 97, 114, 116, 32] : List UInt8).toArray⟩ := rfl
 clear HT
 go_enter Tryz.func19, Tryz.ntmps19
 go_wp2_with fail
 refine Calls.mono HI.out ?_
 rintro e w1 ⟨rfl, hb1⟩
 have HB1 : Hid (Below w.heap.size w w1) := hb1
 clear hb1
 go_wp2_with fail
 refine Calls.mono (HF.out _) ?_
 rintro e w2 ⟨rfl, hb2⟩
 have HB2 : Hid (Below w.heap.size w w2) := HB1.out.trans (hb2.mono HB1.out.size)
 clear hb2
 go_wp2
 go_ret
 exact ⟨rfl, HB2.out⟩

set_option maxHeartbeats 4000000 in
set_option maxRecDepth 100000 in
theorem specNewDesk (a : Option Addr) (len cap : Nat) (ps : List Pk) (w : World) (hin : PkgsIn w a len ps) (hlen : len ≤ 1048576) (hsh : ShortPs ps) :
 Calls Tryz.prog 6 #[.slice a len cap] w fun e w' => ∃ v, e = .returned (.tuple #[v, .bool (newV ps).2]) ∧ DkOut w w' v (newV ps).1 := by
 obtain ⟨D, hD⟩ : ∃ D, w.heap.size = D := ⟨_, rfl⟩
 obtain ⟨W1, hW1⟩ : ∃ W, w.alloc (.cells #[.slice none 0 0, .int .i64 0, .int .i64 0, .string ⟨#[]⟩] 26) = W := ⟨_, rfl⟩
 have hs1 : W1.heap.size = D + 1 := by rw [← hW1, ← hD]; simp
 have hb1 : Below D w W1 := by rw [← hW1, ← hD]; exact (Below.refl _ _).alloc (Nat.le_refl _) _
 have bR := B4.new w (.slice none 0 0) (.int .i64 0) (.int .i64 0) (.string ⟨#[]⟩) 26
 rw [hW1, hD] at bR
 have HD : Hid (∀ Z, Below W1.heap.size W1 Z → B4 Z D (.slice none 0 0) (.int .i64 0) (.int .i64 0) (.string ⟨#[]⟩) ∧ PkgsIn Z a len ps ∧ Below D w Z) := fun Z hz =>
  ⟨bR.below hz, (hin.below (by rw [hD]; exact hb1)).below hz, hb1.trans (hz.mono (by omega))⟩
 have HP : Hid (_) := specPrt a len cap ps W1 (HD.out W1 (Below.refl _ _)).2.1 hlen hsh
 clear hin bR hb1
 by_cases h0 : (faultV ps).1 = 0
 ·
  have hV : newV ps = ((tasks18 ps, 1, 0, startL 1), true) := if_pos h0
  have hpv : prtV ps = parts18 ps := (prtV_ok h0).1
  have HL : Hid ((tasks18 ps).length = (parts18 ps).length) := by exact (by unfold tasks18; simp : (tasks18 ps).length = (parts18 ps).length)
  have hpl := (parts18_len (clean18_of h0)).1
  have HT : Hid (∀ Z, PkgsIn Z a len ps → _) := fun Z hz => specTasks18 a len cap ps Z hz hlen hsh h0
  have HS : Hid (∀ Z, _) := fun Z => specStart18 1 Z (by omega) (by omega)
  rw [hV]
  rw [hpv] at HP
  generalize tasks18 ps = ts at HL HT ⊢
  generalize startL 1 = sl at HS ⊢
  generalize parts18 ps = os at HP HL hpl
  obtain ⟨n, hn⟩ : ∃ n, os.length = n := ⟨_, rfl⟩
  rw [hn] at HP hpl
  have hn0 : ¬ n = 0 := by omega
  have hn1 : ¬ (n : Int) = 0 := by omega
  have hn2 : ((n : Int) == 0) = false := beq_eq_false_iff_ne.2 hn1
  clear hV hpv h0 hn HL hsh
  go_enter Tryz.func6, Tryz.ntmps6
  go_wp2_with fail
  refine Calls.mono HP.out ?_
  rintro e w2 ⟨v2, rfl, ho2, hb2⟩
  obtain ⟨a2, c2, rfl⟩ := own_slice18 ho2
  have HB2 : Hid (Below W1.heap.size W1 w2) := hb2
  have HT2 : Hid (_) := HT.out w2 (HD.out w2 hb2).2.1
  clear ho2 hb2 HP HT
  go_wp2_with fail
  refine Calls.mono HT2.out ?_
  rintro e w3 ⟨v3, xs, rfl, hx, ho3, hap, hb3⟩
  have hxl : xs.length = ts.length := by rw [← hx, List.length_map]
  obtain ⟨va, vc, rfl⟩ := own_slice18 ho3.row
  rw [hxl] at ho3
  have HB3 : Hid (Below W1.heap.size W1 w3) := HB2.out.trans (hb3.mono HB2.out.size)
  have HO3 : Hid (TksOwn w3 w2.heap.size (.slice va ts.length vc) xs ∧ xs.map (·.1) = ts ∧ ApartR (xs.map tvT)) := ⟨ho3, hx, hap⟩
  rw [hxl]
  clear ho3 hx hap hb3 HT2 hxl
  go_wp2_with fail
  refine Calls.mono (HS.out _) ?_
  rintro e w4 ⟨rfl, hb4⟩
  have HB4 : Hid (Below W1.heap.size W1 w4) := HB3.out.trans (hb4.mono HB3.out.size)
  have HO4 : Hid (TksOwn w4 w2.heap.size (.slice va ts.length vc) xs) := HO3.out.1.below hb4
  obtain ⟨br, _, hbD⟩ := HD.out w4 HB4.out
  have r0 := br.c0
  have r1 := br.c1
  have r2 := br.c2
  have r3 := br.c3
  have f0 := br.fr 0
  have f1 := br.fr 1
  have f2 := br.fr 2
  have f3 := br.fr 3
  have HBD : Hid (Below D w w4) := hbD
  clear hbD br hb4
  have hw2 : D + 1 ≤ w2.heap.size := by have := HB2.out.size; omega
  go_wp2
  obtain ⟨X, hX, y0, y1, y2, y3, hg⟩ := set4 (.slice va ts.length vc) (.int .i64 1) (.int .i64 0) (.string ⟨sl.toArray⟩) r0 r1 r2 r3
  rw [hX]
  refine bodyPost_ret (v := .tuple #[.agg #[.slice va ts.length vc, .int .i64 1, .int .i64 0, .string ⟨sl.toArray⟩], .bool true]) (by simp [results, Tryz.results6, go_sem, y0, y1, y2, y3]) rfl ?_
  have hk := HO4.out.kept hg (own_offR HO4.out.row (by omega)) (fun y hy => own_offR (HO4.out.trees y hy) (by omega))
  exact ⟨_, rfl, va, vc, xs, rfl, HO3.out.2.1, hk.base (by omega), HO3.out.2.2, by rw [hD]; exact HBD.out.grown hg (by have := HBD.out.size; omega) (fun k e => by injection e with e; omega)⟩
 ·
  have hV : newV ps = (dk0, false) := if_neg h0
  have hpv : prtV ps = [] := if_neg h0
  rw [hV]
  rw [hpv] at HP
  clear hV hpv h0 hsh
  go_enter Tryz.func6, Tryz.ntmps6
  go_wp2_with fail
  refine Calls.mono HP.out ?_
  rintro e w2 ⟨v2, rfl, ho2, hb2⟩
  obtain ⟨a2, c2, rfl⟩ := own_slice18 ho2
  obtain ⟨br, _, hbD⟩ := HD.out w2 hb2
  have r0 := br.c0
  have r1 := br.c1
  have r2 := br.c2
  have r3 := br.c3
  have f0 := br.fr 0
  have f1 := br.fr 1
  have f2 := br.fr 2
  have f3 := br.fr 3
  have HBD : Hid (Below D w w2) := hbD
  clear ho2 hb2 hbD br HP
  go_wp2
  obtain ⟨X, hX, y0, y1, y2, y3, hg⟩ := set4 (.slice none 0 0) (.int .i64 0) (.int .i64 0) (.string ⟨#[]⟩) r0 r1 r2 r3
  rw [hX]
  refine bodyPost_ret (v := .tuple #[.agg #[.slice none 0 0, .int .i64 0, .int .i64 0, .string ⟨#[]⟩], .bool false]) (by simp [results, Tryz.results6, go_sem, y0, y1, y2, y3]) rfl ?_
  exact ⟨_, rfl, DkOut.zero (by rw [hD]; exact HBD.out.grown hg (by have := HBD.out.size; omega) (fun k e => by injection e with e; omega))⟩

end Go.Proofs.YtdoghjpjepolbaaGreatDoor

/-! The functions of this program that are the library's are the ones that the library has contracts of: number by number, type by type; and these contracts, at this program. -/
namespace Go.Proofs
open Go.Shelf
def Tryz.laysM173_ren : Go.Shelf.Ren := ⟨fun | 173 => 93 | 246 => 123 | 283 => 156 | 284 => 157 | 285 => 158 | 286 => 159 | 129 => 176 | 317 => 175 | 318 => 177 | 319 => 178 | 320 => 179 | 337 => 187 | 338 => 188 | n => n, fun | 2 => 2 | 3 => 3 | 9 => 9 | 4 => 4 | 171 => 186 | 0 => 0 | 53 => 187 | 37 => 79 | 5 => 5 | 173 => 190 | 212 => 221 | 51 => 222 | 20 => 20 | 213 => 223 | 46 => 192 | 232 => 240 | 233 => 241 | n => n, fun | 17 => 9 | 18 => 10 | 19 => 11 | n => n⟩
theorem Tryz.laysM173 : Go.Proofs.LaysM.n173 Tryz.prog Tryz.laysM173_ren := {
 mixed := by kernel_rfl
 f129 := Tryz.func176.trans (congrArg some (by kernel_rfl))
 f173 := Tryz.func93.trans (congrArg some (by kernel_rfl))
 f246 := Tryz.func123.trans (congrArg some (by kernel_rfl))
 f283 := Tryz.func156.trans (congrArg some (by kernel_rfl))
 f284 := Tryz.func157.trans (congrArg some (by kernel_rfl))
 f285 := Tryz.func158.trans (congrArg some (by kernel_rfl))
 f286 := Tryz.func159.trans (congrArg some (by kernel_rfl))
 f317 := Tryz.func175.trans (congrArg some (by kernel_rfl))
 f318 := Tryz.func177.trans (congrArg some (by kernel_rfl))
 f319 := Tryz.func178.trans (congrArg some (by kernel_rfl))
 f320 := Tryz.func179.trans (congrArg some (by kernel_rfl))
 f337 := Tryz.func187.trans (congrArg some (by kernel_rfl))
 f338 := Tryz.func188.trans (congrArg some (by kernel_rfl))
 t0 := Tryz.underlying0
 a0 := Tryz.isAgg0
 z0 := Tryz.sizeOf0
 v0 := Tryz.zeroValue0
 t2 := Tryz.underlying2
 a2 := Tryz.isAgg2
 z2 := Tryz.sizeOf2
 v2 := Tryz.zeroValue2
 t3 := Tryz.underlying3
 a3 := Tryz.isAgg3
 z3 := Tryz.sizeOf3
 v3 := Tryz.zeroValue3
 t4 := Tryz.underlying4
 a4 := Tryz.isAgg4
 z4 := Tryz.sizeOf4
 v4 := Tryz.zeroValue4
 t5 := Tryz.underlying5
 a5 := Tryz.isAgg5
 z5 := Tryz.sizeOf5
 v5 := Tryz.zeroValue5
 t9 := Tryz.underlying9
 a9 := Tryz.isAgg9
 z9 := Tryz.sizeOf9
 v9 := Tryz.zeroValue9
 t20 := Tryz.underlying20
 a20 := Tryz.isAgg20
 z20 := Tryz.sizeOf20
 v20 := Tryz.zeroValue20
 t37 := Tryz.underlying79
 a37 := Tryz.isAgg79
 z37 := Tryz.sizeOf79
 v37 := Tryz.zeroValue79
 t46 := Tryz.underlying192
 a46 := Tryz.isAgg192
 z46 := Tryz.sizeOf192
 v46 := Tryz.zeroValue192
 t51 := Tryz.underlying222
 a51 := Tryz.isAgg222
 z51 := Tryz.sizeOf222
 v51 := Tryz.zeroValue222
 t53 := Tryz.underlying187
 a53 := Tryz.isAgg187
 z53 := Tryz.sizeOf187
 v53 := Tryz.zeroValue187
 t171 := Tryz.underlying186
 a171 := Tryz.isAgg186
 z171 := Tryz.sizeOf186
 v171 := Tryz.zeroValue186
 t173 := Tryz.underlying190
 a173 := Tryz.isAgg190
 z173 := Tryz.sizeOf190
 v173 := Tryz.zeroValue190
 t212 := Tryz.underlying221
 a212 := Tryz.isAgg221
 z212 := Tryz.sizeOf221
 v212 := Tryz.zeroValue221
 t213 := Tryz.underlying223
 a213 := Tryz.isAgg223
 z213 := Tryz.sizeOf223
 t232 := Tryz.underlying240
 a232 := Tryz.isAgg240
 z232 := Tryz.sizeOf240
 v232 := Tryz.zeroValue240
 t233 := Tryz.underlying241
 a233 := Tryz.isAgg241
 z233 := Tryz.sizeOf241
 v233 := Tryz.zeroValue241
 g17 := by kernel_rfl
 g18 := by kernel_rfl
 g19 := by kernel_rfl
 i0 := by kernel_rfl
 i2 := by kernel_rfl
 i3 := by kernel_rfl
 i4 := by kernel_rfl
 i5 := by kernel_rfl
 i9 := by kernel_rfl
 i20 := by kernel_rfl
 i37 := by kernel_rfl
 i46 := by kernel_rfl
 i51 := by kernel_rfl
 i53 := by kernel_rfl
 i171 := by kernel_rfl
 i173 := by kernel_rfl
 i212 := by kernel_rfl
 i232 := by kernel_rfl
 i233 := by kernel_rfl
 m17 := by kernel_rfl
 m18 := by kernel_rfl
 m19 := by kernel_rfl }
open Go.RowKit Go.Sort Go.Lib in
/-- strconv.FormatInt: "FormatInt returns the string representation of i in the given base": AT BASE 10: i's decimal numeral, for every int64. (LAID: no walk: one application.) -/
theorem Tryz.strconv_FormatInt_10 (n : Int) (h0 : -9223372036854775808 ≤ n) (h1 : n ≤ 9223372036854775807) (w : World) (htab : Lib.TabIs Tryz.prog w "internal/strconv.uint64pow10" .u64 Lib.pow10Tab) :
 Calls Tryz.prog 93 #[.int .i64 n, .int .i64 10] w fun e w' => e = .returned (.string ⟨(Lib.itoa n).toArray⟩) ∧ ∃ k os, w' = grow (w.drewN k) os := Any.strconv_FormatInt_10 Tryz.laysM173 n h0 h1 w htab
end Go.Proofs

/-! The landed code's numbers and texts: the library's table of powers of ten, numbers written, texts joined. -/
namespace Go.Proofs.YtdoghjpjepolbaaGreatDoor
open Go.RowKit

/-- The library's table of powers of ten lies as its text lays it. -/
def PowIs (w : World) : Prop := Lib.TabIs Tryz.prog w "internal/strconv.uint64pow10" .u64 Lib.pow10Tab
theorem powAt : (Tryz.prog.globalNamed "internal/strconv.uint64pow10").isSome = true := by kernel_rfl
theorem powTy : (Tryz.prog.globalNamed "internal/strconv.uint64pow10").bind (fun g => (Tryz.prog.globals[g]?).map (·.type)) = some 221 := by kernel_rfl
/-- A listed variable that reads as the table holds it. -/
theorem pow_of_cells {W : World} {g : Nat} {t : TypeId} {cs : Array Value} {fuel : Nat} {p : List MemPlace} (hg : Tryz.prog.globalNamed "internal/strconv.uint64pow10" = some g) (ht : (Tryz.prog.globals[g]?).map (·.type) = some t)
 (hv : W.var? Tryz.prog "internal/strconv.uint64pow10" = some cs) (hd : DataW.trod (fun _ => ()) Tryz.prog W 0 (fun _ => true) false fuel t cs.toList = some (Lib.tabData .u64 Lib.pow10Tab, p)) : PowIs W := by
 have h1 := powTy
 rw [hg, Option.bind_some, ht] at h1
 obtain rfl := Option.some.inj h1
 unfold PowIs Lib.TabIs
 rw [hv, ← Lib.cells_of_tab Tryz.underlying221 Tryz.underlying187 (by kernel_rfl) (by kernel_rfl) hd]
theorem PowIs.below {w w' : World} (h : PowIs w) (hb : Below w.heap.size w w') : PowIs w' := by
 obtain ⟨g, hg⟩ := Option.isSome_iff_exists.1 powAt
 exact Go.Joins.tab_stays hg h hb (Nat.le_refl _)
theorem PowIs.drew {w : World} (h : PowIs w) : PowIs w.drew := h

end Go.Proofs.YtdoghjpjepolbaaGreatDoor

/-! The contracts of chapter 2's implementation: Framed, the frame ahead of a text, Unframed. -/
namespace Go.Proofs.YtdoghjpjepolbaaGreatDoor
open Go.RowKit

set_option maxHeartbeats 400000 in
set_option maxRecDepth 100000 in
theorem implFramed (l : List UInt8) (w : World) (hl : l.length ≤ 1048576) :
 Calls Tryz.prog 72 #[.string ⟨l.toArray⟩] w fun e w' => e = .returned (.string ⟨(framedS l).toArray⟩) ∧ Below w.heap.size w w' := by
 by_cases h : 20000 < (l.length : Int)
 ·
  have HS : Hid (framedS l = []) := framedS_no l (by omega)
  go_enter Tryz.func72, Tryz.ntmps72
  go_wp2
  go_ret
  exact ⟨ret_strl (by rw [HS.out]), Below.refl _ _⟩
 ·
  have HS : Hid (framedS l = framedL l) := framedS_yes l (by omega)
  have hd := hashL_bd l
  go_enter Tryz.func72, Tryz.ntmps72
  go_wp2_with fail
  refine (implHexOfX _ (hexL l.length) _ (by rw [hexS_yes _ (by omega) (by omega), Int.toNat_natCast])).mono ?_
  rintro e w1 ⟨rfl, hb1⟩
  go_wp2_with fail
  refine (implHashX l _ hl).mono ?_
  rintro e w2 ⟨rfl, rfl⟩
  go_wp2_with fail
  refine (implHexOfX _ (hexL (hashL l).toNat) _ (hexS_yes _ (by omega) (by omega))).mono ?_
  rintro e w3 ⟨rfl, hb3⟩
  have h8 : ∀ n, (hexL n).length = 8 := fun _ => rfl
  have hcat := cat_list
  go_wp2
  go_ret
  exact ⟨ret_strl (by rw [HS.out]; rfl), hb1.trans (hb3.mono hb1.size)⟩

set_option maxHeartbeats 1000000 in
set_option maxRecDepth 100000 in
theorem implAhead (l : List UInt8) (w : World) (hl : l.length ≤ 1048576) :
 Calls Tryz.prog 91 #[.string ⟨l.toArray⟩] w fun e w' => e = .returned (.tuple #[.string ⟨(firstT l).toArray⟩, .bool (firstB l)]) ∧ w' = w := by
 have hext := ext_list
 have htk : ∀ u, List.take (l.length - u) (List.drop u l) = List.drop u l := fun u => List.take_of_length_le (by rw [List.length_drop]; omega)
 by_cases h16 : (l.length : Int) < 16
 ·
  have HF : Hid (firstT l = [] ∧ firstN l = 0 ∧ firstB l = false) := firstB_no l (by omega)
  go_enter Tryz.func91, Tryz.ntmps91
  go_wp2
  go_ret2
  exact ⟨ret_sb HF.out.1.symm HF.out.2.2.symm, rfl⟩
 ·
  obtain ⟨k, hk⟩ : ∃ k : Nat, fromN (l.take 8) = (k : Int) := Int.eq_ofNat_of_zero_le (fromN_bd (l.take 8)).1
  obtain ⟨h, hh⟩ : ∃ h : Int, fromN ((l.drop 8).take 8) = h := ⟨_, rfl⟩
  obtain ⟨one, hone⟩ : ∃ b : Bool, fromB (l.take 8) = b := ⟨_, rfl⟩
  obtain ⟨two, htwo⟩ : ∃ b : Bool, fromB ((l.drop 8).take 8) = b := ⟨_, rfl⟩
  have hkb : (k : Int) ≤ 4294967295 := by rw [← hk]; exact (fromN_bd (l.take 8)).2
  have HK : Hid (fromN (l.take 8) = (k : Int)) := hk
  have HH : Hid (fromN ((l.drop 8).take 8) = h) := hh
  have H1 : Hid (fromB (l.take 8) = one) := hone
  have H2 : Hid (fromB ((l.drop 8).take 8) = two) := htwo
  clear hk hh hone htwo
  have hdl : (l.drop 16).length = l.length - 16 := List.length_drop
  obtain ⟨r, hr⟩ : ∃ r, l.drop 16 = r := ⟨_, rfl⟩
  have hr16 := htk 16
  rw [hr] at hr16
  have HR : Hid (l.drop 16 = r) := hr
  have hrl : r.length = l.length - 16 := by rw [← hr]; exact hdl
  go_enter Tryz.func91, Tryz.ntmps91
  go_wp2_with fail
  refine (implFromHexX (l.take 8) k one _ HK.out H1.out).mono ?_
  rintro e w1 ⟨rfl, rfl⟩
  go_wp2_with fail
  refine (implFromHexX ((l.drop 8).take 8) h two _ HH.out H2.out).mono ?_
  rintro e w2 ⟨rfl, rfl⟩
  by_cases hall : one = true ∧ two = true ∧ (k : Int) ≤ 20000 ∧ 16 + (k : Int) ≤ (l.length : Int)
  ·
   obtain ⟨rfl, rfl, hk2, hk3⟩ := hall
   have hk4 : (k : Int) ≤ (r.length : Int) := by omega
   go_wp2_with fail
   refine (implHashX (r.take k) _ (by have := List.length_take_le k r; omega)).mono ?_
   rintro e w3 ⟨rfl, rfl⟩
   by_cases hq : hashL (r.take k) = h
   ·
    have HF : Hid (firstT l = r.take k ∧ firstN l = 16 + (k : Int) ∧ firstB l = true) := by
     have := firstB_yes l (by rw [HK.out, HH.out, H1.out, H2.out, HR.out]; exact ⟨by omega, rfl, rfl, hk2, hk3, by simpa using hq⟩)
     rw [HK.out, Int.toNat_natCast, HR.out] at this
     exact this
    have hqb : (hashL (r.take k) != h) = false := by rw [hq]; simp
    clear hq
    go_wp2
    go_ret2
    exact ⟨ret_sb HF.out.1.symm HF.out.2.2.symm, rfl⟩
   ·
    have HF : Hid (firstT l = [] ∧ firstN l = 0 ∧ firstB l = false) := firstB_no l (by
     rw [HK.out, HH.out, H1.out, H2.out, HR.out]
     rintro ⟨_, _, _, _, _, a⟩
     exact hq (by simpa using a))
    have hqb : (hashL (r.take k) != h) = true := bne_iff_ne.2 hq
    clear hq
    go_wp2
    go_ret2
    exact ⟨ret_sb HF.out.1.symm HF.out.2.2.symm, rfl⟩
  ·
   have HF : Hid (firstT l = [] ∧ firstN l = 0 ∧ firstB l = false) := firstB_no l (by
    rw [HK.out, HH.out, H1.out, H2.out]
    rintro ⟨_, a, b, c, d, _⟩
    exact hall ⟨a, b, c, d⟩)
   rcases one with _ | _
   ·
    go_wp2
    go_ret2
    exact ⟨ret_sb HF.out.1.symm HF.out.2.2.symm, rfl⟩
   ·
    rcases two with _ | _
    ·
     go_wp2
     go_ret2
     exact ⟨ret_sb HF.out.1.symm HF.out.2.2.symm, rfl⟩
    ·
     by_cases hk2 : 20000 < (k : Int)
     ·
      go_wp2
      go_ret2
      exact ⟨ret_sb HF.out.1.symm HF.out.2.2.symm, rfl⟩
     ·
      have hk3 : (r.length : Int) < (k : Int) := by
       by_cases h1 : (l.length : Int) < 16 + (k : Int)
       ·
        omega
       ·
        exact absurd ⟨rfl, rfl, by omega, by omega⟩ hall
      clear hall
      go_wp2
      go_ret2
      exact ⟨ret_sb HF.out.1.symm HF.out.2.2.symm, rfl⟩

theorem implAheadX (l t : List UInt8) (b : Bool) (w : World) (hl : l.length ≤ 1048576) (ht : firstT l = t) (hb : firstB l = b) :
 Calls Tryz.prog 91 #[.string ⟨l.toArray⟩] w fun e w' => e = .returned (.tuple #[.string ⟨t.toArray⟩, .bool b]) ∧ w' = w := by
 subst ht hb; exact implAhead l w hl



end Go.Proofs.YtdoghjpjepolbaaGreatDoor

/-! The contracts of chapter 18's landed code: numbersOf, tasksOf, startText. -/
namespace Go.Proofs.YtdoghjpjepolbaaGreatDoor
open Go.RowKit

theorem tasks18_prt (ps : List Pk) : (newV ps).1.1 = (List.range (prtV ps).length).map (task18N ps) := by
 by_cases h0 : (faultV ps).1 = 0
 ·
  rw [show newV ps = ((tasks18 ps, 1, 0, startL 1), true) from if_pos h0, show prtV ps = parts18 ps from (prtV_ok h0).1]
  rfl
 ·
  rw [show newV ps = (dk0, false) from if_neg h0, show prtV ps = [] from if_neg h0]
  rfl
theorem task18_all {ps : List Pk} {i : Nat} (hi : i < (prtV ps).length) : ∃ j, j < ps.length ∧ at8 ps ((prtV ps).getD i []) = (j : Int) ∧ task18N ps i = ((prtV ps).getD i [], nums18 (prtV ps) (ps.getD j pk0).2.1 (prtV ps).length, 0, 0, 0, 0) := by
 by_cases h0 : (faultV ps).1 = 0
 ·
  have hv : prtV ps = parts18 ps := (prtV_ok h0).1
  rw [hv] at hi ⊢
  have C := clean18_of h0
  obtain ⟨j, hj, e, ht⟩ := task18_at C hi
  refine ⟨j, hj, e, ?_⟩
  have hp : pkOf ps ((parts18 ps).getD i []) = ps.getD j pk0 := by unfold pkOf; rw [e, Int.toNat_natCast]
  have := nums18_all C hi
  rw [hp] at this
  rw [ht, this]
 ·
  rw [show prtV ps = [] from if_neg h0] at hi
  simp at hi

set_option maxHeartbeats 2000000 in
set_option maxRecDepth 100000 in
theorem implNumbers (oa : Option Addr) (on oc : Nat) (os : List (List UInt8)) (ia : Option Addr) (il ic : Nat) (ims : List (List UInt8)) (w : World) (h1 : TextsIn w oa on os) (h2 : TextsIn w ia il ims) (hn : on ≤ 1048576) (hm : il ≤ 1048576) :
 Calls Tryz.prog 63 #[.slice oa on oc, .slice ia il ic] w fun e w' => ∃ v, e = .returned v ∧ w'.ownsRow w.heap.size 2 1 v (nums18 os ims on).length (intsV (nums18 os ims on)) ∧ Below w.heap.size w w' := by
 obtain rfl : os.length = on := h1.1
 obtain rfl : ims.length = il := h2.1
 have HO : Hid (∀ Z, Below w.heap.size w Z → TextsIn Z oa os.length os ∧ TextsIn Z ia ims.length ims) := fun Z hz => ⟨h1.below hz, h2.below hz⟩
 have HR0 : Hid ((w.alloc (.cells #[] 2)).ownsRow w.heap.size 2 1 (.slice (some ⟨w.heap.size, 0, none⟩) ([] : List Int).length 0) ([] : List Int).length (intsV [])) := World.ownsRow_lit (base := w.heap.size) (e := 2) (size := 1) w #[] 0 (Nat.le_refl _) (by decide) rfl
 have HB0 : Hid (Below w.heap.size w (w.alloc (.cells #[] 2))) := (Below.refl _ _).alloc (Nat.le_refl _) _
 have HN0 : Hid (nums18 os ims 0 = []) := rfl
 clear h1 h2
 go_enter Tryz.func63, Tryz.ntmps63
 go_wp2
 go_loopw [5, 11] (fun pv iv wr => ∃ (k : Nat) (va : Option Addr) (vc : Nat) (ns : List Int), pv = .slice va ns.length vc ∧ iv = .int .i64 (k : Int) ∧ k ≤ os.length ∧ ns.length ≤ k ∧ Hid (nums18 os ims k = ns) ∧ Hid (wr.ownsRow w.heap.size 2 1 (.slice va ns.length vc) ns.length (intsV ns)) ∧ Hid (Below w.heap.size w wr)) (fun _ iv _ => os.length - (intOf iv).toNat)
 case atStart => exact ⟨0, _, 0, [], rfl, rfl, by omega, by simp, HN0, HR0, HB0⟩
 case round =>
  obtain ⟨k, va, vc, ns, rfl, rfl, hk, hnk, HNs, HR, HB⟩ := hrel
  clear HR0 HB0 HN0
  by_cases hlt : (k : Int) < (os.length : Int)
  ·
   have hk2 : k < os.length := by omega
   obtain ⟨hto, hti⟩ := HO.out wr HB.out
   obtain ⟨b, off, rfl, _, d0⟩ := hto.2 k hk2
   obtain ⟨y, hy⟩ : ∃ y, os.getD k [] = y := ⟨_, rfl⟩
   rw [hy] at d0
   have hH := containsStr ia ims.length ic ims y wr hti (by omega)
   clear hto hti
   by_cases hin : y ∈ ims
   ·
    have HNy : Hid (nums18 os ims (k + 1) = ns ++ [(k : Int)]) := by exact (by rw [nums18_yes (by rw [hy]; exact hin), HNs.out] : nums18 os ims (k + 1) = ns ++ [(k : Int)])
    rw [decide_eq_true hin] at hH
    have HH : Hid (_) := hH
    have hlen : (ns ++ [(k : Int)]).length = ns.length + 1 := by simp
    obtain ⟨v', Y, hr, ho, hg⟩ := push_num18 (k : Int) HR.out HB.out.size (by omega)
    obtain ⟨va', vc', rfl⟩ := own_slice18 ho
    have HRY : Hid (Y.ownsRow w.heap.size 2 1 (.slice va' (ns ++ [(k : Int)]).length vc') (ns ++ [(k : Int)]).length (intsV (ns ++ [(k : Int)]))) := by exact (by rw [hlen]; exact ho : Y.ownsRow w.heap.size 2 1 (.slice va' (ns ++ [(k : Int)]).length vc') (ns ++ [(k : Int)]).length (intsV (ns ++ [(k : Int)])))
    have HBY : Hid (Below w.heap.size w Y) := HB.out.grown hg HB.out.size (fun q e => (HR.out.lt q e).1)
    clear hH hin hy ho hg
    go_wp2_with (first | (go_at_call 89; refine Calls.mono HH.out ?_; rintro e w1 ⟨rfl, hw1⟩; obtain rfl := hw1.symm) | (at_builtin; refine wpList_append_run rfl _ _ 68 rfl _ _ _ rfl rfl hr ?_; clear hr))
    go_roundw
    case rel => exact ⟨k + 1, va', vc', ns ++ [(k : Int)], by rw [hlen], by go_num, by omega, by rw [hlen]; omega, HNy, HRY, HBY⟩
    case measure => simp [intOf]; omega
   ·
    have HNy : Hid (nums18 os ims (k + 1) = ns) := by exact (by rw [nums18_no (by rw [hy]; exact hin), HNs.out] : nums18 os ims (k + 1) = ns)
    rw [decide_eq_false hin] at hH
    have HH : Hid (_) := hH
    clear hH hin hy
    go_wp2_with (go_at_call 89; refine Calls.mono HH.out ?_; rintro e w1 ⟨rfl, hw1⟩; obtain rfl := hw1.symm)
    go_roundw
    case rel => exact ⟨k + 1, va, vc, ns, rfl, by go_num, by omega, by omega, HNy, HR, HB⟩
    case measure => simp [intOf]; omega
  ·
   have HE : Hid (nums18 os ims os.length = ns) := by exact (by rw [show os.length = k by omega]; exact HNs.out : nums18 os ims os.length = ns)
   go_wp2
   go_ret
   rw [HE.out]
   exact ⟨_, rfl, HR.out, HB.out⟩

set_option maxHeartbeats 4000000 in
set_option maxRecDepth 100000 in
theorem implTasksOf (a : Option Addr) (len cap : Nat) (ps : List Pk) (er : Nat → Addr) (w : World) (hE : Err8 w er) (h : PkgsOk w a len cap ps) :
 Calls Tryz.prog 31 #[.slice a len cap] w fun e w' => ∃ v xs, e = .returned v ∧ xs.map (·.1) = (newV ps).1.1 ∧ TksOwn w' w.heap.size v xs ∧ ApartR (xs.map tvT) ∧ Below w.heap.size w w' := by
 obtain rfl : ps.length = len := h.hlen
 have hlen := h.small
 have hsh := h.short
 have HTs : Hid (_) := tasks18_prt ps
 have hpl := prtV_len ps
 have HTk : Hid (∀ i, i < (prtV ps).length → _) := fun i hi => task18_all hi
 have HSh : Hid (∀ j, (ps.getD j pk0).2.1.length ≤ 1048576) := fun j => (hsh j).2.1
 have HA8 : Hid (∀ W y, PkgsIn W a ps.length ps → _) := fun W y hW => implPlacePk a ps.length cap ps y W hW hlen
 obtain ⟨D, hD⟩ : ∃ D, w.heap.size = D := ⟨_, rfl⟩
 obtain ⟨W1, hW1⟩ : ∃ W, w.alloc (.cells #[] 70) = W := ⟨_, rfl⟩
 have hs1 : W1.heap.size = D + 1 := by rw [← hW1, ← hD]; simp
 have hb1 : Below D w W1 := by rw [← hW1, ← hD]; exact (Below.refl _ _).alloc (Nat.le_refl _) _
 have hO1 : TksOwn W1 D (.slice (some ⟨D, 0, none⟩) 0 0) [] := by
  rw [← hW1, ← hD]
  exact ⟨World.ownsRow_lit (base := w.heap.size) (e := 70) (size := 6) w #[] 0 (Nat.le_refl _) (by decide) rfl, fun x hx => by cases hx⟩
 have HPr : Hid (_) := implPrt a ps.length cap ps er W1 (hE.below (by rw [hD]; exact hb1)) (h.below (by rw [hD]; exact hb1))
 have HI : Hid (∀ Z, Below D w Z → PkgsIn Z a ps.length ps) := fun Z hz => (h.below (by rw [hD]; exact hz)).in
 generalize (newV ps).1.1 = R at HTs ⊢
 generalize task18N ps = T at HTk HTs
 generalize prtV ps = os at HPr HTk HTs hpl
 have HO1 : Hid (TksOwn W1 D (.slice (some ⟨D, 0, none⟩) 0 0) []) := hO1
 have HB1 : Hid (Below D w W1) := hb1
 have HX0 : Hid (([] : List TV).map (·.1) = (List.range 0).map T) := rfl
 have hpi : (ps.length : Int) ≤ 1048576 := by omega
 clear h hE hsh hlen hO1 hb1
 go_enter Tryz.func31, Tryz.ntmps31
 go_wp2_with fail
 refine Calls.mono HPr.out ?_
 rintro e w2 ⟨vn, rfl, ho, hb2⟩
 obtain ⟨_, na, nc, rfl, _⟩ := own_texts ho
 have HN2 : Hid (w2.ownsRow D 9 1 (.slice na os.length nc) os.length (strV os)) := own_base ho (by omega)
 have HO2 : Hid (TksOwn w2 D (.slice (some ⟨D, 0, none⟩) 0 0) []) := HO1.out.below hb2
 have HB2 : Hid (Below D w w2) := HB1.out.trans (hb2.mono (by omega))
 clear ho hb2 HPr HO1 HB1
 go_wp2
 go_loopw [3, 13] (fun tv iv wr => ∃ (i : Nat) (xs : List TV) (ta : Option Addr) (tc : Nat), tv = .slice ta i tc ∧ iv = .int .i64 (i : Int) ∧ i ≤ os.length ∧ xs.length = i ∧ Hid (xs.map (·.1) = (List.range i).map T) ∧ Hid (TksOwn wr D (.slice ta i tc) xs) ∧ Hid (ApartR (xs.map tvT)) ∧ Hid (wr.ownsRow D 9 1 (.slice na os.length nc) os.length (strV os)) ∧ Hid (Below D w wr)) (fun _ iv _ => os.length - (intOf iv).toNat)
 case atStart => exact ⟨0, [], _, 0, rfl, rfl, by omega, rfl, HX0, HO2, ApartR.nil, HN2, HB2⟩
 case round =>
  obtain ⟨i, xs, ta, tc, rfl, rfl, hi, hxl, HX, HO, HAp, HN, HB⟩ := hrel
  obtain ⟨X0, hX0⟩ : ∃ X0, X0 = wr := ⟨_, rfl⟩
  subst hX0
  clear HO2 HN2 HB2 HX0
  by_cases hlt : (i : Int) < (os.length : Int)
  ·
   have hi2 : i < os.length := by omega
   have hsX : D ≤ X0.heap.size := by rw [← hD]; exact HB.out.size
   obtain ⟨_, na', nc', e0, hNin⟩ := own_texts HN.out
   injection e0 with e1 _ e3
   subst e1
   subst e3
   obtain ⟨nb, no, rfl, hnl, d0⟩ := hNin.2 i hi2
   obtain ⟨j, hj, e8, hTi⟩ := HTk.out i hi2
   obtain ⟨x, hx⟩ : ∃ x, os.getD i [] = x := ⟨_, rfl⟩
   rw [hx] at d0 e8 hTi
   have HAs : Hid (_) := HA8.out X0 x (HI.out X0 HB.out)
   rw [e8] at HAs
   have hsj := HSh.out j
   have hji : (j : Int) < (ps.length : Int) := by omega
   clear e8 hx hNin
   go_wp2_with fail
   refine Calls.mono HAs.out ?_
   rintro e w3 ⟨rfl, hb3⟩
   have hB3 : Below D w w3 := HB.out.trans (hb3.mono hsX)
   have HB3 : Hid (Below D w w3) := hB3
   have hN3 := own_below HN.out hb3
   have HN3 : Hid (w3.ownsRow D 9 1 (.slice (some ⟨nb, no, none⟩) os.length nc) os.length (strV os)) := hN3
   have HO3 : Hid (TksOwn w3 D (.slice ta i tc) xs) := HO.out.below hb3
   have HTl : Hid (∀ z ∈ xs, ∀ g, (tvT z).ownBlock = some g → g < w3.heap.size) := fun z hz g e => Nat.lt_of_lt_of_le ((HO.out.trees z hz).lt g e).2 hb3.size
   obtain ⟨b, off, rfl, hbl, _, ia, il, ic, fa, fl, fc, r1, _, hii, _⟩ := (HI.out w3 hB3).2 j hj
   obtain ⟨_, na', nc', e0, hNin⟩ := own_texts hN3
   injection e0 with e1 _ e3
   subst e1
   subst e3
   obtain ⟨ims, hp⟩ : ∃ p, (ps.getD j pk0).2.1 = p := ⟨_, rfl⟩
   rw [hp] at hii hTi hsj
   obtain rfl : ims.length = il := hii.1
   have HNm : Hid (_) := implNumbers (some ⟨nb, no, none⟩) os.length nc os ia ims.length ic ims w3 hNin hii (by omega) hsj
   have hnn := nums18_len os ims os.length
   have HTi : Hid (_) := hTi
   generalize nums18 os ims os.length = ns at HNm HTi hnn
   have hs3 : D ≤ w3.heap.size := by have := hb3.size; omega
   clear hb3 hB3 hN3 hii hNin hTi hp HAs HN HO
   go_wp2_with fail
   refine Calls.mono HNm.out ?_
   rintro e w4 ⟨v4, rfl, ho4, hb4⟩
   obtain ⟨va, vc, rfl⟩ := own_slice18 ho4
   have hs4 : D ≤ w4.heap.size := by have := hb4.size; omega
   have hN4 := own_below HN3.out hb4
   obtain ⟨v', Y, hr, ho, hg⟩ := push_tk (HO3.out.below hb4) ((x, ns, 0, 0, 0, 0), va, vc) (own_base ho4 (by omega)) hs4 (by omega)
   have HN5 : Hid (Y.ownsRow D 9 1 (.slice (some ⟨nb, no, none⟩) os.length nc) os.length (strV os)) := hN4.kept hg (own_typesR hN4 (HO3.out.below hb4).row (by decide))
   obtain ⟨ta', tc', rfl⟩ := own_slice18 ho.row
   have hlen : (xs ++ [(((x, ns, 0, 0, 0, 0), va, vc) : TV)]).length = i + 1 := by simp [hxl]
   have HX2 : Hid ((xs ++ [(((x, ns, 0, 0, 0, 0), va, vc) : TV)]).map (·.1) = (List.range (i + 1)).map T) := by exact (by rw [List.map_append, HX.out, List.range_succ, List.map_append, List.map_cons, List.map_nil, List.map_cons, List.map_nil, HTi.out] : (xs ++ [(((x, ns, 0, 0, 0, 0), va, vc) : TV)]).map (·.1) = (List.range (i + 1)).map T)
   have HA2 : Hid (ApartR ((xs ++ [(((x, ns, 0, 0, 0, 0), va, vc) : TV)]).map tvT)) := by exact (by
    rw [List.map_append]
    refine HAp.out.snoc (fun v hv => ?_)
    obtain ⟨z, hz, rfl⟩ := List.mem_map.1 hv
    rcases hvb : (tvT z).ownBlock with _ | g
    ·
     exact Or.inl rfl
    ·
     refine Or.inr (fun e => ?_)
     have h1 := HTl.out z hz g hvb
     have h2 := (ho4.lt g e.symm).1
     omega : ApartR ((xs ++ [(((x, ns, 0, 0, 0, 0), va, vc) : TV)]).map tvT))
   have HB5 : Hid (Below D w Y) := (HB3.out.trans (hb4.mono hs3)).grown hg hs4 (fun q e => ((HO3.out.below hb4).row.lt q e).1)
   rw [hlen] at hr ho
   have HO5 : Hid (TksOwn Y D (.slice ta' (i + 1) tc') (xs ++ [(((x, ns, 0, 0, 0, 0), va, vc) : TV)])) := ho
   simp only [tvT] at hr
   clear ho hg hs4 hN4 hb4 ho4 HTl HO3 HN3 HB3 HNm
   go_wp2_with (at_builtin; refine wpList_append_run rfl _ _ 24 rfl _ _ _ rfl rfl hr ?_; clear hr)
   go_roundw
   case rel => exact ⟨i + 1, _, ta', tc', rfl, by go_num, by omega, hlen, HX2, HO5, HA2, HN5, HB5⟩
   case measure => simp [intOf]; omega
  ·
   have HE : Hid (xs.map (·.1) = R) := by exact (by rw [HTs.out, HX.out, show i = os.length by omega] : xs.map (·.1) = R)
   go_wp2
   go_ret
   exact ⟨_, rfl, xs, HE.out, HO.out, HAp.out, HB.out⟩

set_option maxHeartbeats 1000000 in
set_option maxRecDepth 100000 in
theorem implStartText (n : Int) (w : World) (ht : PowIs w) (h0 : -9223372036854775808 ≤ n) (h1 : n ≤ 9223372036854775807) :
 Calls Tryz.prog 66 #[.int .i64 n] w fun e w' => e = .returned (.string ⟨(startT n).toArray⟩) ∧ Below w.heap.size w w' := by
 have HF1 : Hid (Calls Tryz.prog 93 #[.int .i64 n, .int .i64 10] w fun e w' => e = .returned (.string ⟨(intL n).toArray⟩) ∧ Below w.heap.size w w') := by
  refine (Tryz.strconv_FormatInt_10 n (by omega) (by omega) w ht).mono ?_
  rintro e w' ⟨rfl, k, os, rfl⟩
  exact ⟨by rw [itoa_int], Lib.below_grow _ w (Nat.le_refl _) k os⟩
 have HT : Hid (startT n = 115 :: 116 :: 97 :: 114 :: 116 :: 32 :: intL n) := rfl
 have hcat := cat_list
 have hi := intL_len18 h0 h1
 have hd6 : (⟨#[115, 116, 97, 114, 116, 32]⟩ : ByteArray) = ⟨([115, 116, 97, 114, 116, 32] : List UInt8).toArray⟩ := rfl
 rw [HT.out]
 clear ht HT
 go_enter Tryz.func66, Tryz.ntmps66
 go_wp2_with fail
 refine Calls.mono HF1.out ?_
 rintro e w1 ⟨rfl, hb1⟩
 have HB1 : Hid (Below w.heap.size w w1) := hb1
 clear hb1
 go_wp2
 go_ret
 exact ⟨rfl, HB1.out⟩

end Go.Proofs.YtdoghjpjepolbaaGreatDoor
