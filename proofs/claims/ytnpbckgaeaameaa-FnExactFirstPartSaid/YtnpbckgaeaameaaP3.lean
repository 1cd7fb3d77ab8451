/-
  Parts of one proof, one behind the other: Own, HexOf, WordS, TextS, TextS2, TextS3, Turned, TextS4, TextS5, TreeS.
-/
import Derived.Test.YtnpbckgaeaameaaP2
import Derived.Test.YtnpbckgaeaameaaRows
import Derived.WalkKit
import Derived.WalkLawsBesides
import Derived.Laws.OwnMore
import Derived.Laws.IdiomStrings
import Derived.Maps.AppendAt
import Derived.OpenShut
import Derived.Handy
import Derived.Test.YtnpbckgaeaameaaP1
import Derived.Laws.Concat

/-! Facts that every chapter leans on: rows that a call owns, lists of texts, the walk's own spellings. -/
namespace Go.Proofs.Ytnpbckgaeaameaa
open Go.RowKit

def strV (ls : List (List UInt8)) : List Value := ls.map (fun l => Value.string ⟨l.toArray⟩)

theorem strV_snoc (o : List (List UInt8)) (t : List UInt8) : strV o ++ [.string ⟨t.toArray⟩] = strV (o ++ [t]) := by simp [strV]

theorem strV_len (o : List (List UInt8)) : (strV o).length = o.length := by simp [strV]

theorem strV_at (ls : List (List UInt8)) (j : Nat) (h : j < ls.length) : (strV ls)[j]? = some (.string ⟨ls[j].toArray⟩) := by
  simp [strV, List.getElem?_eq_getElem h]

theorem strV_take (ls : List (List UInt8)) (m : Nat) : (strV ls).take m = strV (ls.take m) := by simp [strV, List.map_take]

theorem info9 : (Try.prog.info? 9).map (fun i => (i.zero, i.size, i.bytes)) = some (some (.string ⟨#[]⟩), 1, 16) := by kernel_rfl

theorem own_str {w1 : World} {B : Nat} {v' : Value} {o : List (List UInt8)} {t : List UInt8} (hown' : w1.ownsRow B 9 1 v' (o.length + 1) (strV o ++ [.string ⟨t.toArray⟩])) :
    w1.ownsRow B 9 1 v' (o ++ [t]).length (strV (o ++ [t])) := by
  rw [← strV_snoc, List.length_append, List.length_singleton]
  exact hown'

theorem own_shape {w : World} {base e size n : Nat} {v : Value} {xs : List Value} (h : w.ownsRow base e size v n xs) (hv : v ≠ .slice none 0 0) : ∃ g cp, v = .slice (some ⟨g, 0, none⟩) n cp := by
  obtain ⟨_, ⟨e, _⟩ | ⟨g, cap, cur, rfl, _⟩⟩ := h
  · exact absurd e hv
  · exact ⟨g, cap, rfl⟩

theorem own_none {w w' : World} {base e size n : Nat} {v : Value} {xs : List Value} (h : w.ownsRow base e size v n xs) (hg : w.grownBy w' none) : w'.ownsRow base e size v n xs := by
  refine h.kept hg ?_
  rcases hv : v.ownBlock with _ | g
  · exact Or.inl rfl
  · exact Or.inr (by simp)

theorem own_below {w w' : World} {base e size n : Nat} {v : Value} {xs : List Value} (h : w.ownsRow base e size v n xs) (hb : Below w.heap.size w w') : w'.ownsRow base e size v n xs :=
  own_none h ⟨hb.os, hb.tape, hb.output, hb.size, fun k hk _ => hb.block k hk⟩

/-- A row below block B stays as it is where a row from B on is written. -/
theorem own_apart {w w' : World} {b1 B e1 s1 n1 e2 s2 n2 : Nat} {v1 v2 : Value} {xs ys : List Value} (h1 : w.ownsRow b1 e1 s1 v1 n1 xs) (hlt : ∀ k, v1.ownBlock = some k → k < B) (h2 : w.ownsRow B e2 s2 v2 n2 ys) (hg : w.grownBy w' v2.ownBlock) : w'.ownsRow b1 e1 s1 v1 n1 xs := by
  refine h1.kept hg ?_
  rcases hv : v1.ownBlock with _ | g
  · exact Or.inl rfl
  · refine Or.inr fun e => ?_
    have a := hlt g hv
    have b := (h2.lt g e.symm).1
    omega

theorem own_other {w w' : World} {B base e size n : Nat} {v : Value} {xs : List Value} (h : w.ownsRow base e size v n xs) (hB : B < base) (hg : w.grownBy w' (some B)) : w'.ownsRow base e size v n xs := by
  refine h.kept hg ?_
  rcases hv : v.ownBlock with _ | g
  · exact Or.inl rfl
  · refine Or.inr fun e => ?_
    have := (h.lt g hv).1
    injection e with e
    omega

theorem own_forms {w : World} {base e size n : Nat} {v : Value} {xs : List Value} (h : w.ownsRow base e size v n xs) : (v = .slice none 0 0 ∧ n = 0 ∧ xs = []) ∨ ∃ g cp, v = .slice (some ⟨g, 0, none⟩) n cp := by
  have h0 := h.1
  obtain ⟨_, ⟨e, hn⟩ | ⟨g, cap, cur, rfl, _⟩⟩ := h
  · refine Or.inl ⟨e, hn, List.eq_nil_of_length_eq_zero ?_⟩
    rw [h0, hn, Nat.zero_mul]
  · exact Or.inr ⟨g, cap, rfl⟩

theorem own_cap {w : World} {base e g n cp : Nat} {xs : List Value} (h : w.ownsRow base e 1 (.slice (some ⟨g, 0, none⟩) n cp) n xs) : n ≤ cp ∧ cp ≤ maxLen := by
  rcases h.2 with ⟨h', _⟩ | ⟨g', cap', cur, h', hb, hg, hnc, hcm, hcs, htake⟩
  · simp at h'
  · simp only [Value.slice.injEq, Option.some.injEq, Addr.mk.injEq, and_true, true_and] at h'
    obtain ⟨rfl, rfl⟩ := h'
    exact ⟨hnc, hcm⟩

theorem own_some {w : World} {base e size n : Nat} {v : Value} {xs : List Value} (h : w.ownsRow base e size v n xs) (hn : n ≠ 0) : ∃ g cp, v = .slice (some ⟨g, 0, none⟩) n cp := by
  rcases own_forms h with ⟨_, h0, _⟩ | h1
  · exact absurd h0 hn
  · exact h1

/-- A row cut at its end. -/
theorem own_take {w : World} {base e g n cp : Nat} {xs : List Value} (h : w.ownsRow base e 1 (.slice (some ⟨g, 0, none⟩) n cp) n xs) (m : Nat) (hm : m ≤ n) : w.ownsRow base e 1 (.slice (some ⟨g, 0, none⟩) m cp) m (xs.take m) := by
  have h0 := h.1
  rcases h.2 with ⟨h', _⟩ | ⟨g', cap', cur, h', hb, hg, hnc, hcm, hcs, htake⟩
  · simp at h'
  · simp only [Value.slice.injEq, Option.some.injEq, Addr.mk.injEq, and_true, true_and] at h'
    obtain ⟨rfl, rfl⟩ := h'
    refine ⟨by rw [List.length_take]; omega, .inr ⟨g, cp, cur, rfl, hb, hg, by omega, hcm, hcs, ?_⟩⟩
    rw [← htake, List.take_take]
    congr 1
    omega

/-- A row of texts, as a walk reads it. -/
theorem str_cells {w : World} {base g cp : Nat} {ls : List (List UInt8)} (h : w.ownsRow base 9 1 (.slice (some ⟨g, 0, none⟩) ls.length cp) ls.length (strV ls)) (j : Nat) (hj : j < ls.length) :
    w.cell? ⟨g, j, none⟩ = some (.string ⟨ls[j].toArray⟩) := by
  rw [h.cellAt j (by omega), strV_at ls j hj]

theorem str_cellsD {w : World} {base g cp n : Nat} {ls : List (List UInt8)} (h : w.ownsRow base 9 1 (.slice (some ⟨g, 0, none⟩) n cp) n (strV ls)) (hn : ls.length = n) (j : Nat) (hj : j < n) :
    w.cell? ⟨g, j, none⟩ = some (.string ⟨(ls.getD j []).toArray⟩) := by
  rw [h.cellAt j (by omega), strV_at ls j (by omega), List.getD_eq_getElem?_getD, List.getElem?_eq_getElem (by omega)]; rfl

theorem cat_list (a b : List UInt8) : (⟨a.toArray⟩ ++ ⟨b.toArray⟩ : ByteArray) = ⟨(a ++ b).toArray⟩ := ba_ext (by simp)

theorem ext_list (l : List UInt8) (i j : Nat) : (⟨l.toArray⟩ : ByteArray).extract i j = ⟨((l.drop i).take (j - i)).toArray⟩ := by
  apply ba_ext
  rw [ByteArray.data_extract, Array.toList_extract, List.extract_eq_take_drop]

theorem ret_sib {a b : List UInt8} {m n : Int} {c d : Bool} (h : a = b) (k : m = n) (j : c = d) : Ending.returned (.tuple #[.string ⟨a.toArray⟩, .int .i64 m, .bool c]) = .returned (.tuple #[.string ⟨b.toArray⟩, .int .i64 n, .bool d]) := by rw [h, k, j]

theorem ret_sb {a b : List UInt8} {c d : Bool} (h : a = b) (j : c = d) : Ending.returned (.tuple #[.string ⟨a.toArray⟩, .bool c]) = .returned (.tuple #[.string ⟨b.toArray⟩, .bool d]) := by rw [h, j]

theorem ret_strl {a b : List UInt8} (h : a = b) : Ending.returned (.string ⟨a.toArray⟩) = .returned (.string ⟨b.toArray⟩) := by rw [h]

theorem Below.by {w w' : World} (h : Below w.heap.size w w') : w.grownBy w' none := ⟨h.os, h.tape, h.output, h.size, fun k hk _ => h.block k hk⟩

theorem own_base {w : World} {base b2 e size n : Nat} {v : Value} {xs : List Value} (h : w.ownsRow base e size v n xs) (hb : b2 ≤ base) : w.ownsRow b2 e size v n xs := by
  refine ⟨h.1, ?_⟩
  rcases h.2 with h' | ⟨g, cap, cur, hv, hg, r⟩
  · exact Or.inl h'
  · exact Or.inr ⟨g, cap, cur, hv, Nat.le_trans hb hg, r⟩

theorem grown_set (w : World) (B o : Nat) (v : Value) : w.grownBy (w.setCell ⟨B, o, none⟩ v) (some B) :=
  ⟨rfl, rfl, rfl, by simp, fun k _ hne => Below.heap_setCell w _ v k (fun e => hne (by rw [e]))⟩

/-- The values news lie at x, in m elements: what 'append' reads, whosever it is. -/
def Src (w : World) (x : Value) (m size : Nat) (news : List Value) : Prop :=
  news.length = m * size ∧ (∀ u ∈ news, u.oneCell' = true) ∧ ((x = .slice none 0 0 ∧ m = 0) ∨ ∃ ad c, x = .slice (some ad) m c ∧ ∀ j u, news[j]? = some u → w.cell? (ad.add j) = some u)

theorem run_append_src {P : Program} (w : World) (base : Nat) (t ty e : TypeId) (i : TypeInfo) (z : Value) (size bytes : Nat) (ht : P.underlying t = some (.slice e)) (hi : P.info? e = some i) (hz : i.zero = some z)
    (hsize : i.size = size) (hby : i.bytes = bytes) (hzs : z.cells.size = size) (hsz : 0 < size)
    (v : Value) (n : Nat) (xs : List Value) (hown : w.ownsRow base e size v n xs) (x : Value) (m : Nat) (news : List Value) (hsrc : Src w x m size news)
    (h63 : n + m ≤ maxLen) (hbytes : (n + m) * bytes ≤ 140737488355328) (hbase : base ≤ w.heap.size) :
    ∃ v' w', (Builtin.append_ #[t, t] ty #[v, x]).run P w = .ok v' w' ∧ w'.ownsRow base e size v' (n + m) (xs ++ news) ∧ w.grownBy w' v.ownBlock ∧ (v' = .slice none 0 0 → v = .slice none 0 0) := by
  obtain ⟨hl, h1, ⟨rfl, rfl⟩ | ⟨ad, c, rfl, hc⟩⟩ := hsrc
  · have hn : news = [] := List.eq_nil_of_length_eq_zero (by omega)
    subst hn
    exact ⟨v, w, run_append_owned_none (P := P) (w := w) base t ty e i size ht hi v n xs hown, by simpa using hown, World.grownBy.refl w _, fun h => h⟩
  · obtain ⟨v', w', hr, h2, h3, h4⟩ := run_append_own (P := P) w base t ty e i z size bytes ht hi hz hsize hby hzs hsz v n xs hown ad m c news hl hc h1 h63 hbytes hbase
    exact ⟨v', w', hr, h2, h3, fun h => (h4.1 h).1⟩

/-- 'append' at a step of a region that draws. -/
theorem step_append_run {P : Program} {w w' : World} {ops : Array Oper} {o : Oper} {a : Act} {K : Act → World → Prop} {Q : Exit → Act → World → Prop} {E : Prop} (hgd : o.guard = none) (s x : Operand) (t : TypeId)
    (ho : o.op = .call { callee := .builtin .append, args := #[s, x], argTypes := #[t, t] }) (v u v' : Value) (hs : a.eval s = v) (hx : a.eval x = u)
    (hrun : (Builtin.append_ #[t, t] o.type #[v, u]).run P w = .ok v' w') (h : K (a.put o.dst v') w') :
    if Region.wanted o (yielded ops a.tmps) = true then Oper.wp P o a w K Q else E := by
  have hw : Region.wanted o (yielded ops a.tmps) = true := by simp [Region.wanted, hgd]
  rw [if_pos hw]
  unfold Oper.wp
  simp [execOp, ho, resolve, invoke, builtin, hs, hx, hrun, Result.andThen]
  exact h

/-- 'append' in a plain region. -/
theorem wpList_append_run {P : Program} {w w' : World} {ops : Array Oper} {rest : List Oper} {o : Oper} {a : Act} {Q : Exit → Act → World → Prop} (hgd : o.guard = none) (s x : Operand) (t : TypeId)
    (ho : o.op = .call { callee := .builtin .append, args := #[s, x], argTypes := #[t, t] }) (v u v' : Value) (hs : a.eval s = v) (hx : a.eval x = u)
    (hrun : (Builtin.append_ #[t, t] o.type #[v, u]).run P w = .ok v' w') (h : wpList P ops Q rest (a.put o.dst v') w') : wpList P ops Q (o :: rest) a w := by
  refine wpList_plain hgd fun K hK => ?_
  unfold Oper.wp
  simp [execOp, ho, resolve, invoke, builtin, hs, hx, hrun, Result.andThen]
  exact hK _ _ h

end Go.Proofs.Ytnpbckgaeaameaa

/-! The contracts of spec.HexOf and impl.HexOf. -/
namespace Go.Proofs.Ytnpbckgaeaameaa
open Go.RowKit

theorem back8 (b0 b1 b2 b3 b4 b5 b6 b7 : UInt8) (w : World) :
    (convert 22 9 (.slice (some ⟨w.heap.size, 0, none⟩) 8 8)).run Try.prog (w.alloc (.cells #[.int .u8 b0.toNat, .int .u8 b1.toNat, .int .u8 b2.toNat, .int .u8 b3.toNat, .int .u8 b4.toNat, .int .u8 b5.toNat, .int .u8 b6.toNat, .int .u8 b7.toNat] 5)) =
      .ok (.string ⟨#[b0, b1, b2, b3, b4, b5, b6, b7]⟩) (w.alloc (.cells #[.int .u8 b0.toNat, .int .u8 b1.toNat, .int .u8 b2.toNat, .int .u8 b3.toNat, .int .u8 b4.toNat, .int .u8 b5.toNat, .int .u8 b6.toNat, .int .u8 b7.toNat] 5)) := by
  have h := run_convert_bytes_back (P := Try.prog) (w.alloc (.cells #[.int .u8 b0.toNat, .int .u8 b1.toNat, .int .u8 b2.toNat, .int .u8 b3.toNat, .int .u8 b4.toNat, .int .u8 b5.toNat, .int .u8 b6.toNat, .int .u8 b7.toNat] 5)) 22 9 5 ⟨w.heap.size, 0, none⟩ 8 [b0, b1, b2, b3, b4, b5, b6, b7] Try.underlying22 Try.underlying5 Try.underlying9 (by
    intro j hj
    have hj' : j < 8 := by simpa using hj
    match j, hj' with
    | 0, _ => simp [Addr.add, go_sem]
    | 1, _ => simp [Addr.add, go_sem]
    | 2, _ => simp [Addr.add, go_sem]
    | 3, _ => simp [Addr.add, go_sem]
    | 4, _ => simp [Addr.add, go_sem]
    | 5, _ => simp [Addr.add, go_sem]
    | 6, _ => simp [Addr.add, go_sem]
    | 7, _ => simp [Addr.add, go_sem])
  exact h



set_option maxHeartbeats 400000 in
set_option maxRecDepth 100000 in
theorem specIn (x lo hi : Int) (w : World) :
    Calls Try.prog 42 #[.int .i64 x, .int .i64 lo, .int .i64 hi] w fun e w' => e = .returned (.bool (inB x lo hi)) ∧ w' = w := by
  by_cases h1 : lo ≤ x
  · by_cases h2 : x ≤ hi
    · have hB : Hid (inB x lo hi = true) := inB_yes x lo hi h1 h2
      go_enter Try.func42, Try.ntmps42
      go_wp2
      go_ret
      exact ⟨by rw [hB.out]; rfl, rfl⟩
    · have hB : Hid (inB x lo hi = false) := inB_no x lo hi (Or.inr (by omega))
      go_enter Try.func42, Try.ntmps42
      go_wp2
      go_ret
      exact ⟨by rw [hB.out]; rfl, rfl⟩
  · have hB : Hid (inB x lo hi = false) := inB_no x lo hi (Or.inl (by omega))
    go_enter Try.func42, Try.ntmps42
    go_wp2
    go_ret
    exact ⟨by rw [hB.out]; rfl, rfl⟩



end Go.Proofs.Ytnpbckgaeaameaa

/-! The contracts of chapter 4's specification: WordOk, Wrap, Done. -/
namespace Go.Proofs.Ytnpbckgaeaameaa
open Go.RowKit

set_option maxHeartbeats 400000 in
set_option maxRecDepth 100000 in
theorem specWordOk (n : Int) (w : World) : Calls Try.prog 52 #[.int .i64 n] w fun e w' => e = .returned (.bool (inB n (-2147483648) 2147483647)) ∧ w' = w := by
  go_enter Try.func52, Try.ntmps52
  go_wp2_with (go_at_call 42; refine (specIn _ _ _ _).mono ?_; rintro e w' ⟨rfl, rfl⟩)
  go_ret
  exact ⟨rfl, rfl⟩


theorem ret_ib {m n : Int} {c d : Bool} (h : m = n) (j : c = d) : Ending.returned (.tuple #[.int .i64 m, .bool c]) = .returned (.tuple #[.int .i64 n, .bool d]) := by rw [h, j]



end Go.Proofs.Ytnpbckgaeaameaa

/-! The contracts of chapter 5's specification: pieces, Lines, Words, NameOk. -/
namespace Go.Proofs.Ytnpbckgaeaameaa
open Go.RowKit

set_option maxHeartbeats 2000000 in
set_option maxRecDepth 100000 in
theorem specSplit (l : List UInt8) (b : UInt8) (c : Int) (w : World) (hc : c = (b.toNat : Int)) (hl : l.length ≤ 1048576) :
    Calls Try.prog 73 #[.string ⟨l.toArray⟩, .int .u8 c] w fun e w' => ∃ g cp, e = .returned (.slice (some ⟨g, 0, none⟩) (splitL b l).length cp) ∧ w'.ownsRow w.heap.size 9 1 (.slice (some ⟨g, 0, none⟩) (splitL b l).length cp) (splitL b l).length (strV (splitL b l)) ∧ Below w.heap.size w w' := by
  obtain ⟨i0, hi, hz0, hz1, hz2⟩ := info_parts info9
  have hext := ext_list
  have hown0 := (World.ownsRow_lit (base := w.heap.size) (e := 9) (size := 1) w #[] 0 (Nat.le_refl _) (by decide) rfl)
  have HC : Hid (c = (b.toNat : Int)) := hc
  clear hc
  go_enter Try.func73, Try.ntmps73
  go_wp2
  go_loopw [5, 6, 7] (fun v fr ix wr => ∃ (o : List (List UInt8)) (f i g cp : Nat), v = .slice (some ⟨g, 0, none⟩) o.length cp ∧ fr = .int .i64 f ∧ ix = .int .i64 i ∧ o.length ≤ i ∧ i ≤ l.length + 1 ∧ Hid ((i ≤ l.length ∧ f ≤ i ∧ o ++ splitGo b ((l.drop f).take (i - f)) (l.drop i) = splitL b l) ∨ (i = l.length + 1 ∧ o = splitL b l)) ∧ wr.ownsRow w.heap.size 9 1 v o.length (strV o) ∧ Below w.heap.size w wr) (fun _ _ ix _ => l.length + 1 - (intOf ix).toNat)
  case atStart => exact ⟨[], 0, 0, w.heap.size, 0, rfl, rfl, rfl, by simp, by omega, (Or.inl ⟨by omega, by omega, by simp [splitL]⟩ : _ ∨ _), hown0, (Below.refl _ _).alloc (Nat.le_refl _) _⟩
  case round =>
    obtain ⟨o, f, i, g, cp, rfl, rfl, rfl, hoi, hil, HG, hown, hb⟩ := hrel
    clear hown0
    by_cases hlt : (i : Int) ≤ (l.length : Int)
    · obtain ⟨_, hfi, hg⟩ : i ≤ l.length ∧ f ≤ i ∧ o ++ splitGo b ((l.drop f).take (i - f)) (l.drop i) = splitL b l := by
        rcases HG.out with h | h
        · exact h
        · omega
      have HE : Hid (o ++ splitGo b ((l.drop f).take (i - f)) (l.drop i) = splitL b l) := hg
      clear hg HG
      have hfi1 : (f : Int) ≤ (i : Int) := by omega
      have hf0 : (0 : Int) ≤ (f : Int) := by omega
      by_cases hend : i = l.length
      · subst hend
        have HF : Hid (o ++ [(l.drop f).take (l.length - f)] = splitL b l) := split_end b l o _ HE.out
        have htk : List.take (l.length - f) (List.drop f l) = List.drop f l := List.take_of_length_le (by rw [List.length_drop]; omega)
        rw [htk] at HF
        clear HE
        go_wp2_with (at_builtin; refine wpList_append_own _ rfl _ _ 96 rfl w.heap.size 9 i0 (.string ⟨#[]⟩) 1 16 Try.underlying96 hi hz0 hz1 hz2 rfl (by decide) _ _ _ rfl (hown.alloc _) ⟨wr.heap.size, 0, none⟩ 1 1 [.string ⟨(l.drop f).toArray⟩] rfl rfl ?c1 ?c2 ?c3 ?c4 ?c5 ?_)
        first | (case c1 => exact cell_one_new _ _ _) | skip
        first | (case c2 => first | rfl | (intro u hu; simp at hu; subst hu; rfl)) | skip
        first | (case c3 => unfold maxLen; omega) | skip
        first | (case c4 => omega) | skip
        first | (case c5 => have := hb.size; simp; try omega) | skip
        intro v' w3 hown3 hgrow3 hnil3
        have hown4 := own_str hown3
        have hv' : v' ≠ .slice none 0 0 := hnil3
        obtain ⟨g', cp', hv⟩ := own_shape hown4 hv'
        have hb3 : Below w.heap.size w w3 := (hb.alloc hb.size _).grown hgrow3 (by have := hb.size; simp; omega) (fun k e => (hown.lt k e).1)
        clear hown3 hgrow3 hnil3 hown hb hv'
        go_wp2
        go_roundw
        case rel => exact ⟨o ++ [l.drop f], l.length + 1, l.length + 1, g', cp', hv, by go_num, by go_num, by rw [List.length_append, List.length_singleton]; omega, by omega, (Or.inr ⟨rfl, HF.out⟩ : _ ∨ _), hown4, hb3⟩
        case measure => simp [intOf]
      · have de : ((i : Int) == (l.length : Int)) = false := beq_eq_false_iff_ne.2 (by omega)
        have hil2 : i < l.length := by omega
        have hil3 : (i : Int) < (l.length : Int) := by omega
        obtain ⟨x, hx⟩ : ∃ x, l[i] = x := ⟨_, rfl⟩
        by_cases hxb : x = b
        · have HF : Hid ((o ++ [(l.drop f).take (i - f)]) ++ splitGo b [] (l.drop (i + 1)) = splitL b l) := split_hit b l o _ i hil2 (by rw [hx]; exact hxb) HE.out
          have dx : ((((⟨l.toArray⟩ : ByteArray)[i]'(by show i < l.toArray.size; simpa using hil2)).toNat : Int) == c) = true := by show ((l[i].toNat : Int) == c) = true; rw [hx, hxb, HC.out]; simp
          clear HE hx hxb hend
          go_wp2_with (at_builtin; refine wpList_append_own _ rfl _ _ 96 rfl w.heap.size 9 i0 (.string ⟨#[]⟩) 1 16 Try.underlying96 hi hz0 hz1 hz2 rfl (by decide) _ _ _ rfl (hown.alloc _) ⟨wr.heap.size, 0, none⟩ 1 1 [.string ⟨((l.drop f).take (i - f)).toArray⟩] rfl rfl ?c1 ?c2 ?c3 ?c4 ?c5 ?_)
          first | (case c1 => exact cell_one_new _ _ _) | skip
          first | (case c2 => first | rfl | (intro u hu; simp at hu; subst hu; rfl)) | skip
          first | (case c3 => unfold maxLen; omega) | skip
          first | (case c4 => omega) | skip
          first | (case c5 => have := hb.size; simp; try omega) | skip
          intro v' w3 hown3 hgrow3 hnil3
          have hown4 := own_str hown3
          have hv' : v' ≠ .slice none 0 0 := hnil3
          obtain ⟨g', cp', hv⟩ := own_shape hown4 hv'
          have hb3 : Below w.heap.size w w3 := (hb.alloc hb.size _).grown hgrow3 (by have := hb.size; simp; omega) (fun k e => (hown.lt k e).1)
          clear hown3 hgrow3 hnil3 hown hb hv'
          go_wp2
          go_roundw
          case rel => exact ⟨o ++ [(l.drop f).take (i - f)], i + 1, i + 1, g', cp', hv, by go_num, by go_num, by rw [List.length_append, List.length_singleton]; omega, by omega, (Or.inl ⟨by omega, by omega, by rw [Nat.sub_self, List.take_zero]; exact HF.out⟩ : _ ∨ _), hown4, hb3⟩
          case measure => simp [intOf]; omega
        · have HF : Hid (o ++ splitGo b ((l.drop f).take (i + 1 - f)) (l.drop (i + 1)) = splitL b l) := by
            have := split_miss b l o _ i hil2 (by rw [hx]; exact hxb) HE.out
            rw [cut_snoc l f i hfi hil2]
            exact this
          have dx : ((((⟨l.toArray⟩ : ByteArray)[i]'(by show i < l.toArray.size; simpa using hil2)).toNat : Int) == c) = false := by show ((l[i].toNat : Int) == c) = false; rw [hx, HC.out]; exact beq_eq_false_iff_ne.2 (fun e => hxb (UInt8.toNat_inj.1 (by omega)))
          clear HE hx hxb hend
          go_wp2
          go_roundw
          case rel => exact ⟨o, f, i + 1, g, cp, rfl, rfl, by go_num, by omega, by omega, (Or.inl ⟨by omega, by omega, HF.out⟩ : _ ∨ _), hown, hb⟩
          case measure => simp [intOf]; omega
    · have HF : Hid (o = splitL b l) := by
        rcases HG.out with h | h
        · omega
        · exact h.2
      go_wp2
      go_ret
      exact ⟨g, cp, by rw [← HF.out]; rfl, by rw [← HF.out]; exact hown, hb⟩

end Go.Proofs.Ytnpbckgaeaameaa

/-! The contracts of chapter 5's specification: Lines, Words, NameOk. -/
namespace Go.Proofs.Ytnpbckgaeaameaa
open Go.RowKit

theorem last_at (ls : List (List UInt8)) (h : 0 < ls.length) : ls.getD (ls.length - 1) [] = ls.getLastD [] := by
  have hne : ls ≠ [] := List.length_pos_iff.1 h
  rw [List.getLastD_eq_getLast?, List.getLast?_eq_getElem?, List.getD_eq_getElem?_getD]



set_option maxHeartbeats 1000000 in
set_option maxRecDepth 100000 in
theorem specNameOk (l : List UInt8) (w : World) (hl : l.length ≤ 1048576) :
    Calls Try.prog 72 #[.string ⟨l.toArray⟩] w fun e w' => e = .returned (.bool (nameB l)) ∧ w' = w := by
  go_enter Try.func72, Try.ntmps72
  go_wp2
  go_loop [3] (fun ix => ∃ k : Nat, k ≤ l.length ∧ ix = .int .i64 k ∧ Hid (∀ j (hj : j < l.length), j < k → 97 ≤ l[j].toNat ∧ l[j].toNat ≤ 122)) (fun ix => l.length - (intOf ix).toNat)
  case atStart => exact ⟨0, Nat.zero_le _, rfl, (fun j _ h => by omega : ∀ j (hj : j < l.length), j < 0 → _)⟩
  case round =>
    obtain ⟨k, hk, rfl, HK⟩ := hrel
    by_cases hkl : (k : Int) < (l.length : Int)
    · have hk2 : k < l.length := by omega
      obtain ⟨x, hx⟩ : ∃ x : UInt8, l[k] = x := ⟨_, rfl⟩
      have hxb : (⟨l.toArray⟩ : ByteArray)[k]'(by show k < l.toArray.size; simpa using hk2) = x := hx
      by_cases h1 : (x.toNat : Int) < 97
      · have HF : Hid (nameB l = false) := name_bad l k hk2 (by rw [hx]; omega)
        clear hx
        go_wp2
        go_ret
        exact ⟨by rw [HF.out]; rfl, rfl⟩
      · by_cases h2 : 122 < (x.toNat : Int)
        · have HF : Hid (nameB l = false) := name_bad l k hk2 (by rw [hx]; omega)
          clear hx
          go_wp2
          go_ret
          exact ⟨by rw [HF.out]; rfl, rfl⟩
        · have HS : Hid (∀ j (hj : j < l.length), j < k + 1 → 97 ≤ l[j].toNat ∧ l[j].toNat ≤ 122) := fun j hj hjk => by
            by_cases e : j = k
            · subst e; rw [hx]; omega
            · exact HK.out j hj (by omega)
          clear hx
          go_wp2
          go_round
          case rel => exact ⟨k + 1, by omega, by go_num, HS⟩
          case measure => simp [intOf]; omega
    · have HF : Hid (nameB l = inB (l.length : Int) 1 8) := name_good l (fun j hj => HK.out j hj (by omega))
      go_wp2_with (go_at_call 42; refine (specIn _ _ _ _).mono ?_; rintro e w' ⟨rfl, rfl⟩)
      go_ret
      exact ⟨by rw [HF.out]; rfl, rfl⟩

end Go.Proofs.Ytnpbckgaeaameaa

/-! The contracts of chapter 5's specification: a number is read; NumberOf. -/
namespace Go.Proofs.Ytnpbckgaeaameaa
open Go.RowKit

/-- What is read of the digits from place i on, up to place k. -/
def valTo (t : List UInt8) (i k : Nat) : Nat := valL ((t.drop i).take (k - i))

theorem valTo_start (t : List UInt8) (i : Nat) : valTo t i i = 0 := by simp [valTo, valL]

theorem valTo_step (t : List UInt8) (i k : Nat) (hi : i ≤ k) (hk : k < t.length) : valTo t i (k + 1) = valTo t i k * 10 + (t[k].toNat - 48) := by
  unfold valTo
  rw [cut_snoc t i k hi hk, valL_snoc]

theorem valTo_end (t : List UInt8) (i : Nat) : valTo t i t.length = valL (t.drop i) := by
  unfold valTo
  rw [List.take_of_length_le (by rw [List.length_drop]; omega)]

theorem valTo_bd (t : List UInt8) (i k : Nat) (hi : i ≤ k) (hk : k ≤ t.length) (h10 : t.length - i ≤ 10) (h : ∀ j (hj : j < t.length), i ≤ j → j < k → isDig t[j]) : valTo t i k < 10000000000 := by
  unfold valTo
  have hd : ∀ c ∈ (t.drop i).take (k - i), isDig c := by
    intro c hc
    obtain ⟨j, hj, rfl⟩ := List.getElem_of_mem hc
    rw [List.length_take, List.length_drop] at hj
    rw [List.getElem_take, List.getElem_drop]
    exact h (i + j) (by omega) (by omega) (by omega)
  have h1 := valL_bd _ hd
  have h2 : ((t.drop i).take (k - i)).length ≤ 10 := by rw [List.length_take, List.length_drop]; omega
  have h3 : (10 : Nat) ^ ((t.drop i).take (k - i)).length ≤ 10 ^ 10 := Nat.pow_le_pow_right (by omega) h2
  omega

theorem body_drop (t : List UInt8) (i : Nat) (hi : (negB t = true ∧ i = 1) ∨ (negB t = false ∧ i = 0)) : bodyL t = t.drop i := by
  unfold bodyL
  rcases hi with ⟨h, rfl⟩ | ⟨h, rfl⟩
  · rw [if_pos h]; simp
  · rw [if_neg (by rw [h]; simp)]; simp

/-- The four ways in which a text is no number. -/
theorem form_short {t : List UInt8} {i : Nat} (hi : bodyL t = t.drop i) (h : ¬ (1 ≤ t.length - i ∧ t.length - i ≤ 10)) : ¬ formP t := fun hf => by
  have := hf.1
  rw [hi, List.length_drop] at this
  exact h this

theorem form_digit {t : List UInt8} {i k : Nat} (hi : bodyL t = t.drop i) (hik : i ≤ k) (hk : k < t.length) (h : ¬ isDig t[k]) : ¬ formP t := fun hf => by
  refine h (hf.2.1 t[k] ?_)
  rw [hi, List.mem_iff_getElem]
  exact ⟨k - i, by rw [List.length_drop]; omega, by rw [List.getElem_drop]; congr 1; omega⟩

theorem form_head {t : List UInt8} {i : Nat} (hi : bodyL t = t.drop i) (hl : i < t.length) : (bodyL t).head? = some t[i] := by
  rw [hi, List.head?_drop, List.getElem?_eq_getElem hl]

theorem form_yes {t : List UInt8} {i : Nat} (hi : bodyL t = t.drop i) (h1 : 1 ≤ t.length - i ∧ t.length - i ≤ 10) (h2 : ∀ j (hj : j < t.length), i ≤ j → isDig t[j]) (h3 : ¬ ((bodyL t).head? = some 48 ∧ 1 < t.length)) : formP t := by
  refine ⟨by rw [hi, List.length_drop]; exact h1, ?_, h3⟩
  intro c hc
  rw [hi] at hc
  obtain ⟨j, hj, rfl⟩ := List.getElem_of_mem hc
  rw [List.length_drop] at hj
  rw [List.getElem_drop]
  exact h2 (i + j) (by omega) (by omega)

theorem readV_no {t : List UInt8} (h : ¬ formP t) : readV t = 0 ∧ readB t = false := by
  unfold readV
  rw [readB_no h]
  exact ⟨if_neg (by simp), rfl⟩

theorem readV_yes {t : List UInt8} {i : Nat} (h : formP t) (hi : bodyL t = t.drop i) : readV t = (if negB t = true then -(valTo t i t.length : Int) else (valTo t i t.length : Int)) ∧ readB t = true := by
  unfold readV
  rw [if_pos (readB_yes h), hi, valTo_end]
  exact ⟨rfl, readB_yes h⟩


end Go.Proofs.Ytnpbckgaeaameaa

/-! The contracts of spec.Turned and impl.Turned. -/
namespace Go.Proofs.Ytnpbckgaeaameaa
open Go.RowKit

theorem back1 (t : Int) (h2 : 0 ≤ t) (h3 : t ≤ 255) (W : World) :
    (convert 22 9 (.slice (some ⟨W.heap.size, 0, none⟩) 1 1)).run Try.prog (W.alloc (.cells #[.int .u8 t] 5)).drew = .ok (.string ⟨#[UInt8.ofNat t.toNat]⟩) (W.alloc (.cells #[.int .u8 t] 5)).drew := by
  have ht : ((UInt8.ofNat t.toNat).toNat : Int) = t := by
    rw [UInt8.toNat_ofNat']; omega
  have h := run_convert_bytes_back (P := Try.prog) (W.alloc (.cells #[.int .u8 t] 5)).drew 22 9 5 ⟨W.heap.size, 0, none⟩ 1 [UInt8.ofNat t.toNat] Try.underlying22 Try.underlying5 Try.underlying9 (by
    intro j hj
    have hj' : j < 1 := by simpa using hj
    match j, hj' with
    | 0, _ => simp only [List.getElem_cons_zero, ht]; simp [Addr.add, go_sem])
  exact h



end Go.Proofs.Ytnpbckgaeaameaa

/-! The contracts of chapter 5's specification: NumberOf; a number is written (l1Int, digits). -/
namespace Go.Proofs.Ytnpbckgaeaameaa
open Go.RowKit


theorem back1p (t : Int) (h2 : 0 ≤ t) (h3 : t ≤ 255) (W : World) :
    (convert 22 9 (.slice (some ⟨W.heap.size, 0, none⟩) 1 1)).run Try.prog (W.alloc (.cells #[.int .u8 t] 5)) = .ok (.string ⟨#[UInt8.ofNat t.toNat]⟩) (W.alloc (.cells #[.int .u8 t] 5)) := by
  have ht : ((UInt8.ofNat t.toNat).toNat : Int) = t := by
    rw [UInt8.toNat_ofNat']; omega
  have h := run_convert_bytes_back (P := Try.prog) (W.alloc (.cells #[.int .u8 t] 5)) 22 9 5 ⟨W.heap.size, 0, none⟩ 1 [UInt8.ofNat t.toNat] Try.underlying22 Try.underlying5 Try.underlying9 (by
    intro j hj
    have hj' : j < 1 := by simpa using hj
    match j, hj' with
    | 0, _ => simp only [List.getElem_cons_zero, ht]; simp [Addr.add, go_sem])
  exact h

theorem back_dig (k : Nat) (W : World) :
    (convert 22 9 (.slice (some ⟨W.heap.size, 0, none⟩) 1 1)).run Try.prog (W.alloc (.cells #[.int .u8 (48 + (k : Int) % 10)] 5)) = .ok (.string ⟨[digit k].toArray⟩) (W.alloc (.cells #[.int .u8 (48 + (k : Int) % 10)] 5)) := by
  have h := back1p (48 + (k : Int) % 10) (by omega) (by omega) W
  have e : UInt8.ofNat (48 + (k : Int) % 10).toNat = digit k := by unfold digit; congr 1
  rw [e] at h
  exact h


end Go.Proofs.Ytnpbckgaeaameaa

/-! The contract of l1Int: a number is written, with a minus ahead below 0. -/
namespace Go.Proofs.Ytnpbckgaeaameaa
open Go.RowKit


end Go.Proofs.Ytnpbckgaeaameaa

/-! The contracts of chapter 6's specification: NodeOk, how many parts, KidsOf. -/
namespace Go.Proofs.Ytnpbckgaeaameaa
open Go.RowKit

def nodeVal (n : Nd) : Value := .agg #[.int .i64 n.1, .int .i64 n.2.1, .string ⟨n.2.2.1.toArray⟩, .string ⟨n.2.2.2.toArray⟩]

theorem nodeB_texts (k a : Int) (p f : List UInt8) (hk : k ≠ 8) (h : p ≠ [] ∨ f ≠ []) : nodeB (k, a, p, f) = false := nodeB_no (fun hp => by
  unfold nodeP at hp
  simp only at hp
  rcases hp with ⟨_, _, h1, h2⟩ | ⟨_, _, h1, h2⟩ | ⟨_, _, h1, h2⟩ | ⟨h1, _⟩
  · rcases h with h | h; exact h h1; exact h h2
  · rcases h with h | h; exact h h1; exact h h2
  · rcases h with h | h; exact h h1; exact h h2
  · exact hk h1)
theorem nodeB_num (a : Int) : nodeB (1, a, [], []) = inB a (-2147483648) 2147483647 := by
  unfold nodeB inB
  exact decide_eq_decide.2 (by unfold nodeP; simp)
theorem nodeB_arg (a : Int) : nodeB (2, a, [], []) = inB a 0 2 := by
  unfold nodeB inB
  exact decide_eq_decide.2 (by unfold nodeP; simp)
theorem nodeB_op (k a : Int) (h : 3 ≤ k ∧ k ≤ 7) : nodeB (k, a, [], []) = (a == 0) := by
  rw [Bool.eq_iff_iff, nodeB_iff, beq_iff_eq]
  unfold nodeP
  simp
  omega
theorem nodeB_call (a : Int) (p f : List UInt8) : nodeB (8, a, p, f) = (inB a 0 3 && (nameB p && nameB f)) := by
  rw [Bool.eq_iff_iff, nodeB_iff]
  unfold nodeP inB
  simp
theorem nodeB_other (k a : Int) (p f : List UInt8) (h : k < 1 ∨ 8 < k) : nodeB (k, a, p, f) = false := nodeB_no (fun hp => by
  unfold nodeP at hp
  simp only at hp
  omega)

set_option maxHeartbeats 2000000 in
set_option maxRecDepth 100000 in
theorem specNodeOk (n : Nd) (w : World) (hp : n.2.2.1.length ≤ 1048576) (hf : n.2.2.2.length ≤ 1048576) :
    Calls Try.prog 46 #[nodeVal n] w fun e w' => e = .returned (.bool (nodeB n)) ∧ Below w.heap.size w w' := by
  obtain ⟨k, a, p, f⟩ := n
  simp only at hp hf
  unfold nodeVal
  simp only
  by_cases h8 : k = 8
  · subst h8
    have HN := nodeB_call a p f
    rw [HN]
    clear HN
    rcases hia : inB a 0 3 with _ | _
    · have HA : Hid (inB a 0 3 = false) := hia
      clear hia
      go_enter Try.func46, Try.ntmps46
      go_wp2_with fail
      refine (specIn _ _ _ _).mono ?_
      rintro e w1 ⟨rfl, rfl⟩
      rw [HA.out]
      go_wp2
      go_ret
      exact ⟨rfl, (Below.refl _ w).alloc (Nat.le_refl _) _⟩
    · have HA : Hid (inB a 0 3 = true) := hia
      clear hia
      rcases hnp : nameB p with _ | _
      · have HP : Hid (nameB p = false) := hnp
        clear hnp
        go_enter Try.func46, Try.ntmps46
        go_wp2_with fail
        refine (specIn _ _ _ _).mono ?_
        rintro e w1 ⟨rfl, rfl⟩
        rw [HA.out]
        go_wp2_with fail
        refine (specNameOk p _ hp).mono ?_
        rintro e w1 ⟨rfl, rfl⟩
        rw [HP.out]
        go_wp2
        go_ret
        exact ⟨rfl, (Below.refl _ w).alloc (Nat.le_refl _) _⟩
      · have HP : Hid (nameB p = true) := hnp
        clear hnp
        go_enter Try.func46, Try.ntmps46
        go_wp2_with fail
        refine (specIn _ _ _ _).mono ?_
        rintro e w1 ⟨rfl, rfl⟩
        rw [HA.out]
        go_wp2_with fail
        refine (specNameOk p _ hp).mono ?_
        rintro e w1 ⟨rfl, rfl⟩
        rw [HP.out]
        go_wp2_with fail
        refine (specNameOk f _ hf).mono ?_
        rintro e w1 ⟨rfl, rfl⟩
        go_wp2
        go_ret
        exact ⟨rfl, (Below.refl _ w).alloc (Nat.le_refl _) _⟩
  · have d8 : (k != 8) = true := bne_iff_ne.2 h8
    have d8' : (k == 8) = false := beq_eq_false_iff_ne.2 h8
    by_cases hpe : p = []
    · subst hpe
      by_cases hfe : f = []
      · subst hfe
        by_cases h1 : k = 1
        · subst h1
          have HN := nodeB_num a
          rw [HN]
          clear HN
          go_enter Try.func46, Try.ntmps46
          go_wp2_with fail
          refine (specWordOk _ _).mono ?_
          rintro e w1 ⟨rfl, rfl⟩
          go_wp2
          go_ret
          exact ⟨rfl, (Below.refl _ w).alloc (Nat.le_refl _) _⟩
        · have d1 : (k == 1) = false := beq_eq_false_iff_ne.2 h1
          by_cases h2 : k = 2
          · subst h2
            have HN := nodeB_arg a
            rw [HN]
            clear HN
            go_enter Try.func46, Try.ntmps46
            go_wp2_with fail
            refine (specIn _ _ _ _).mono ?_
            rintro e w1 ⟨rfl, rfl⟩
            go_wp2
            go_ret
            exact ⟨rfl, (Below.refl _ w).alloc (Nat.le_refl _) _⟩
          · have d2 : (k == 2) = false := beq_eq_false_iff_ne.2 h2
            by_cases h37 : 3 ≤ k ∧ k ≤ 7
            · have HN := nodeB_op k a h37
              rw [HN]
              clear HN
              rcases (show k = 3 ∨ k = 4 ∨ k = 5 ∨ k = 6 ∨ k = 7 by omega) with rfl | rfl | rfl | rfl | rfl
              all_goals
                go_enter Try.func46, Try.ntmps46
                go_wp2
                go_ret
                exact ⟨rfl, (Below.refl _ w).alloc (Nat.le_refl _) _⟩
            · have HN := nodeB_other k a [] [] (by omega)
              rw [HN]
              clear HN
              have d3 : (k == 3) = false := beq_eq_false_iff_ne.2 (by omega)
              have d4 : (k == 4) = false := beq_eq_false_iff_ne.2 (by omega)
              have d5 : (k == 5) = false := beq_eq_false_iff_ne.2 (by omega)
              have d6 : (k == 6) = false := beq_eq_false_iff_ne.2 (by omega)
              have d7 : (k == 7) = false := beq_eq_false_iff_ne.2 (by omega)
              clear h37 h1 h2 h8
              go_enter Try.func46, Try.ntmps46
              go_wp2
              go_ret
              exact ⟨rfl, (Below.refl _ w).alloc (Nat.le_refl _) _⟩
      · have HN := nodeB_texts k a [] f h8 (Or.inr hfe)
        rw [HN]
        have hfb : f.isEmpty = false := by simp [hfe]
        clear HN hfe h8
        go_enter Try.func46, Try.ntmps46
        go_wp2
        go_ret
        exact ⟨rfl, (Below.refl _ w).alloc (Nat.le_refl _) _⟩
    · have HN := nodeB_texts k a p f h8 (Or.inl hpe)
      rw [HN]
      have hpb : p.isEmpty = false := by simp [hpe]
      clear HN hpe h8
      go_enter Try.func46, Try.ntmps46
      go_wp2
      go_ret
      exact ⟨rfl, (Below.refl _ w).alloc (Nat.le_refl _) _⟩

theorem kids_two (k a : Int) (p f : List UInt8) (h : 3 ≤ k ∧ k ≤ 6) : kidsV (k, a, p, f) = 2 := if_pos h
theorem kids_if (a : Int) (p f : List UInt8) : kidsV (7, a, p, f) = 3 := by unfold kidsV; simp
theorem kids_call (a : Int) (p f : List UInt8) : kidsV (8, a, p, f) = a := by unfold kidsV; simp
theorem kids_none (k a : Int) (p f : List UInt8) (h : k < 3 ∨ 8 < k) : kidsV (k, a, p, f) = 0 := by
  unfold kidsV
  simp only
  rw [if_neg (by omega), if_neg (by omega), if_neg (by omega)]

set_option maxHeartbeats 2000000 in
set_option maxRecDepth 100000 in
theorem specKids (n : Nd) (w : World) :
    Calls Try.prog 47 #[nodeVal n] w fun e w' => e = .returned (.int .i64 (kidsV n)) ∧ Below w.heap.size w w' := by
  obtain ⟨k, a, p, f⟩ := n
  unfold nodeVal
  simp only
  by_cases h36 : 3 ≤ k ∧ k ≤ 6
  · rw [kids_two k a p f h36]
    rcases (show k = 3 ∨ k = 4 ∨ k = 5 ∨ k = 6 by omega) with rfl | rfl | rfl | rfl
    all_goals
      go_enter Try.func47, Try.ntmps47
      go_wp2
      go_ret
      exact ⟨rfl, (Below.refl _ w).alloc (Nat.le_refl _) _⟩
  · by_cases h7 : k = 7
    · subst h7
      rw [kids_if]
      go_enter Try.func47, Try.ntmps47
      go_wp2
      go_ret
      exact ⟨rfl, (Below.refl _ w).alloc (Nat.le_refl _) _⟩
    · by_cases h8 : k = 8
      · subst h8
        rw [kids_call]
        go_enter Try.func47, Try.ntmps47
        go_wp2
        go_ret
        exact ⟨rfl, (Below.refl _ w).alloc (Nat.le_refl _) _⟩
      · rw [kids_none k a p f (by omega)]
        have d3 : (k == 3) = false := beq_eq_false_iff_ne.2 (by omega)
        have d4 : (k == 4) = false := beq_eq_false_iff_ne.2 (by omega)
        have d5 : (k == 5) = false := beq_eq_false_iff_ne.2 (by omega)
        have d6 : (k == 6) = false := beq_eq_false_iff_ne.2 (by omega)
        have d7 : (k == 7) = false := beq_eq_false_iff_ne.2 h7
        have d8 : (k == 8) = false := beq_eq_false_iff_ne.2 h8
        clear h36 h7 h8
        go_enter Try.func47, Try.ntmps47
        go_wp2
        go_ret
        exact ⟨rfl, (Below.refl _ w).alloc (Nat.le_refl _) _⟩

theorem below_boxed {w w1 : World} {o : Obj} (h : Below (w.alloc o).heap.size (w.alloc o) w1) : Below w.heap.size w w1 :=
  ((Below.refl _ w).alloc (Nat.le_refl _) o).trans (h.mono (by simp))

theorem below_boxd {w w1 : World} {o : Obj} (h : Below (w.alloc o).drew.heap.size (w.alloc o).drew w1) : Below w.heap.size w w1 :=
  ((Below.refl _ w).alloc (Nat.le_refl _) o).trans (⟨h.os, h.tape, h.output, h.size, fun k hk => h.block k (by simp; omega)⟩ : Below w.heap.size (w.alloc o) w1)


end Go.Proofs.Ytnpbckgaeaameaa
