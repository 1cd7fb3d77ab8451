/-
  Parts of one proof, one behind the other: InsS3, InsS4, InsL, InsX, Shelf, StepA, NeedA, StepB, IntoS.
-/
import Derived.Test.YtkpdoedpkncboaaGreatP14
import Derived.Test.YtkpdoedpkncboaaGreatP6
import Derived.Shelf.Small.Bits
import Derived.Shelf.Small.Strs
import Derived.Shelf.Strconv.Itoa0
import Derived.Shelf.LaysM
import Derived.Shelf.Strconv.Clone
import Derived.Shelf.Strings.Search1
import Derived.Shelf.Strings.Search2
import Derived.Shelf.Strings.Cut
import Derived.Shelf.Strings.Shaped
import Derived.Test.YtkpdoedpkncboaaGreatProg
import Derived.Test.YtkpdoedpkncboaaGreatP9
import Derived.Laws.StructEq
import Derived.BigQuiet
import Derived.Test.YtkpdoedpkncboaaGreatP1
import Derived.Deep.MidRow
import Derived.Great.Walk
import Derived.Below
import Derived.Laws.EntriesVeiled
import Derived.Maps.AppendAt
namespace Go.Proofs.YtkpdoedpkncboaaGreat
open Go.RowKit
def zbD (w : World) (a : Option Addr) (len : Nat) (is : List In13) : Prop :=
 is.length = len ∧ ∀ j, j < len → ∃ b off, a = some ⟨b, off, none⟩ ∧ b < w.heap.size ∧ w.cell? ⟨b, off + j * 5, none⟩ = some (.int .i64 (is.getD j in0).1) ∧ w.cell? ⟨b, off + j * 5 + 1, none⟩ = some (.int .i64 (is.getD j in0).2.1) ∧ w.cell? ⟨b, off + j * 5 + 2, none⟩ = some (.int .i64 (is.getD j in0).2.2.1) ∧ w.cell? ⟨b, off + j * 5 + 3, none⟩ = some (.int .i64 (is.getD j in0).2.2.2.1) ∧ w.cell? ⟨b, off + j * 5 + 4, none⟩ = some (.string ⟨(is.getD j in0).2.2.2.2.toArray⟩)
theorem zbD.below {w w' : World} {a : Option Addr} {len : Nat} {is : List In13} (h : zbD w a len is) (hb : Below w.heap.size w w') : zbD w' a len is := by
 refine ⟨h.1, fun j hj => ?_⟩
 obtain ⟨b, off, e, hlt, c0, c1, c2, c3, c4⟩ := h.2 j hj
 have hk := hb.block b hlt
 exact ⟨b, off, e, Nat.lt_of_lt_of_le hlt hb.size, (World.cell?_of_block (a := ⟨b, off + j * 5, none⟩) hk).trans c0, (World.cell?_of_block (a := ⟨b, off + j * 5 + 1, none⟩) hk).trans c1, (World.cell?_of_block (a := ⟨b, off + j * 5 + 2, none⟩) hk).trans c2, (World.cell?_of_block (a := ⟨b, off + j * 5 + 3, none⟩) hk).trans c3, (World.cell?_of_block (a := ⟨b, off + j * 5 + 4, none⟩) hk).trans c4⟩
def zcA (is : List In13) : Prop := ∀ j, (is.getD j in0).2.2.2.2.length ≤ 1048576
theorem ziR {c : List In13} (h : c.length < 1 ∨ 200 < c.length) : zbV c = false := decide_eq_false (fun e => by have := e.1; omega)
theorem zm1 {c : List In13} {j : Nat} (hj : j < c.length) (h : ¬ zaY c.length (c.getD j in0)) : zbV c = false := decide_eq_false (fun e => h (e.2.1 _ (by simp [List.getD, hj])))
theorem ziS {c : List In13} (h1 : 1 ≤ c.length) (h2 : c.length ≤ 200) (h : ∀ j, j < c.length → zaY c.length (c.getD j in0)) : zbV c = (((c.getD (c.length - 1) in0).1 == 10) || ((c.getD (c.length - 1) in0).1 == 8)) := by
 have hall : ∀ i ∈ c, zaY c.length i := fun i hi => by
  obtain ⟨j, hj, rfl⟩ := List.getElem_of_mem hi
  have := h j hj
  simpa [List.getD, hj] using this
 unfold zbV
 rw [Bool.eq_iff_iff, decide_eq_true_eq, Bool.or_eq_true, beq_iff_eq, beq_iff_eq]
 exact ⟨fun e => e.2.2, fun e => ⟨⟨h1, h2⟩, hall, e⟩⟩
set_option maxHeartbeats 4000000 in
set_option maxRecDepth 100000 in
theorem zj5 (a : Option Addr) (len cap : Nat) (is : List In13) (w : World) (hin : zbD w a len is) (hsh : zcA is) (hlen : len ≤ 1048576) :
 Calls Tryz.prog 98 #[.slice a len cap] w fun e w' => e = .returned (.bool (zbV is)) ∧ Below w.heap.size w w' := by
 obtain rfl : is.length = len := hin.1
 have HI : Hid (zbD w a is.length is) := hin
 have HS : Hid (zcA is) := hsh
 have HL : Hid (is.length < 1 ∨ 200 < is.length → zbV is = false) := ziR
 have HNo : Hid (∀ j, j < is.length → ¬ zaY is.length (is.getD j in0) → zbV is = false) := fun j hj h => zm1 hj h
 have HEn : Hid (1 ≤ is.length → is.length ≤ 200 → (∀ j, j < is.length → zaY is.length (is.getD j in0)) → zbV is = (((is.getD (is.length - 1) in0).1 == 10) || ((is.getD (is.length - 1) in0).1 == 8))) := ziS
 obtain ⟨n, hn⟩ : ∃ n, is.length = n := ⟨_, rfl⟩
 rw [hn] at HI HL HNo HEn hlen ⊢
 generalize zbV is = res at HL HNo HEn ⊢
 clear hin hsh hn
 by_cases h1 : (n : Int) < 1
 ·
  have HF := HL.out (Or.inl (by omega))
  have HF2 : Hid (res = false) := HF
  clear HF HL HNo HEn
  go_enter Tryz.func98, Tryz.ntmps98
  go_wp2
  go_ret
  exact ⟨by rw [HF2.out]; rfl, Below.refl _ _⟩
 by_cases h2 : 200 < (n : Int)
 ·
  have HF2 : Hid (res = false) := HL.out (Or.inr (by omega))
  clear HL HNo HEn
  go_enter Tryz.func98, Tryz.ntmps98
  go_wp2
  go_ret
  exact ⟨by rw [HF2.out]; rfl, Below.refl _ _⟩
 obtain ⟨m, hm⟩ : ∃ m, n = m + 1 := ⟨n - 1, by omega⟩
 have HM : Hid (n = m + 1) := hm
 have HEn2 : Hid ((∀ j, j < n → zaY n (is.getD j in0)) → res = (((is.getD m in0).1 == 10) || ((is.getD m in0).1 == 8))) := fun h => by
  have := HEn.out (by omega) (by omega) h
  rw [show n - 1 = m by omega] at this
  exact this
 clear hm HL HEn
 go_enter Tryz.func98, Tryz.ntmps98
 go_wp2
 go_loopw [4] (fun iv wr => ∃ i : Nat, iv = .int .i64 (i : Int) ∧ i ≤ n ∧ Hid (∀ j, j < i → zaY n (is.getD j in0)) ∧ Hid (Below w.heap.size w wr)) (fun iv _ => n - (intOf iv).toNat)
 case atStart => exact ⟨0, rfl, Nat.zero_le _, fun j hj => by omega, Below.refl _ _⟩
 case round =>
  obtain ⟨i, rfl, hi, HA, HB⟩ := hrel
  by_cases hlt : (i : Int) < (n : Int)
  ·
   obtain ⟨b, off, rfl, hbl, c0, c1, c2, c3, c4⟩ := (HI.out.below HB.out).2 i (by omega)
   have HC : Hid (_) := fun W : World => zkf (is.getD i in0) W (HS.out i)
   have HNx : Hid (zaY n (is.getD i in0) → ∀ j, j < i + 1 → zaY n (is.getD j in0)) := fun h j hj => by
    by_cases e : j = i
    ·
     rw [e]; exact h
    ·
     exact HA.out j (by omega)
   have HNi : Hid (¬ zaY n (is.getD i in0) → res = false) := HNo.out i (by omega)
   clear HEn2 HNo HA HS
   generalize is.getD i in0 = ii at c0 c1 c2 c3 c4 HC HNx HNi
   obtain ⟨kd, R, A, Bq, nm⟩ := ii
   unfold zay at HC
   simp only at c0 c1 c2 c3 c4 HC
   go_wp2_with fail
   refine Calls.mono (HC.out _) ?_
   rintro e w1 ⟨rfl, hb1⟩
   have hB1 := HB.out.trans (hb1.mono HB.out.size)
   have d0 := (hb1.cell (p := ⟨b, off + i * 5, none⟩) hbl).trans c0
   have d2 := (hb1.cell (p := ⟨b, off + i * 5 + 2, none⟩) hbl).trans c2
   clear c0 c1 c2 c3 c4 hb1 HC
   rcases hib : insB (kd, R, A, Bq, nm) with _ | _
   ·
    have HF : Hid (res = false) := HNi.out (fun h => by have := decide_eq_true h.1; rw [show decide (insP (kd, R, A, Bq, nm)) = insB (kd, R, A, Bq, nm) from rfl, hib] at this; cases this)
    clear hib HNi HNx
    go_wp2
    go_ret
    exact ⟨by rw [HF.out]; rfl, hB1⟩
   have hip : insP (kd, R, A, Bq, nm) := of_decide_eq_true hib
   have HP : Hid (insP (kd, R, A, Bq, nm)) := hip
   clear hib hip
   by_cases h7 : kd = 7
   ·
    subst h7
    by_cases hA : (n : Int) ≤ A
    ·
     have HF : Hid (res = false) := HNi.out (fun h => by have := h.2 (Or.inl rfl); simp only at this; omega)
     clear HNi HNx HP
     go_wp2
     go_ret
     exact ⟨by rw [HF.out]; rfl, hB1⟩
    ·
     have HN2 : Hid (_) := HNx.out ⟨HP.out, fun _ => by simp only; omega⟩
     clear HNi HNx HP
     go_wp2
     go_roundw
     case rel => exact ⟨i + 1, by go_num, by omega, HN2, hB1⟩
     case measure => simp [intOf]; omega
   have d7 : (kd == 7) = false := beq_eq_false_iff_ne.2 h7
   by_cases h8 : kd = 8
   ·
    subst h8
    clear h7 d7
    by_cases hA : (n : Int) ≤ A
    ·
     have HF : Hid (res = false) := HNi.out (fun h => by have := h.2 (Or.inr rfl); simp only at this; omega)
     clear HNi HNx HP
     go_wp2
     go_ret
     exact ⟨by rw [HF.out]; rfl, hB1⟩
    ·
     have HN2 : Hid (_) := HNx.out ⟨HP.out, fun _ => by simp only; omega⟩
     clear HNi HNx HP
     go_wp2
     go_roundw
     case rel => exact ⟨i + 1, by go_num, by omega, HN2, hB1⟩
     case measure => simp [intOf]; omega
   have d8 : (kd == 8) = false := beq_eq_false_iff_ne.2 h8
   have HN2 : Hid (_) := HNx.out ⟨HP.out, fun e => by simp only at e; rcases e with e | e; exact absurd e h7; exact absurd e h8⟩
   clear HNi HNx HP h7 h8
   go_wp2
   go_roundw
   case rel => exact ⟨i + 1, by go_num, by omega, HN2, hB1⟩
   case measure => simp [intOf]; omega
  ·
   have hin2 : i = n := by omega
   have HF : Hid (_) := HEn2.out (fun j hj => HA.out j (by omega))
   have hmn : m < n := by have := HM.out; omega
   obtain ⟨b, off, rfl, hbl, c0, _⟩ := (HI.out.below HB.out).2 m hmn
   have hq : (n : Int) - 1 = (m : Int) := by have := HM.out; omega
   have hmz : (m : Int) < (n : Int) := by omega
   have HBr := HB.out
   generalize (is.getD m in0).1 = kd at c0 HF
   clear hin2 HEn2 HNo HA HS HM HI HB hmn
   rcases h10 : (kd == 10) with _ | _
   ·
    rw [h10] at HF
    go_wp2
    go_ret
    exact ⟨by rw [HF.out]; rfl, HBr⟩
   ·
    rw [h10] at HF
    go_wp2
    go_ret
    exact ⟨by rw [HF.out]; rfl, HBr⟩

def insV : List In13 → List Value
 | [] => []
 | i :: r => .int .i64 i.1 :: .int .i64 i.2.1 :: .int .i64 i.2.2.1 :: .int .i64 i.2.2.2.1 :: .string ⟨i.2.2.2.2.toArray⟩ :: insV r
theorem zgo (is : List In13) : (insV is).length = is.length * 5 := by
 induction is with
 | nil => rfl
 | cons n r ih => simp only [insV, List.length_cons, ih]; omega
theorem zhV (x y : List In13) : insV (x ++ y) = insV x ++ insV y := by
 induction x with
 | nil => rfl
 | cons n r ih => simp only [List.cons_append, insV, ih]
theorem insV_one (is : List In13) : ∀ u ∈ insV is, u.oneCell' = true := by
 induction is with
 | nil => intro u hu; cases hu
 | cons n r ih =>
  intro u hu
  simp only [insV, List.mem_cons] at hu
  rcases hu with rfl | rfl | rfl | rfl | rfl | h
  ·
   rfl
  ·
   rfl
  ·
   rfl
  ·
   rfl
  ·
   rfl
  ·
   exact ih u h
theorem zld (is : List In13) (j : Nat) (hj : j < is.length) : (insV is)[j * 5]? = some (.int .i64 (is.getD j in0).1) ∧ (insV is)[j * 5 + 1]? = some (.int .i64 (is.getD j in0).2.1) ∧ (insV is)[j * 5 + 2]? = some (.int .i64 (is.getD j in0).2.2.1) ∧ (insV is)[j * 5 + 3]? = some (.int .i64 (is.getD j in0).2.2.2.1) ∧ (insV is)[j * 5 + 4]? = some (.string ⟨(is.getD j in0).2.2.2.2.toArray⟩) := by
 induction is generalizing j with
 | nil => simp at hj
 | cons n r ih =>
  cases j with
  | zero => simp [insV]
  | succ j =>
   have h := ih j (by simpa using hj)
   rw [show (j + 1) * 5 = j * 5 + 1 + 1 + 1 + 1 + 1 by omega]
   simpa [insV] using h
theorem zdL {w : World} {base n : Nat} {v : Value} {is : List In13} (h : w.ownsRow base 88 5 v n (insV is)) : is.length = n ∧ ∃ a cap, v = .slice a n cap ∧ zbD w a n is := by
 have hlen : is.length = n := by have := h.1; rw [zgo] at this; omega
 refine ⟨hlen, ?_⟩
 rcases zar h with ⟨rfl, rfl, _⟩ | ⟨g, cp, rfl⟩
 ·
  exact ⟨none, 0, rfl, hlen, fun j hj => by omega⟩
 ·
  refine ⟨some ⟨g, 0, none⟩, cp, rfl, hlen, fun j hj => ?_⟩
  obtain ⟨v0, v1, v2, v3, v4⟩ := zld is j (by omega)
  have c0 := h.cellAt (j * 5) (by omega)
  have c1 := h.cellAt (j * 5 + 1) (by omega)
  have c2 := h.cellAt (j * 5 + 2) (by omega)
  have c3 := h.cellAt (j * 5 + 3) (by omega)
  have c4 := h.cellAt (j * 5 + 4) (by omega)
  rw [v0] at c0
  rw [v1] at c1
  rw [v2] at c2
  rw [v3] at c3
  rw [v4] at c4
  refine ⟨g, 0, rfl, (h.lt g rfl).2, ?_, ?_, ?_, ?_, ?_⟩ <;> (rw [Nat.zero_add]; assumption)
theorem infoIns : (Tryz.prog.info? 88).map (fun i => (i.zero, i.size, i.bytes)) = some (some (.agg #[.int .i64 0, .int .i64 0, .int .i64 0, .int .i64 0, .string ⟨#[]⟩]), 5, 48) := by kernel_rfl
theorem new_ins (w : World) (n : In13) : ∀ j u, (insV [n])[j]? = some u → (w.alloc (.cells #[.int .i64 n.1, .int .i64 n.2.1, .int .i64 n.2.2.1, .int .i64 n.2.2.2.1, .string ⟨n.2.2.2.2.toArray⟩] 88)).cell? ((⟨w.heap.size, 0, none⟩ : Addr).add j) = some u := by
 intro j u hu
 have e : (⟨w.heap.size, 0, none⟩ : Addr).add j = ⟨w.heap.size, j, none⟩ := by unfold Addr.add; split <;> simp_all
 rw [e]
 match j, hu with
 | 0, hu => simp [insV] at hu; subst hu; simp
 | 1, hu => simp [insV] at hu; subst hu; simp
 | 2, hu => simp [insV] at hu; subst hu; simp
 | 3, hu => simp [insV] at hu; subst hu; simp
 | 4, hu => simp [insV] at hu; subst hu; simp
 | j + 5, hu => simp [insV] at hu
section
open Go.ChangeShapes Go.WideShapes Go.ChangeAt Go.RowKit Go.Joins Go.Deep
def IntI (i : In13) : Prop := (-9223372036854775808 ≤ i.1 ∧ i.1 ≤ 9223372036854775807) ∧ (-9223372036854775808 ≤ i.2.1 ∧ i.2.1 ≤ 9223372036854775807) ∧ (-9223372036854775808 ≤ i.2.2.1 ∧ i.2.2.1 ≤ 9223372036854775807) ∧ (-9223372036854775808 ≤ i.2.2.2.1 ∧ i.2.2.2.1 ≤ 9223372036854775807)
end
end Go.Proofs.YtkpdoedpkncboaaGreat
namespace Go.Proofs
open Go.Shelf
def Tryz.lays219_ren : Go.Shelf.Ren := ⟨fun | 219 => 155 | 217 => 165 | 225 => 166 | 224 => 167 | 267 => 168 | 266 => 183 | 314 => 184 | n => n, fun | 9 => 9 | 3 => 3 | 4 => 4 | 5 => 5 | 46 => 114 | 146 => 204 | 51 => 153 | n => n, fun | 1 => 0 | n => n⟩
theorem Tryz.lays219 : Go.Proofs.Lays.n219 Tryz.prog Tryz.lays219_ren := {
 mixed := by kernel_rfl
 f217 := Tryz.func165.trans (congrArg some (by kernel_rfl))
 f219 := Tryz.func155.trans (congrArg some (by kernel_rfl))
 f224 := Tryz.func167.trans (congrArg some (by kernel_rfl))
 f225 := Tryz.func166.trans (congrArg some (by kernel_rfl))
 f266 := Tryz.func183.trans (congrArg some (by kernel_rfl))
 f267 := Tryz.func168.trans (congrArg some (by kernel_rfl))
 f314 := Tryz.func184.trans (congrArg some (by kernel_rfl))
 t3 := Tryz.underlying3
 a3 := Tryz.isAgg3
 z3 := Tryz.sizeOf3
 v3 := Tryz.zeroValue3
 t4 := Tryz.underlying4
 a4 := Tryz.isAgg4
 z4 := Tryz.sizeOf4
 v4 := Tryz.zeroValue4
 t5 := Tryz.underlying5
 a5 := Tryz.isAgg5
 z5 := Tryz.sizeOf5
 v5 := Tryz.zeroValue5
 t9 := Tryz.underlying9
 a9 := Tryz.isAgg9
 z9 := Tryz.sizeOf9
 v9 := Tryz.zeroValue9
 t46 := Tryz.underlying114
 a46 := Tryz.isAgg114
 z46 := Tryz.sizeOf114
 v46 := Tryz.zeroValue114
 t51 := Tryz.underlying153
 a51 := Tryz.isAgg153
 z51 := Tryz.sizeOf153
 v51 := Tryz.zeroValue153
 t146 := Tryz.underlying204
 a146 := Tryz.isAgg204
 z146 := Tryz.sizeOf204
 v146 := Tryz.zeroValue204
 g1 := by kernel_rfl }
open Go.RowKit Go.Lib in
theorem Tryz.stringslite_Index_one (s : ByteArray) (c : UInt8) (w : World) :
 Calls Tryz.prog 155 #[.string s, .string ⟨#[c]⟩] w fun e w' => e = .returned (.int .i64 (Lib.indexByte s.data.toList c)) ∧ w' = w := Any.stringslite_Index_one Tryz.lays219 s c w
end Go.Proofs
namespace Go.Proofs.YtkpdoedpkncboaaGreat
open Go.RowKit
theorem ins_eq (x y : In13) (w : World) : (binOp .eql 88 (zay x) (zay y)).run Tryz.prog w = .ok (.bool (decide (x = y))) w := by
 obtain ⟨k, R, A, B, nm⟩ := x
 obtain ⟨k2, R2, A2, B2, nm2⟩ := y
 unfold zay
 rw [run_eql_struct]
 simp [go_sem]
 by_cases h1 : k = k2
 ·
  by_cases h2 : R = R2
  ·
   by_cases h3 : A = A2
   ·
    by_cases h4 : B = B2
    ·
     by_cases h5 : nm = nm2
     ·
      simp [h1, h2, h3, h4, h5]
     ·
      simp [h1, h2, h3, h4, h5]
    ·
     simp [h1, h2, h3, h4]
   ·
    simp [h1, h2, h3]
  ·
   simp [h1, h2]
 ·
  simp [h1]
def Tld (f : Nat) (t : In13 → In13) : Prop := ∀ (i : In13) (w : World), Calls Tryz.prog f #[zay i] w fun e w' => e = .returned (zay (t i)) ∧ Below w.heap.size w w'
def Rgs (f : Nat) (rs : In13 → List Int) : Prop := ∀ (i : In13) (w : World), Calls Tryz.prog f #[zay i] w fun e w' => ∃ a c, e = .returned (.slice a (rs i).length c) ∧ AsIn w' a (rs i) ∧ Below w.heap.size w w'
def Rit (f : Nat) (q : In13 → Int → Bool) : Prop := ∀ (i : In13) (n : Int) (w : World), i.2.2.2.2.length ≤ 1048576 → Calls Tryz.prog f #[zay i, .int .i64 n] w fun e w' => e = .returned (.bool (q i n)) ∧ Below w.heap.size w w'
def tlR (i : In13) : In13 := (i.1, i.2.1, 0, 0, [])
def tlA (i : In13) : In13 := (i.1, 0, i.2.2.1, 0, [])
def tlRA (i : In13) : In13 := (i.1, i.2.1, i.2.2.1, 0, [])
def zde (i : In13) : In13 := (i.1, i.2.1, i.2.2.1, i.2.2.2.1, [])
def zhx (i : In13) : In13 := (i.1, i.2.1, i.2.2.1, 0, i.2.2.2.2)
set_option maxHeartbeats 1000000 in
set_option maxRecDepth 100000 in
theorem zjx : Tld 182 tlR := by
 rintro ⟨k, R, A, B, nm⟩ w
 unfold zay tlR
 dsimp only
 go_enter Tryz.func182, Tryz.ntmps182
 go_wp2
 refine bodyPost_ret (v := zay (tlR (k, R, A, B, nm))) (by simp [results, Tryz.results182, go_sem, zay, tlR]) rfl ⟨rfl, ?_⟩
 exact ((Below.refl _ w).alloc (Nat.le_refl _) _).alloc (by simp) _
set_option maxHeartbeats 1000000 in
set_option maxRecDepth 100000 in
theorem zjy : Tld 177 tlA := by
 rintro ⟨k, R, A, B, nm⟩ w
 unfold zay tlA
 dsimp only
 go_enter Tryz.func177, Tryz.ntmps177
 go_wp2
 refine bodyPost_ret (v := zay (tlA (k, R, A, B, nm))) (by simp [results, Tryz.results177, go_sem, zay, tlA]) rfl ⟨rfl, ?_⟩
 exact ((Below.refl _ w).alloc (Nat.le_refl _) _).alloc (by simp) _
set_option maxHeartbeats 1000000 in
set_option maxRecDepth 100000 in
theorem zdo : Tld 172 tlRA := by
 rintro ⟨k, R, A, B, nm⟩ w
 unfold zay tlRA
 dsimp only
 go_enter Tryz.func172, Tryz.ntmps172
 go_wp2
 refine bodyPost_ret (v := zay (tlRA (k, R, A, B, nm))) (by simp [results, Tryz.results172, go_sem, zay, tlRA]) rfl ⟨rfl, ?_⟩
 exact ((Below.refl _ w).alloc (Nat.le_refl _) _).alloc (by simp) _
set_option maxHeartbeats 1000000 in
set_option maxRecDepth 100000 in
theorem zco : Tld 169 zde := by
 rintro ⟨k, R, A, B, nm⟩ w
 unfold zay zde
 dsimp only
 go_enter Tryz.func169, Tryz.ntmps169
 go_wp2
 refine bodyPost_ret (v := zay (zde (k, R, A, B, nm))) (by simp [results, Tryz.results169, go_sem, zay, zde]) rfl ⟨rfl, ?_⟩
 exact ((Below.refl _ w).alloc (Nat.le_refl _) _).alloc (by simp) _
set_option maxHeartbeats 1000000 in
set_option maxRecDepth 100000 in
theorem zeH : Tld 179 zhx := by
 rintro ⟨k, R, A, B, nm⟩ w
 unfold zay zhx
 dsimp only
 go_enter Tryz.func179, Tryz.ntmps179
 go_wp2
 refine bodyPost_ret (v := zay (zhx (k, R, A, B, nm))) (by simp [results, Tryz.results179, go_sem, zay, zhx]) rfl ⟨rfl, ?_⟩
 exact ((Below.refl _ w).alloc (Nat.le_refl _) _).alloc (by simp) _
def rsN (_i : In13) : List Int := []
def rsR (i : In13) : List Int := [i.2.1]
def zcE (i : In13) : List Int := [i.2.1, i.2.2.1, i.2.2.2.1]
def rsC (i : In13) : List Int := [i.2.1, max i.2.1 (wrap64 (wrap64 (i.2.1 + i.2.2.1) - 1))]
theorem ziU (w : World) (xs : List Int) (t : TypeId) : AsIn (w.alloc (.cells (zaF xs).toArray t)) (some ⟨w.heap.size, 0, none⟩) xs := by
 have hA := heap_alloc_new w (.cells (zaF xs).toArray t)
 intro j hj
 refine ⟨_, 0, rfl, by simp, ?_⟩
 rw [cell_of_row _ _ _ _ _ _ hA, Nat.zero_add]
 simp [zaF, List.getD, hj]
set_option maxHeartbeats 1000000 in
set_option maxRecDepth 100000 in
theorem zeI : Rgs 178 rsN := by
 rintro ⟨k, R, A, B, nm⟩ w
 unfold zay
 dsimp only
 have hA := fun W => ziU W (rsN (k, R, A, B, nm)) 2
 unfold rsN at hA ⊢
 (try dsimp only at hA ⊢)
 go_enter Tryz.func178, Tryz.ntmps178
 go_wp2
 go_ret
 refine ⟨_, _, rfl, ?_, ((Below.refl _ w).alloc (Nat.le_refl _) _).alloc (by simp) _⟩
 have h := hA (w.alloc (.cells #[.int .i64 k, .int .i64 R, .int .i64 A, .int .i64 B, .string ⟨nm.toArray⟩] 88))
 simpa [zaF] using h
set_option maxHeartbeats 1000000 in
set_option maxRecDepth 100000 in
theorem zbW : Rgs 173 rsR := by
 rintro ⟨k, R, A, B, nm⟩ w
 unfold zay
 dsimp only
 have hA := fun W => ziU W (rsR (k, R, A, B, nm)) 2
 unfold rsR at hA ⊢
 (try dsimp only at hA ⊢)
 go_enter Tryz.func173, Tryz.ntmps173
 go_wp2
 go_ret
 refine ⟨_, _, rfl, ?_, ((Below.refl _ w).alloc (Nat.le_refl _) _).alloc (by simp) _⟩
 have h := hA (w.alloc (.cells #[.int .i64 k, .int .i64 R, .int .i64 A, .int .i64 B, .string ⟨nm.toArray⟩] 88))
 simpa [zaF] using h
set_option maxHeartbeats 1000000 in
set_option maxRecDepth 100000 in
theorem zbv : Rgs 170 zcE := by
 rintro ⟨k, R, A, B, nm⟩ w
 unfold zay
 dsimp only
 have hA := fun W => ziU W (zcE (k, R, A, B, nm)) 2
 unfold zcE at hA ⊢
 (try dsimp only at hA ⊢)
 go_enter Tryz.func170, Tryz.ntmps170
 go_wp2
 go_ret
 refine ⟨_, _, rfl, ?_, ((Below.refl _ w).alloc (Nat.le_refl _) _).alloc (by simp) _⟩
 have h := hA (w.alloc (.cells #[.int .i64 k, .int .i64 R, .int .i64 A, .int .i64 B, .string ⟨nm.toArray⟩] 88))
 simpa [zaF] using h
set_option maxHeartbeats 1000000 in
set_option maxRecDepth 100000 in
theorem zdf : Rgs 180 rsC := by
 rintro ⟨k, R, A, B, nm⟩ w
 unfold zay
 dsimp only
 have hA := fun W => ziU W (rsC (k, R, A, B, nm)) 2
 unfold rsC at hA ⊢
 (try dsimp only at hA ⊢)
 go_enter Tryz.func180, Tryz.ntmps180
 go_wp2
 go_ret
 refine ⟨_, _, rfl, ?_, ((Below.refl _ w).alloc (Nat.le_refl _) _).alloc (by simp) _⟩
 have h := hA (w.alloc (.cells #[.int .i64 k, .int .i64 R, .int .i64 A, .int .i64 B, .string ⟨nm.toArray⟩] 88))
 simpa [zaF] using h
def rqY (_i : In13) (_n : Int) : Bool := true
def rqW (i : In13) (_n : Int) : Bool := inB i.2.2.1 (-2147483648) 2147483647
def rqA (i : In13) (_n : Int) : Bool := decide (0 ≤ i.2.2.1) && decide (i.2.2.1 ≤ 2)
def rqP (i : In13) (n : Int) : Bool := decide (0 ≤ i.2.2.1) && decide (i.2.2.1 < n)
def rqC (i : In13) (_n : Int) : Bool := decide (0 ≤ i.2.2.1) && decide (i.2.2.1 ≤ 3) && zba i.2.2.2.2
set_option maxHeartbeats 1000000 in
set_option maxRecDepth 100000 in
theorem zbk : Rit 171 rqY := by
 rintro ⟨k, R, A, B, nm⟩ n w _
 unfold zay rqY
 go_enter Tryz.func171, Tryz.ntmps171
 go_wp2
 go_ret
 exact ⟨rfl, (Below.refl _ w).alloc (Nat.le_refl _) _⟩
set_option maxHeartbeats 1000000 in
set_option maxRecDepth 100000 in
theorem zh7 : Rit 174 rqW := by
 rintro ⟨k, R, A, B, nm⟩ n w _
 unfold zay rqW
 dsimp only
 go_enter Tryz.func174, Tryz.ntmps174
 go_wp2_with (go_at_call 159; refine (zb8 _ _).mono ?_; rintro e w' ⟨rfl, rfl⟩)
 go_ret
 exact ⟨rfl, (Below.refl _ w).alloc (Nat.le_refl _) _⟩
set_option maxHeartbeats 1000000 in
set_option maxRecDepth 100000 in
theorem zhX : Rit 175 rqA := by
 rintro ⟨k, R, A, B, nm⟩ n w _
 unfold zay rqA
 dsimp only
 by_cases h1 : 0 ≤ A
 ·
  by_cases h2 : A ≤ 2
  ·
   rw [decide_eq_true h1, decide_eq_true h2]
   go_enter Tryz.func175, Tryz.ntmps175
   go_wp2
   go_ret
   exact ⟨rfl, (Below.refl _ w).alloc (Nat.le_refl _) _⟩
  ·
   rw [decide_eq_true h1, decide_eq_false h2]
   go_enter Tryz.func175, Tryz.ntmps175
   go_wp2
   go_ret
   exact ⟨rfl, (Below.refl _ w).alloc (Nat.le_refl _) _⟩
 ·
  rw [decide_eq_false h1]
  go_enter Tryz.func175, Tryz.ntmps175
  go_wp2
  go_ret
  exact ⟨rfl, (Below.refl _ w).alloc (Nat.le_refl _) _⟩
set_option maxHeartbeats 1000000 in
set_option maxRecDepth 100000 in
theorem zdx : Rit 176 rqP := by
 rintro ⟨k, R, A, B, nm⟩ n w _
 unfold zay rqP
 dsimp only
 by_cases h1 : 0 ≤ A
 ·
  by_cases h2 : A < n
  ·
   rw [decide_eq_true h1, decide_eq_true h2]
   go_enter Tryz.func176, Tryz.ntmps176
   go_wp2
   go_ret
   exact ⟨rfl, (Below.refl _ w).alloc (Nat.le_refl _) _⟩
  ·
   rw [decide_eq_true h1, decide_eq_false h2]
   go_enter Tryz.func176, Tryz.ntmps176
   go_wp2
   go_ret
   exact ⟨rfl, (Below.refl _ w).alloc (Nat.le_refl _) _⟩
 ·
  rw [decide_eq_false h1]
  go_enter Tryz.func176, Tryz.ntmps176
  go_wp2
  go_ret
  exact ⟨rfl, (Below.refl _ w).alloc (Nat.le_refl _) _⟩
set_option maxHeartbeats 1000000 in
set_option maxRecDepth 100000 in
theorem zl4 (l : List UInt8) (b : UInt8) (w : World) (hl : l.length ≤ 1048576) :
 Calls Tryz.prog 131 #[.string ⟨l.toArray⟩, .string ⟨#[b]⟩] w fun e w' => ∃ g, e = .returned (.tuple #[.string ⟨(cutA b l).toArray⟩, .string ⟨(cutB b l).toArray⟩, .bool g]) ∧ Below w.heap.size w w' := by
 have hext := ziK
 have HC : Hid (_) := fun W : World => Tryz.stringslite_Index_one ⟨l.toArray⟩ b W
 rcases cut_at b l with ⟨h1, h2, h3⟩ | ⟨k, h1, hk, h3, h4⟩
 ·
  rw [h2, h3]
  rw [show (⟨l.toArray⟩ : ByteArray).data.toList = l from rfl, h1] at HC
  clear h1 h2 h3
  go_enter Tryz.func131, Tryz.ntmps131
  go_wp2_with (go_at_call 155; refine Calls.mono (HC.out _) ?_; rintro e w' ⟨rfl, rfl⟩)
  go_ret3
  exact ⟨_, rfl, Below.refl _ _⟩
 ·
  rw [h3, h4]
  rw [show (⟨l.toArray⟩ : ByteArray).data.toList = l from rfl, h1] at HC
  have c2 : (k : Int) ≤ (l.length : Int) := by omega
  have c4 : (k : Int) + 1 ≤ (l.length : Int) := by omega
  have c5 : (l.length : Int) ≤ 1048576 := by omega
  have htk : List.take (l.length - (k + 1)) (List.drop (k + 1) l) = List.drop (k + 1) l := List.take_of_length_le (by rw [List.length_drop]; omega)
  clear h1 h3 h4
  go_enter Tryz.func131, Tryz.ntmps131
  go_wp2_with (go_at_call 155; refine Calls.mono (HC.out _) ?_; rintro e w' ⟨rfl, rfl⟩)
  go_quiet (fail)
  go_wp2
  go_ret3
  exact ⟨_, rfl, ⟨rfl, rfl, rfl, Nat.le_refl _, fun _ _ => rfl⟩⟩
set_option maxHeartbeats 1000000 in
set_option maxRecDepth 100000 in
theorem ziQ (l : List UInt8) (b : UInt8) (w : World) (hl : l.length ≤ 1048576) :
 Calls Tryz.prog 88 #[.string ⟨l.toArray⟩, .string ⟨#[b]⟩] w fun e w' => ∃ g, e = .returned (.tuple #[.string ⟨(cutA b l).toArray⟩, .string ⟨(cutB b l).toArray⟩, .bool g]) ∧ Below w.heap.size w w' := by
 have HC : Hid (_) := zl4 l b w hl
 generalize cutA b l = x at HC ⊢
 generalize cutB b l = y at HC ⊢
 go_enter Tryz.func88, Tryz.ntmps88
 go_wp2_with fail
 refine Calls.mono HC.out ?_
 rintro e w1 ⟨g, rfl, hb1⟩
 go_wp2
 go_ret3
 exact ⟨_, rfl, hb1⟩
theorem zhm : ∀ (s : List UInt8), (∀ c ∈ s, c ≠ 46) → s.dropWhile (fun c => c != 46) = []
 | [], _ => rfl
 | c :: r, h => by rw [List.dropWhile_cons, if_pos (bne_iff_ne.2 (h c (by simp)))]; exact zhm r (fun d hd => h d (by simp [hd]))
theorem name_cut (s : List UInt8) : (zak (cutA 46 s) && zak (cutB 46 s)) = zba s := by
 have hno : ∀ {l : List UInt8}, zak l = true → ∀ c ∈ l, c ≠ 46 := fun h c hc e => by
  unfold zak at h
  rw [Bool.and_eq_true, List.all_eq_true] at h
  have := h.2 c hc
  subst e
  simp at this
 have hnil : zak [] = false := by decide
 by_cases hm : (46 : UInt8) ∈ s
 ·
  obtain ⟨x, y, rfl, hx⟩ := List.eq_append_cons_of_mem hm
  have hx2 : ∀ c ∈ x, c ≠ 46 := fun c hc e => hx (e ▸ hc)
  obtain ⟨ea, eb⟩ := cut_one 46 x y hx2
  rw [ea, eb]
  by_cases hy : (46 : UInt8) ∈ y
  ·
   have hny : zak y = false := by
    rcases h : zak y with _ | _
    ·
     rfl
    ·
     exact absurd rfl (hno h 46 hy)
   obtain ⟨y1, y2, rfl, hy1⟩ := List.eq_append_cons_of_mem hy
   have hy2 : ∀ c ∈ y1, c ≠ 46 := fun c hc e => hy1 (e ▸ hc)
   have hs : zaG 46 (x ++ 46 :: (y1 ++ 46 :: y2)) = x :: y1 :: zau 46 [] y2 := by
    unfold zaG
    rw [zds 46 x _ [] hx2, zds 46 y1 y2 [] hy2]
    rfl
   have hne := zdI 46 y2 []
   unfold zba
   rw [hs, hny, Bool.and_false]
   have : ((x :: y1 :: zau 46 [] y2).length == 2) = false := by
    rcases hq : zau 46 [] y2 with _ | _
    ·
     exact absurd hq hne
    ·
     simp
   rw [this]
   rfl
  ·
   have hy2 : ∀ c ∈ y, c ≠ 46 := fun c hc e => hy (e ▸ hc)
   have hs : zaG 46 (x ++ 46 :: y) = [x, y] := by
    unfold zaG
    rw [zds 46 x y [] hx2, zdH 46 y [] hy2]
    rfl
   unfold zba
   rw [hs]
   simp
 ·
  have h2 : ∀ c ∈ s, c ≠ 46 := fun c hc e => hm (e ▸ hc)
  have hb : cutB 46 s = [] := by
   unfold cutB
   rw [zhm s h2]
   rfl
  have hs : zaG 46 s = [s] := by
   unfold zaG
   rw [zdH 46 s [] h2]
   rfl
  rw [hb, hnil, Bool.and_false]
  unfold zba
  rw [hs]
  rfl
set_option maxHeartbeats 1000000 in
set_option maxRecDepth 100000 in
theorem zh8 (s : List UInt8) (w : World) (hl : s.length ≤ 1048576) :
 Calls Tryz.prog 128 #[.string ⟨s.toArray⟩] w fun e w' => e = .returned (.bool (zba s)) ∧ Below w.heap.size w w' := by
 rw [← name_cut]
 have HC : Hid (_) := ziQ s 46 w hl
 have h1 := cutA_len 46 s
 have h2 := cutB_len 46 s
 generalize cutA 46 s = x at HC h1 ⊢
 generalize cutB 46 s = y at HC h2 ⊢
 have HX : Hid (_) := fun W : World => zdR x W (by omega)
 have HY : Hid (_) := fun W : World => zdR y W (by omega)
 generalize zak y = by2 at HY ⊢
 generalize zak x = bx at HX ⊢
 cases bx
 ·
  go_enter Tryz.func128, Tryz.ntmps128
  go_wp2_with fail
  refine Calls.mono HC.out ?_
  rintro e w1 ⟨g, rfl, hb1⟩
  go_wp2_with fail
  refine Calls.mono (HX.out _) ?_
  rintro e w2 ⟨rfl, hb2⟩
  go_wp2
  go_ret
  exact ⟨rfl, hb1.trans (hb2.mono hb1.size)⟩
 ·
  go_enter Tryz.func128, Tryz.ntmps128
  go_wp2_with fail
  refine Calls.mono HC.out ?_
  rintro e w1 ⟨g, rfl, hb1⟩
  go_wp2_with fail
  refine Calls.mono (HX.out _) ?_
  rintro e w2 ⟨rfl, hb2⟩
  go_wp2_with fail
  refine Calls.mono (HY.out _) ?_
  rintro e w3 ⟨rfl, hb3⟩
  have hB2 := hb1.trans (hb2.mono hb1.size)
  go_wp2
  go_ret
  exact ⟨rfl, hB2.trans (hb3.mono hB2.size)⟩
set_option maxHeartbeats 1000000 in
set_option maxRecDepth 100000 in
theorem zdQ : Rit 181 rqC := by
 rintro ⟨k, R, A, B, nm⟩ n w hl
 unfold zay rqC
 dsimp only at hl ⊢
 by_cases h1 : 0 ≤ A
 ·
  by_cases h2 : A ≤ 3
  ·
   rw [decide_eq_true h1, decide_eq_true h2]
   have HC : Hid (_) := fun W : World => zh8 nm W hl
   generalize zba nm = bn at HC ⊢
   go_enter Tryz.func181, Tryz.ntmps181
   go_wp2_with fail
   refine Calls.mono (HC.out _) ?_
   rintro e w2 ⟨rfl, hb2⟩
   go_wp2
   go_ret
   have hb1 : Below w.heap.size w _ := (Below.refl _ w).alloc (Nat.le_refl _) (.cells #[.int .i64 k, .int .i64 R, .int .i64 A, .int .i64 B, .string ⟨nm.toArray⟩] 88)
   exact ⟨rfl, hb1.trans (hb2.mono hb1.size)⟩
  ·
   rw [decide_eq_true h1, decide_eq_false h2]
   go_enter Tryz.func181, Tryz.ntmps181
   go_wp2
   go_ret
   exact ⟨rfl, (Below.refl _ w).alloc (Nat.le_refl _) _⟩
 ·
  rw [decide_eq_false h1]
  go_enter Tryz.func181, Tryz.ntmps181
  go_wp2
  go_ret
  exact ⟨rfl, (Below.refl _ w).alloc (Nat.le_refl _) _⟩
def regB (rs : List Int) : Bool := rs.all (fun r => inB r 0 63)
theorem zkw (rs : List Int) (j : Nat) (hj : j < rs.length) : regB (rs.take (j + 1)) = (regB (rs.take j) && inB (rs.getD j 0) 0 63) := by
 have hg : rs.getD j 0 = rs[j] := by simp [List.getD, hj]
 rw [hg, List.take_succ_eq_append_getElem hj]
 unfold regB
 rw [List.all_append]
 simp
theorem regB_no {rs : List Int} {j : Nat} (hj : j < rs.length) (h : inB (rs.getD j 0) 0 63 = false) : regB rs = false := by
 have hg : rs.getD j 0 = rs[j] := by simp [List.getD, hj]
 rcases hb : regB rs with _ | _
 ·
  rfl
 ·
  have := List.all_eq_true.1 hb rs[j] (List.getElem_mem hj)
  rw [← hg, h] at this
  cases this
set_option maxHeartbeats 1000000 in
set_option maxRecDepth 100000 in
theorem zeJ (a : Option Addr) (n c : Nat) (rs : List Int) (w : World) (hn : rs.length = n) (hin : AsIn w a rs) (hnl : n ≤ 1048576) :
 Calls Tryz.prog 164 #[.slice a n c] w fun e w' => e = .returned (.bool (regB rs)) ∧ w' = w := by
 have HIn : Hid (AsIn w a rs) := hin
 have HN : Hid (rs.length = n) := hn
 clear hin hn
 go_enter Tryz.func164, Tryz.ntmps164
 go_wp2
 go_loop [4, 7] (fun _ jv => ∃ j : Nat, jv = .int .i64 (j : Int) ∧ j ≤ n ∧ Hid (regB (rs.take j) = true)) (fun _ jv => n - (intOf jv).toNat)
 case atStart => exact ⟨0, rfl, Nat.zero_le _, rfl⟩
 case round =>
  obtain ⟨j, rfl, hj, st⟩ := hrel
  by_cases hlt : (j : Int) < (n : Int)
  ·
   obtain ⟨b, off, rfl, hbl, hc⟩ := HIn.out j (by rw [HN.out]; omega)
   have HS : Hid (_) := zkw rs j (by rw [HN.out]; omega)
   have HO : Hid (inB (rs.getD j 0) 0 63 = false → regB rs = false) := fun h => regB_no (by rw [HN.out]; omega) h
   rw [st.out, Bool.true_and] at HS
   generalize rs.getD j 0 = r at hc HS HO
   by_cases h1 : r < 0
   ·
    have HF : Hid (regB rs = false) := HO.out (zbL _ _ _ (Or.inl (by omega)))
    clear HS HO
    go_wp2
    go_ret
    exact ⟨by rw [HF.out]; rfl, rfl⟩
   ·
    by_cases h2 : 63 < r
    ·
     have HF : Hid (regB rs = false) := HO.out (zbL _ _ _ (Or.inr (by omega)))
     clear HS HO
     go_wp2
     go_ret
     exact ⟨by rw [HF.out]; rfl, rfl⟩
    ·
     have HF : Hid (regB (rs.take (j + 1)) = true) := by exact (by rw [HS.out]; exact zc7 _ _ _ (by omega) (by omega) : regB (rs.take (j + 1)) = true)
     clear HS HO
     go_wp2
     go_round
     case rel => exact ⟨j + 1, by go_num, by omega, HF⟩
     case measure => simp [intOf]; omega
  ·
   have HE : Hid (regB rs = true) := by
    have h := st.out
    rw [List.take_of_length_le (by rw [HN.out]; omega)] at h
    exact h
   go_wp2
   go_ret
   exact ⟨by rw [HE.out]; rfl, rfl⟩
def nvL (k : Nat) : List Value := (List.range 60).map fun j => .bool (decide (j < k))
def nv (k : Nat) : Array Value := (nvL k).toArray
theorem zbp (k : Nat) : (nvL k).length = 60 := by simp [nvL]
theorem zdN (k : Nat) : (nv k).size = 60 := by simp [nv, zbp]
theorem zkL (k j : Nat) (h : j < 60) : (nvL k)[j]? = some (.bool (decide (j < k))) := by simp [nvL, h]
theorem zkJ (k j : Nat) (h : j < 60) : (nv k)[j]? = some (.bool (decide (j < k))) := by simp [nv, zkL k j h]
theorem zkK (k : Nat) : ∀ v ∈ nvL k, v.oneCell' = true := by
 intro v hv
 obtain ⟨j, _, rfl⟩ := List.mem_map.1 hv
 rfl
theorem zhL {a b : Nat} (h : ∀ j, j < 60 → (j < a ↔ j < b)) : nvL a = nvL b := by
 unfold nvL
 refine List.map_congr_left (fun j hj => ?_)
 rw [decide_eq_decide.2 (h j (List.mem_range.1 hj))]
theorem nv_ext {a b : Nat} (h : ∀ j, j < 60 → (j < a ↔ j < b)) : nv a = nv b := by unfold nv; rw [zhL h]
theorem nv_inj {a b : Nat} (ha : a ≤ 60) (hb : b ≤ 60) (h : nv a = nv b) : a = b := by
 have key : ∀ j, j < 60 → (j < a ↔ j < b) := fun j hj => by
  have h1 := zkJ a j hj
  rw [h, zkJ b j hj] at h1
  injection h1 with h1
  injection h1 with h1
  exact decide_eq_decide.1 h1.symm
 rcases Nat.lt_trichotomy a b with hl | he | hl
 ·
  have := (key a (by omega)).2 hl; omega
 ·
  exact he
 ·
  have := (key b (by omega)).1 hl; omega
theorem info55 : (Tryz.prog.info? 138).map (fun i => (i.zero, i.size, i.bytes)) = some (some (.agg (nv 0)), 60, 60) := by kernel_rfl
theorem zik : (Tryz.prog.info? 138).map (·.size) = some 60 := by kernel_rfl
structure Nb (X : World) (b o k : Nat) : Prop where
 cs : X.rangeAt b o (nvL k)
 ok : X.there b o 60
section
variable {X Y : World} {b o k : Nat}
theorem Nb.cell (h : Nb X b o k) (j : Nat) (hj : j < 60) : X.cell? ⟨b, o + j, none⟩ = some (.bool (decide (j < k))) := h.cs j _ (zkL k j hj)
theorem Nb.lt (h : Nb X b o k) : b < X.heap.size := World.block_lt_of_cell? X _ (h.cell 0 (by omega))
theorem Nb.keep (h : Nb X b o k) (hb : Y.heap[b]? = X.heap[b]?) : Nb Y b o k :=
 ⟨fun j v hv => (World.cell?_of_block (a := ⟨b, o + j, none⟩) hb).trans (h.cs j v hv), fun j hj => by rw [World.cell?_of_block (a := ⟨b, o + j, none⟩) hb, World.frozen?_of_block (a := ⟨b, o + j, none⟩) hb]; exact h.ok j hj⟩
theorem Nb.kept {row : Option Nat} (h : Nb X b o k) (hg : X.grownBy Y row) (hne : some b ≠ row) : Nb Y b o k := h.keep (hg.block b h.lt hne)
theorem Nb.below (h : Nb X b o k) (hb : Below X.heap.size X Y) : Nb Y b o k := h.kept (row := none) (Below.by hb) (by simp)
theorem Nb.new (w : World) (k : Nat) (t : TypeId) : Nb (w.alloc (.cells (nv k) t)) w.heap.size 0 k := by
 have hA := heap_alloc_new w (.cells (nv k) t)
 refine ⟨fun j v hv => ?_, fun j hj => ?_⟩
 ·
  rw [cell_of_row _ _ _ _ _ _ hA]
  simpa [nv] using hv
 ·
  rw [cell_of_row _ _ _ _ _ _ hA, frozen_of_row _ _ _ _ _ hA, Nat.zero_add, zkJ k j hj]
  exact ⟨rfl, rfl⟩
theorem Nb.set (h : Nb X b o k) (i m : Nat) (v : Bool) (hi : i < 60) (hm : ∀ j, j < 60 → (j < m ↔ (if j = i then v = true else j < k))) : Nb (X.setCell ⟨b, o + i, none⟩ (.bool v)) b o m := by
 refine ⟨fun j u hu => ?_, fun j hj => ?_⟩
 ·
  have hj : j < 60 := by have := (List.getElem?_eq_some_iff.1 hu).1; rw [zbp] at this; exact this
  rw [zkL m j hj] at hu
  injection hu with hu
  subst hu
  have h1 := hm j hj
  by_cases e : j = i
  ·
   subst e
   rw [World.cell?_setCell_same _ _ _ (h.cell j hj)]
   rw [if_pos rfl] at h1
   cases v <;> simp_all
  ·
   rw [World.cell?_setCell_other _ _ _ _ (fun e2 => by injection e2 with _ e2 _; omega), h.cell j hj]
   rw [if_neg e] at h1
   rw [decide_eq_decide.2 h1]
 ·
  rw [World.frozen?_setCell]
  refine ⟨?_, (h.ok j hj).2⟩
  by_cases e : j = i
  ·
   subst e
   rw [World.cell?_setCell_same _ _ _ (h.cell j hj)]; rfl
  ·
   rw [World.cell?_setCell_other _ _ _ _ (fun e2 => by injection e2 with _ e2 _; omega)]; exact (h.ok j hj).1
theorem Nb.store (h : X.there b o 60) (k : Nat) : Nb (X.setCells b o (nvL k)) b o k :=
 ⟨World.rangeAt_setCells_same X b o (nvL k) (by rw [zbp]; exact h), World.there_setCells h b o _⟩
end
theorem zbs (b : Nat) : ∀ (vs : List Value) (o : Nat) (w : World), w.grownBy (w.setCells b o vs) (some b)
 | [], _, w => World.grownBy.refl w _
 | v :: r, o, w => by
  rw [World.setCells]
  exact (zaC w b o v).trans (zbs b r (o + 1) _)
section
variable {ops : Array Oper} {rest : List Oper} {op : Oper} {a : Act} {w : World} {Q : Exit → Act → World → Prop} {K : Act → World → Prop}
theorem zj7 (w : World) : (zeroValue 138).run Tryz.prog w = .ok (.agg (nv 0)) w := Tryz.zeroValue138 w
theorem zhw (ho : op.op = .alloc 138) (h : ∀ Y g, Nb Y g 0 0 → Below w.heap.size w Y → w.heap.size ≤ g → K (a.put op.dst (.pointer (some ⟨g, 0, none⟩))) Y) : op.wp Tryz.prog a w K Q := by
 unfold Oper.wp execOp
 simp only [ho, Instr.alloc, Sem.run_bind, zj7, Result.andThen_ok, newVar, newRow, run_newObj_alloc, Sem.run_pure, Value.cells]
 exact h _ _ (Nb.new w 0 _) ((Below.refl _ _).alloc (Nat.le_refl _) _) (Nat.le_refl _)
theorem zaP (hgd : op.guard = none) (ho : op.op = .alloc 138) (d : Nat) (hd : op.dst = some d) (h : ∀ Y g, Nb Y g 0 0 → Below w.heap.size w Y → w.heap.size ≤ g → wpList Tryz.prog ops Q rest (a.put (some d) (.pointer (some ⟨g, 0, none⟩))) Y) : wpList Tryz.prog ops Q (op :: rest) a w :=
 wpList_plain hgd fun _ hK => zhw ho (fun Y g h1 h2 h3 => by rw [hd]; exact hK _ _ (h Y g h1 h2 h3))
theorem zbg (hgd : op.guard = none) (x : Operand) (ho : op.op = .box 138 x) (d : Nat) (hd : op.dst = some d) (k : Nat) (hx : a.eval x = .agg (nv k)) (h : ∀ Y g, Nb Y g 0 k → Below w.heap.size w Y → w.heap.size ≤ g → wpList Tryz.prog ops Q rest (a.put (some d) (.pointer (some ⟨g, 0, none⟩))) Y) : wpList Tryz.prog ops Q (op :: rest) a w := by
 refine wpList_plain hgd fun K hK => ?_
 unfold Oper.wp execOp
 simp only [ho, hx, Sem.run_bind, Instr.box, newVar, newRow, run_newObj_alloc, Sem.run_pure, Result.andThen_ok, Value.cells]
 have := hK (a.put (some d) _) _ (h _ _ (Nb.new w k 138) ((Below.refl _ _).alloc (Nat.le_refl _) _) (Nat.le_refl _))
 rw [← hd] at this
 exact this
theorem ziW (x : Operand) (ho : op.op = .load 138 x) (b o k : Nat) (hx : a.eval x = .pointer (some ⟨b, o, none⟩)) (hc : w.rangeAt b o (nvL k)) (h : K (a.put op.dst (.agg (nv k))) w) : op.wp Tryz.prog a w K Q :=
 wp_load_mid _ x ho b o hx (nvL k) _ hc Tryz.underlying138 rfl (by rw [zbp]; exact zik) h
theorem zax (hgd : op.guard = none) (x : Operand) (ho : op.op = .load 138 x) (d : Nat) (hd : op.dst = some d) (b o k : Nat) (hx : a.eval x = .pointer (some ⟨b, o, none⟩)) (hc : w.rangeAt b o (nvL k)) (h : wpList Tryz.prog ops Q rest (a.put (some d) (.agg (nv k))) w) : wpList Tryz.prog ops Q (op :: rest) a w :=
 wpList_plain hgd fun _ hK => ziW x ho b o k hx hc (by rw [hd]; exact hK _ _ h)
theorem zaH {S : World → Prop} (hw : Region.wanted op (yielded ops a.tmps) = true) (x : Operand) (ho : op.op = .load 138 x) (b o k : Nat) (hx : a.eval x = .pointer (some ⟨b, o, none⟩)) (hc : ∀ v, S v → v.rangeAt b o (nvL k)) : YieldsIf Tryz.prog ops S op (.agg (nv k)) a :=
 yieldsIf_load_mid hw _ x ho b o hx (nvL k) _ hc Tryz.underlying138 rfl (by rw [zbp]; exact zik)
theorem zcC (x y : Operand) (ho : op.op = .store 138 x y) (b o k : Nat) (hx : a.eval x = .pointer (some ⟨b, o, none⟩)) (hy : a.eval y = .agg (nv k)) (ht : w.there b o 60)
 (h : ∀ Y, Nb Y b o k → w.grownBy Y (some b) → Y = w.setCells b o (nvL k) → K (a.put op.dst undef) Y) : op.wp Tryz.prog a w K Q := by
 refine wp_store_mid _ x y ho b o (nv k) hx hy (by rw [zdN]; exact ht) (by rw [zdN]; exact zik) (all_oneCell_toArray (zkK k)) ?_
 exact h _ (Nb.store ht k) (zbs b _ o w) rfl
theorem zaO (hgd : op.guard = none) (x y : Operand) (ho : op.op = .store 138 x y) (b o k : Nat) (hx : a.eval x = .pointer (some ⟨b, o, none⟩)) (hy : a.eval y = .agg (nv k)) (ht : w.there b o 60)
 (h : ∀ Y, Nb Y b o k → w.grownBy Y (some b) → wpList Tryz.prog ops Q rest (a.put op.dst undef) Y) : wpList Tryz.prog ops Q (op :: rest) a w :=
 wpList_plain hgd fun _ hK => zcC x y ho b o k hx hy ht (fun Y h1 h2 _ => hK _ _ (h Y h1 h2))
theorem zjO : Tryz.prog.built 138 [] = some (nv 0) := by kernel_rfl
theorem zm6 : Tryz.prog.built 138 [(0, .bool true)] = some (nv 1) := by kernel_rfl
theorem zgk (hgd : op.guard = none) (ho : op.op = .build 138 #[]) (h : wpList Tryz.prog ops Q rest (a.put op.dst (.agg (nv 0))) w) : wpList Tryz.prog ops Q (op :: rest) a w :=
 wpList_buildTo hgd _ _ ho _ rfl (nv 0) (by simp only [List.map_toArray, List.map_nil]; exact zjO) h
theorem zfw (hgd : op.guard = none) (ho : op.op = .build 138 #[(0, .const (.bool true))]) (h : wpList Tryz.prog ops Q rest (a.put op.dst (.agg (nv 1))) w) : wpList Tryz.prog ops Q (op :: rest) a w :=
 wpList_buildTo hgd _ _ ho _ rfl (nv 1) (by simp only [List.map_toArray, List.map_cons, List.map_nil]; exact zm6) h
end
theorem zcb {fn : Func} {p : Tmp} (h : fn.results = #[.cell p 138]) (tmps : Array Value) (w : World) (b k : Nat) (hp : tmps.getD p undef = .pointer (some ⟨b, 0, none⟩)) (hc : w.rangeAt b 0 (nvL k)) : (results fn tmps).run Tryz.prog w = .ok (.agg (nv k)) w := by
 have hp' : tmps[p]?.getD undef = .pointer (some ⟨b, 0, none⟩) := by simpa using hp
 have hl := run_loadVar_mid (P := Tryz.prog) w b 0 138 (nvL k) _ hc Tryz.underlying138 rfl (by rw [zbp]; exact zik)
 simp [results, h, hp', asAddr, hl, nv]
theorem zfp (d x y : Nat) (hx : x ≤ 60) (hy : y ≤ 60) (w : World) : (Op.equalIn (d + 2) 138 (.agg (nv x)) (.agg (nv y))).run Tryz.prog w = .ok (decide (x = y)) w := by
 have key : ((List.range 60).all fun i => (decide (i < x)) == (decide (i < y))) = decide (x = y) := by
  by_cases e : x = y
  ·
   subst e; simp
  ·
   have : ¬ (∀ j, j < 60 → (j < x ↔ j < y)) := fun h => e (nv_inj hx hy (nv_ext h))
   rw [decide_eq_false e]
   rw [Bool.eq_false_iff]
   intro hall
   refine this (fun j hj => ?_)
   have := List.all_eq_true.1 hall j (List.mem_range.2 hj)
   simpa using this
 rw [← key, List.range_eq_range', Op.equalIn]
 simp only [Sem.run_bind, run_underlying Tryz.underlying138, Result.andThen_ok, Tryz.sizeOf4, Std.Legacy.Range.forIn_eq_forIn_range', Std.Legacy.Range.size, Nat.sub_zero, Nat.add_sub_cancel, Nat.div_one]
 have hl : ∀ i ∈ List.range' 0 60 1, i < 60 := fun i hi => by simpa using (List.mem_range'_1.1 hi).2
 generalize List.range' 0 60 1 = l at hl ⊢
 induction l with
 | nil => simp
 | cons i l ih =>
  have hi : i < 60 := hl i (by simp)
  have hp : ∀ k, (part 4 (nv k) (i * 1)).run Tryz.prog w = .ok (.bool (decide (i < k))) w := fun k => by
   simp [part, isAgg, run_underlying Tryz.underlying4, zkJ k i hi]
  have pe : (Op.equalIn (d + 1) 4 (.bool (decide (i < x))) (.bool (decide (i < y)))).run Tryz.prog w = .ok (decide (i < x) == decide (i < y)) w := by
   rw [Op.equalIn]
   simp only [Sem.run_bind, run_underlying Tryz.underlying4, Result.andThen_ok, Sem.run_pure]
  simp only [List.forIn_cons, Sem.run_bind, hp, pe, Result.andThen_ok, List.all_cons]
  cases hb : (decide (i < x) == decide (i < y))
  ·
   simp
  ·
   simp only [Bool.not_true, Bool.false_eq_true, if_false, Sem.run_pure, Result.andThen_ok, Bool.true_and]
   exact ih fun j hj => hl j (by simp [hj])
theorem zfK (x y : Nat) (hx : x ≤ 60) (hy : y ≤ 60) (w : World) : (binOp .eql 138 (.agg (nv x)) (.agg (nv y))).run Tryz.prog w = .ok (.bool (decide (x = y))) w := by
 rw [run_eql_struct, zfp 9998 x y hx hy w]
 rfl
def fv (f : Nat) : Value := .func (.func f) #[] #[]
def st13 (k : Nat) : List Value :=
 if k = 1 then [fv 172, fv 173, fv 174]
 else if k = 2 then [fv 172, fv 173, fv 175]
 else if k = 3 ∨ k = 4 ∨ k = 5 ∨ k = 6 then [fv 169, fv 170, fv 171]
 else if k = 7 then [fv 172, fv 173, fv 176]
 else if k = 8 then [fv 177, fv 178, fv 176]
 else if k = 9 then [fv 179, fv 180, fv 181]
 else if k = 10 then [fv 182, fv 173, fv 171]
 else [.nilFunc, .nilFunc, .nilFunc]
def tbL : List Value := (List.range 11).flatMap st13
def tb : Array Value := tbL.toArray
def tz : Array Value := (List.replicate 33 Value.nilFunc).toArray
theorem zhz : tbL.length = 33 := by decide +kernel
theorem tbL_one : ∀ v ∈ tbL, v.oneCell' = true := by
 intro v hv
 have h : tbL.all (fun v => v.oneCell') = true := by kernel_rfl
 exact List.all_eq_true.1 h v hv
structure Rb (X : World) (b o : Nat) (vs : List Value) : Prop where
 cs : X.rangeAt b o vs
 ok : X.there b o vs.length
 lt : b < X.heap.size
section
variable {X Y : World} {b o : Nat} {vs : List Value}
theorem Rb.keep (h : Rb X b o vs) (hb : Y.heap[b]? = X.heap[b]?) (hs : X.heap.size ≤ Y.heap.size) : Rb Y b o vs :=
 ⟨fun j v hv => (World.cell?_of_block (a := ⟨b, o + j, none⟩) hb).trans (h.cs j v hv), fun j hj => by rw [World.cell?_of_block (a := ⟨b, o + j, none⟩) hb, World.frozen?_of_block (a := ⟨b, o + j, none⟩) hb]; exact h.ok j hj, Nat.lt_of_lt_of_le h.lt hs⟩
theorem Rb.below (h : Rb X b o vs) (hb : Below X.heap.size X Y) : Rb Y b o vs := h.keep (hb.block b h.lt) hb.size
theorem Rb.kept {row : Option Nat} (h : Rb X b o vs) (hg : X.grownBy Y row) (hne : some b ≠ row) : Rb Y b o vs := h.keep (hg.block b h.lt hne) hg.size
theorem Rb.cell (h : Rb X b o vs) (j : Nat) (v : Value) (hv : vs[j]? = some v) : X.cell? ⟨b, o + j, none⟩ = some v := h.cs j v hv
theorem Rb.new (w : World) (vs : Array Value) (t : TypeId) : Rb (w.alloc (.cells vs t)) w.heap.size 0 vs.toList := by
 have hA := heap_alloc_new w (.cells vs t)
 refine ⟨fun j v hv => ?_, fun j hj => ?_, by simp⟩
 ·
  rw [cell_of_row _ _ _ _ _ _ hA, Nat.zero_add]
  simpa using hv
 ·
  rw [cell_of_row _ _ _ _ _ _ hA, frozen_of_row _ _ _ _ _ hA, Nat.zero_add]
  refine ⟨?_, rfl⟩
  have : j < vs.size := by simpa using hj
  simp [this]
theorem Rb.store (h : X.there b o vs.length) (hl : b < X.heap.size) : Rb (X.setCells b o vs) b o vs :=
 ⟨World.rangeAt_setCells_same X b o vs h, World.there_setCells h b o _, by have := (zbs b vs o X).size; omega⟩
end
section
variable {ops : Array Oper} {rest : List Oper} {op : Oper} {a : Act} {w : World} {Q : Exit → Act → World → Prop} {K : Act → World → Prop}
theorem zj6 (w : World) : (zeroValue 199).run Tryz.prog w = .ok (.agg tz) w := Tryz.zeroValue199 w
theorem size85 : (Tryz.prog.info? 199).map (·.size) = some 33 := by kernel_rfl
theorem zhv (ho : op.op = .alloc 199) (h : ∀ Y g, Rb Y g 0 tz.toList → Below w.heap.size w Y → w.heap.size ≤ g → K (a.put op.dst (.pointer (some ⟨g, 0, none⟩))) Y) : op.wp Tryz.prog a w K Q := by
 unfold Oper.wp execOp
 simp only [ho, Instr.alloc, Sem.run_bind, zj6, Result.andThen_ok, newVar, newRow, run_newObj_alloc, Sem.run_pure, Value.cells]
 exact h _ _ (Rb.new w tz _) ((Below.refl _ _).alloc (Nat.le_refl _) _) (Nat.le_refl _)
theorem zgl (hgd : op.guard = none) (ho : op.op = .alloc 199) (d : Nat) (hd : op.dst = some d) (h : ∀ Y g, Rb Y g 0 tz.toList → Below w.heap.size w Y → w.heap.size ≤ g → wpList Tryz.prog ops Q rest (a.put (some d) (.pointer (some ⟨g, 0, none⟩))) Y) : wpList Tryz.prog ops Q (op :: rest) a w :=
 wpList_plain hgd fun _ hK => zhv ho (fun Y g h1 h2 h3 => by rw [hd]; exact hK _ _ (h Y g h1 h2 h3))
theorem tz_len : tz.toList.length = 33 := by simp [tz]
theorem zhu (x y : Operand) (ho : op.op = .store 199 x y) (b : Nat) (hx : a.eval x = .pointer (some ⟨b, 0, none⟩)) (hy : a.eval y = .agg tb) (ht : Rb w b 0 tz.toList)
 (h : ∀ Y, Rb Y b 0 tbL → w.grownBy Y (some b) → K (a.put op.dst undef) Y) : op.wp Tryz.prog a w K Q := by
 have hth : w.there b 0 33 := by have := ht.ok; rw [tz_len] at this; exact this
 have hsz : tb.size = 33 := zhz
 refine wp_store_mid _ x y ho b 0 tb hx hy (by rw [hsz]; exact hth) (by rw [hsz]; exact size85) (all_oneCell_toArray tbL_one) ?_
 exact h _ (Rb.store (vs := tbL) (by rw [zhz]; exact hth) ht.lt) (zbs b _ 0 w)
theorem zgj (hgd : op.guard = none) (x y : Operand) (ho : op.op = .store 199 x y) (b : Nat) (hx : a.eval x = .pointer (some ⟨b, 0, none⟩)) (hy : a.eval y = .agg tb) (ht : Rb w b 0 tz.toList)
 (h : ∀ Y, Rb Y b 0 tbL → w.grownBy Y (some b) → wpList Tryz.prog ops Q rest (a.put op.dst undef) Y) : wpList Tryz.prog ops Q (op :: rest) a w :=
 wpList_plain hgd fun _ hK => zhu x y ho b hx hy ht (fun Y h1 h2 => hK _ _ (h Y h1 h2))
theorem zj9 {fn : Func} {p : Tmp} (h : fn.results = #[.cell p 199]) (tmps : Array Value) (w : World) (b : Nat) (hp : tmps.getD p undef = .pointer (some ⟨b, 0, none⟩)) (hc : w.rangeAt b 0 tbL) : (results fn tmps).run Tryz.prog w = .ok (.agg tb) w := by
 have hp' : tmps[p]?.getD undef = .pointer (some ⟨b, 0, none⟩) := by simpa using hp
 have hl := run_loadVar_mid (P := Tryz.prog) w b 0 199 tbL _ hc Tryz.underlying199 rfl (by rw [zhz]; exact size85)
 simp [results, h, hp', asAddr, hl, tb]
theorem built_tb : Tryz.prog.built 199 [(1, .agg (st13 1).toArray), (2, .agg (st13 2).toArray), (3, .agg (st13 3).toArray), (4, .agg (st13 4).toArray), (5, .agg (st13 5).toArray), (6, .agg (st13 6).toArray), (7, .agg (st13 7).toArray), (8, .agg (st13 8).toArray), (9, .agg (st13 9).toArray), (10, .agg (st13 10).toArray)] = some tb := by kernel_rfl
end
theorem zlq (W : World) : (Instr.index 199 (.agg tb) (.int .i64 1)).run Tryz.prog W = .ok (.agg #[fv 172, fv 173, fv 174]) W := by kernel_rfl
theorem zlp (W : World) : (Instr.index 199 (.agg tb) (.int .i64 2)).run Tryz.prog W = .ok (.agg #[fv 172, fv 173, fv 175]) W := by kernel_rfl
theorem zlo (W : World) : (Instr.index 199 (.agg tb) (.int .i64 3)).run Tryz.prog W = .ok (.agg #[fv 169, fv 170, fv 171]) W := by kernel_rfl
theorem zln (W : World) : (Instr.index 199 (.agg tb) (.int .i64 4)).run Tryz.prog W = .ok (.agg #[fv 169, fv 170, fv 171]) W := by kernel_rfl
theorem zlm (W : World) : (Instr.index 199 (.agg tb) (.int .i64 5)).run Tryz.prog W = .ok (.agg #[fv 169, fv 170, fv 171]) W := by kernel_rfl
theorem zll (W : World) : (Instr.index 199 (.agg tb) (.int .i64 6)).run Tryz.prog W = .ok (.agg #[fv 169, fv 170, fv 171]) W := by kernel_rfl
theorem zlk (W : World) : (Instr.index 199 (.agg tb) (.int .i64 7)).run Tryz.prog W = .ok (.agg #[fv 172, fv 173, fv 176]) W := by kernel_rfl
theorem zlj (W : World) : (Instr.index 199 (.agg tb) (.int .i64 8)).run Tryz.prog W = .ok (.agg #[fv 177, fv 178, fv 176]) W := by kernel_rfl
theorem zli (W : World) : (Instr.index 199 (.agg tb) (.int .i64 9)).run Tryz.prog W = .ok (.agg #[fv 179, fv 180, fv 181]) W := by kernel_rfl
theorem zjw (W : World) : (Instr.index 199 (.agg tb) (.int .i64 10)).run Tryz.prog W = .ok (.agg #[fv 182, fv 173, fv 171]) W := by kernel_rfl
set_option maxHeartbeats 4000000 in
set_option maxRecDepth 100000 in
theorem zls (w : World) : Calls Tryz.prog 163 #[] w fun e w' => e = .returned (.agg tb) ∧ Below w.heap.size w w' := by
 go_enter Tryz.func163, Tryz.ntmps163
 go_wp2_with (guard_target = wpList _ _ _ _ _ _; first | (refine zgl rfl rfl 0 rfl (fun Y1 g1 hN1 hB1 hG1 => ?_)) | (refine wpList_buildTo rfl _ _ (op := ⟨some 13, _, _, _, _, _⟩) rfl _ rfl tb (by exact built_tb) ?_) | (refine zgj rfl _ _ rfl g1 rfl rfl ?_ (fun Y2 hN2 hG2 => ?_)))
 ·
  exact hN1.below ((Below.refl _ _).alloc (Nat.le_refl _) _)
 ·
  have hb2 : Below w.heap.size w (Y1.alloc (.cells #[fv 169, fv 170, fv 171] 198)) := hB1.alloc hB1.size _
  refine bodyPost_ret (v := .agg tb) (zj9 Tryz.results163 _ _ g1 rfl hN2.cs) rfl ⟨rfl, ?_⟩
  exact hb2.grown hG2 hb2.size (fun q e => by injection e with e; omega)
structure Co13 (w X : World) (base : Nat) (v0 v : Value) (xs : List In13) : Prop where
 row : X.ownsRow base 88 5 v xs.length (insV xs)
 g : w.grownBy X v0.ownBlock
 loc : v.ownBlock = v0.ownBlock ∨ ∃ k, v.ownBlock = some k ∧ w.heap.size ≤ k
 lh : base ≤ w.heap.size
section
variable {w X Y : World} {base : Nat} {v0 v u : Value} {xs ys : List In13}
theorem Co13.new (h : w.ownsRow base 88 5 v xs.length (insV xs)) (hb : base ≤ w.heap.size) : Co13 w w base v v xs := ⟨h, World.grownBy.refl _ _, Or.inl rfl, hb⟩
theorem Co13.below (h : Co13 w X base v0 v xs) (hb : Below X.heap.size X Y) : Co13 w Y base v0 v xs :=
 ⟨za2 h.row hb, ⟨hb.os.trans h.g.os, hb.tape.trans h.g.tape, hb.output.trans h.g.output, Nat.le_trans h.g.size hb.size, fun k hk hne => (hb.block k (Nat.lt_of_lt_of_le hk h.g.size)).trans (h.g.block k hk hne)⟩, h.loc, h.lh⟩
theorem Co13.trans (h : Co13 w X base v0 v xs) (h2 : Co13 X Y base v u ys) : Co13 w Y base v0 u ys := by
 refine ⟨h2.row, ⟨h2.g.os.trans h.g.os, h2.g.tape.trans h.g.tape, h2.g.output.trans h.g.output, Nat.le_trans h.g.size h2.g.size, fun k hk hne => ?_⟩, ?_, h.lh⟩
 ·
  refine (h2.g.block k (Nat.lt_of_lt_of_le hk h.g.size) (fun e => ?_)).trans (h.g.block k hk hne)
  rcases h.loc with hl | ⟨q, hq, hqw⟩
  ·
   exact hne (e.trans hl)
  ·
   rw [hq] at e
   injection e with e
   omega
 ·
  rcases h2.loc with e2 | ⟨q, hq, hqw⟩
  ·
   rcases h.loc with e1 | ⟨q, hq, hqw⟩
   ·
    exact Or.inl (e2.trans e1)
   ·
    exact Or.inr ⟨q, e2.trans hq, hqw⟩
  ·
   exact Or.inr ⟨q, hq, Nat.le_trans h.g.size hqw⟩
theorem Co13.push (h : Co13 w X base v0 v xs) (x : In13) (hn : xs.length ≤ 1048576) :
 ∃ a' c' Y, (Builtin.append_ #[49, 49] 49 #[v, .slice (some ⟨X.heap.size, 0, none⟩) 1 1]).run Tryz.prog (X.alloc (.cells #[.int .i64 x.1, .int .i64 x.2.1, .int .i64 x.2.2.1, .int .i64 x.2.2.2.1, .string ⟨x.2.2.2.2.toArray⟩] 88)) = .ok (.slice a' (xs.length + 1) c') Y ∧ Co13 w Y base v0 (.slice a' (xs.length + 1) c') (xs ++ [x]) := by
 obtain ⟨i0, hi, hz0, hz1, hz2⟩ := info_parts infoIns
 have hbX : base ≤ X.heap.size := Nat.le_trans h.lh h.g.size
 have hb0 : Below X.heap.size X (X.alloc (.cells #[.int .i64 x.1, .int .i64 x.2.1, .int .i64 x.2.2.1, .int .i64 x.2.2.2.1, .string ⟨x.2.2.2.2.toArray⟩] 88)) := (Below.refl _ _).alloc (Nat.le_refl _) _
 have h1 := h.below hb0
 obtain ⟨v', Y, hrun, hown, hg, _, hloc⟩ := run_append_own_at (P := Tryz.prog) (X.alloc (.cells #[.int .i64 x.1, .int .i64 x.2.1, .int .i64 x.2.2.1, .int .i64 x.2.2.2.1, .string ⟨x.2.2.2.2.toArray⟩] 88)) base 49 49 88 i0 _ 5 48 Tryz.underlying49 hi hz0 hz1 hz2 rfl (by decide) v xs.length (insV xs) h1.row ⟨X.heap.size, 0, none⟩ 1 1 (insV [x]) rfl (new_ins X x) (insV_one _) (by unfold maxLen; omega) (by omega) (by simp; omega)
 obtain ⟨a', c', rfl⟩ := zaE hown
 have e1 : (xs ++ [x]).length = xs.length + 1 := by simp
 refine ⟨a', c', Y, hrun, h1.trans ⟨?_, hg, ?_, Nat.le_trans hbX hb0.size⟩⟩
 ·
  rw [e1, zhV]; exact hown
 ·
  rcases hloc with e | e
  ·
   exact Or.inl e
  ·
   exact Or.inr ⟨_, e, Nat.le_refl _⟩
end
def Int13 (B : World) (ta : Option Addr) (tc : Nat) (t : List Nd) (d : Nat) : Prop := ∀ (w : World) (a : Nat) (r : Int) (base : Nat) (v : Value) (xs : List In13), Below B.heap.size B w → w.ownsRow base 88 5 v xs.length (insV xs) → base ≤ w.heap.size → B.heap.size ≤ base → 0 ≤ endV t (a : Int) → t.length ≤ a + d → 0 ≤ r → r + 3 * d ≤ 1000 → xs.length + 400 * d ≤ 100000 →
 Calls Tryz.prog 63 #[v, .slice ta t.length tc, .int .i64 (a : Int), .int .i64 r] w fun e w' => ∃ v', e = .returned v' ∧ Co13 w w' base v v' (xs ++ za3 d t (a : Int) r (xs.length : Int))
end Go.Proofs.YtkpdoedpkncboaaGreat
