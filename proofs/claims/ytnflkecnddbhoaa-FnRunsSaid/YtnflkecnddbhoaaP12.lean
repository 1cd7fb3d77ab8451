/-
  Parts of one proof, one behind the other: InsS3, InsS4, InsL, NodeIn, InsX, InsY.
-/
import Derived.Test.YtnflkecnddbhoaaP11
import Derived.Test.YtnflkecnddbhoaaP10
import Derived.Test.YtnflkecnddbhoaaRows
import Derived.WalkKit
import Derived.ProofKit
import Derived.OpenShut
import Derived.ShutString
import Derived.ChangeOld
import Derived.Below
import Derived.Lib.SmallJoins
import Derived.Deep.SlicePairs

/-! The contract of chapter 13's specification: CodeOk. -/
namespace Go.Proofs.Ytnflkecnddbhoaa
open Go.RowKit

def InsIn (w : World) (a : Option Addr) (len : Nat) (is : List In13) : Prop :=
  is.length = len ∧ ∀ j, j < len → ∃ b off, a = some ⟨b, off, none⟩ ∧ b < w.heap.size ∧ w.cell? ⟨b, off + j * 5, none⟩ = some (.int .i64 (is.getD j in0).1) ∧ w.cell? ⟨b, off + j * 5 + 1, none⟩ = some (.int .i64 (is.getD j in0).2.1) ∧ w.cell? ⟨b, off + j * 5 + 2, none⟩ = some (.int .i64 (is.getD j in0).2.2.1) ∧ w.cell? ⟨b, off + j * 5 + 3, none⟩ = some (.int .i64 (is.getD j in0).2.2.2.1) ∧ w.cell? ⟨b, off + j * 5 + 4, none⟩ = some (.string ⟨(is.getD j in0).2.2.2.2.toArray⟩)
theorem InsIn.below {w w' : World} {a : Option Addr} {len : Nat} {is : List In13} (h : InsIn w a len is) (hb : Below w.heap.size w w') : InsIn w' a len is := by
  refine ⟨h.1, fun j hj => ?_⟩
  obtain ⟨b, off, e, hlt, c0, c1, c2, c3, c4⟩ := h.2 j hj
  have hk := hb.block b hlt
  exact ⟨b, off, e, Nat.lt_of_lt_of_le hlt hb.size, (World.cell?_of_block (a := ⟨b, off + j * 5, none⟩) hk).trans c0, (World.cell?_of_block (a := ⟨b, off + j * 5 + 1, none⟩) hk).trans c1, (World.cell?_of_block (a := ⟨b, off + j * 5 + 2, none⟩) hk).trans c2, (World.cell?_of_block (a := ⟨b, off + j * 5 + 3, none⟩) hk).trans c3, (World.cell?_of_block (a := ⟨b, off + j * 5 + 4, none⟩) hk).trans c4⟩
def ShortI (is : List In13) : Prop := ∀ j, (is.getD j in0).2.2.2.2.length ≤ 1048576

theorem code_len {c : List In13} (h : c.length < 1 ∨ 200 < c.length) : codeB c = false := decide_eq_false (fun e => by have := e.1; omega)
theorem code_no {c : List In13} {j : Nat} (hj : j < c.length) (h : ¬ insAt c.length (c.getD j in0)) : codeB c = false := decide_eq_false (fun e => h (e.2.1 _ (by simp [List.getD, hj])))
theorem code_end {c : List In13} (h1 : 1 ≤ c.length) (h2 : c.length ≤ 200) (h : ∀ j, j < c.length → insAt c.length (c.getD j in0)) : codeB c = (((c.getD (c.length - 1) in0).1 == 10) || ((c.getD (c.length - 1) in0).1 == 8)) := by
  have hall : ∀ i ∈ c, insAt c.length i := fun i hi => by
    obtain ⟨j, hj, rfl⟩ := List.getElem_of_mem hi
    have := h j hj
    simpa [List.getD, hj] using this
  unfold codeB
  rw [Bool.eq_iff_iff, decide_eq_true_eq, Bool.or_eq_true, beq_iff_eq, beq_iff_eq]
  exact ⟨fun e => e.2.2, fun e => ⟨⟨h1, h2⟩, hall, e⟩⟩

set_option maxHeartbeats 4000000 in
set_option maxRecDepth 100000 in
theorem specCodeOk (a : Option Addr) (len cap : Nat) (is : List In13) (w : World) (hin : InsIn w a len is) (hsh : ShortI is) (hlen : len ≤ 1048576) :
    Calls Try.prog 62 #[.slice a len cap] w fun e w' => e = .returned (.bool (codeB is)) ∧ Below w.heap.size w w' := by
  obtain rfl : is.length = len := hin.1
  have HI : Hid (InsIn w a is.length is) := hin
  have HS : Hid (ShortI is) := hsh
  have HL : Hid (is.length < 1 ∨ 200 < is.length → codeB is = false) := code_len
  have HNo : Hid (∀ j, j < is.length → ¬ insAt is.length (is.getD j in0) → codeB is = false) := fun j hj h => code_no hj h
  have HEn : Hid (1 ≤ is.length → is.length ≤ 200 → (∀ j, j < is.length → insAt is.length (is.getD j in0)) → codeB is = (((is.getD (is.length - 1) in0).1 == 10) || ((is.getD (is.length - 1) in0).1 == 8))) := code_end
  obtain ⟨n, hn⟩ : ∃ n, is.length = n := ⟨_, rfl⟩
  rw [hn] at HI HL HNo HEn hlen ⊢
  generalize codeB is = res at HL HNo HEn ⊢
  clear hin hsh hn
  by_cases h1 : (n : Int) < 1
  · have HF := HL.out (Or.inl (by omega))
    have HF2 : Hid (res = false) := HF
    clear HF HL HNo HEn
    go_enter Try.func62, Try.ntmps62
    go_wp2
    go_ret
    exact ⟨by rw [HF2.out]; rfl, Below.refl _ _⟩
  by_cases h2 : 200 < (n : Int)
  · have HF2 : Hid (res = false) := HL.out (Or.inr (by omega))
    clear HL HNo HEn
    go_enter Try.func62, Try.ntmps62
    go_wp2
    go_ret
    exact ⟨by rw [HF2.out]; rfl, Below.refl _ _⟩
  obtain ⟨m, hm⟩ : ∃ m, n = m + 1 := ⟨n - 1, by omega⟩
  have HM : Hid (n = m + 1) := hm
  have HEn2 : Hid ((∀ j, j < n → insAt n (is.getD j in0)) → res = (((is.getD m in0).1 == 10) || ((is.getD m in0).1 == 8))) := fun h => by
    have := HEn.out (by omega) (by omega) h
    rw [show n - 1 = m by omega] at this
    exact this
  clear hm HL HEn
  go_enter Try.func62, Try.ntmps62
  go_wp2
  go_loopw [4] (fun iv wr => ∃ i : Nat, iv = .int .i64 (i : Int) ∧ i ≤ n ∧ Hid (∀ j, j < i → insAt n (is.getD j in0)) ∧ Hid (Below w.heap.size w wr)) (fun iv _ => n - (intOf iv).toNat)
  case atStart => exact ⟨0, rfl, Nat.zero_le _, fun j hj => by omega, Below.refl _ _⟩
  case round =>
    obtain ⟨i, rfl, hi, HA, HB⟩ := hrel
    by_cases hlt : (i : Int) < (n : Int)
    · obtain ⟨b, off, rfl, hbl, c0, c1, c2, c3, c4⟩ := (HI.out.below HB.out).2 i (by omega)
      have HC : Hid (_) := fun W : World => specInsOk (is.getD i in0) W (HS.out i)
      have HNx : Hid (insAt n (is.getD i in0) → ∀ j, j < i + 1 → insAt n (is.getD j in0)) := fun h j hj => by
        by_cases e : j = i
        · rw [e]; exact h
        · exact HA.out j (by omega)
      have HNi : Hid (¬ insAt n (is.getD i in0) → res = false) := HNo.out i (by omega)
      clear HEn2 HNo HA HS
      generalize is.getD i in0 = ii at c0 c1 c2 c3 c4 HC HNx HNi
      obtain ⟨kd, R, A, Bq, nm⟩ := ii
      unfold insVal at HC
      simp only at c0 c1 c2 c3 c4 HC
      go_wp2_with fail
      refine Calls.mono (HC.out _) ?_
      rintro e w1 ⟨rfl, hb1⟩
      have hB1 := HB.out.trans (hb1.mono HB.out.size)
      have d0 := (hb1.cell (p := ⟨b, off + i * 5, none⟩) hbl).trans c0
      have d2 := (hb1.cell (p := ⟨b, off + i * 5 + 2, none⟩) hbl).trans c2
      clear c0 c1 c2 c3 c4 hb1 HC
      rcases hib : insB (kd, R, A, Bq, nm) with _ | _
      · have HF : Hid (res = false) := HNi.out (fun h => by have := decide_eq_true h.1; rw [show decide (insP (kd, R, A, Bq, nm)) = insB (kd, R, A, Bq, nm) from rfl, hib] at this; cases this)
        clear hib HNi HNx
        go_wp2
        go_ret
        exact ⟨by rw [HF.out]; rfl, hB1⟩
      have hip : insP (kd, R, A, Bq, nm) := of_decide_eq_true hib
      have HP : Hid (insP (kd, R, A, Bq, nm)) := hip
      clear hib hip
      by_cases h7 : kd = 7
      · subst h7
        by_cases hA : (n : Int) ≤ A
        · have HF : Hid (res = false) := HNi.out (fun h => by have := h.2 (Or.inl rfl); simp only at this; omega)
          clear HNi HNx HP
          go_wp2
          go_ret
          exact ⟨by rw [HF.out]; rfl, hB1⟩
        · have HN2 : Hid (_) := HNx.out ⟨HP.out, fun _ => by simp only; omega⟩
          clear HNi HNx HP
          go_wp2
          go_roundw
          case rel => exact ⟨i + 1, by go_num, by omega, HN2, hB1⟩
          case measure => simp [intOf]; omega
      have d7 : (kd == 7) = false := beq_eq_false_iff_ne.2 h7
      by_cases h8 : kd = 8
      · subst h8
        clear h7 d7
        by_cases hA : (n : Int) ≤ A
        · have HF : Hid (res = false) := HNi.out (fun h => by have := h.2 (Or.inr rfl); simp only at this; omega)
          clear HNi HNx HP
          go_wp2
          go_ret
          exact ⟨by rw [HF.out]; rfl, hB1⟩
        · have HN2 : Hid (_) := HNx.out ⟨HP.out, fun _ => by simp only; omega⟩
          clear HNi HNx HP
          go_wp2
          go_roundw
          case rel => exact ⟨i + 1, by go_num, by omega, HN2, hB1⟩
          case measure => simp [intOf]; omega
      have d8 : (kd == 8) = false := beq_eq_false_iff_ne.2 h8
      have HN2 : Hid (_) := HNx.out ⟨HP.out, fun e => by simp only at e; rcases e with e | e; exact absurd e h7; exact absurd e h8⟩
      clear HNi HNx HP h7 h8
      go_wp2
      go_roundw
      case rel => exact ⟨i + 1, by go_num, by omega, HN2, hB1⟩
      case measure => simp [intOf]; omega
    · have hin2 : i = n := by omega
      have HF : Hid (_) := HEn2.out (fun j hj => HA.out j (by omega))
      have hmn : m < n := by have := HM.out; omega
      obtain ⟨b, off, rfl, hbl, c0, _⟩ := (HI.out.below HB.out).2 m hmn
      have hq : (n : Int) - 1 = (m : Int) := by have := HM.out; omega
      have hmz : (m : Int) < (n : Int) := by omega
      have HBr := HB.out
      generalize (is.getD m in0).1 = kd at c0 HF
      clear hin2 HEn2 HNo HA HS HM HI HB hmn
      rcases h10 : (kd == 10) with _ | _
      · rw [h10] at HF
        go_wp2
        go_ret
        exact ⟨by rw [HF.out]; rfl, HBr⟩
      · rw [h10] at HF
        go_wp2
        go_ret
        exact ⟨by rw [HF.out]; rfl, HBr⟩

end Go.Proofs.Ytnflkecnddbhoaa

/-! The contract of chapter 13's specification: Registers. -/
namespace Go.Proofs.Ytnflkecnddbhoaa
open Go.RowKit

theorem mx13_step (c : List In13) (k : Nat) (h : k < c.length) : mx13 (c.take (k + 1)) = max (mx13 (c.take k)) (top13 (c.getD k in0)) := by
  have hg : c.getD k in0 = c[k] := by simp [List.getD, h]
  rw [List.take_succ_eq_append_getElem h, mx13_append, mx13_one, hg]
  have := mx13_ge (c.take k)
  omega
/-- The bounds of what a right instruction names. -/
theorem ins_bd {k R A B : Int} {nm : List UInt8} (h : insP (k, R, A, B, nm)) : (0 ≤ R ∧ R ≤ 63) ∧ (3 ≤ k ∧ k ≤ 6 → (0 ≤ A ∧ A ≤ 63) ∧ (0 ≤ B ∧ B ≤ 63)) ∧ (k = 9 → 0 ≤ A ∧ A ≤ 3) := by
  unfold insP at h
  simp only at h
  omega


end Go.Proofs.Ytnflkecnddbhoaa

/-! A row of instructions. -/
namespace Go.Proofs.Ytnflkecnddbhoaa
open Go.RowKit

def insV : List In13 → List Value
  | [] => []
  | i :: r => .int .i64 i.1 :: .int .i64 i.2.1 :: .int .i64 i.2.2.1 :: .int .i64 i.2.2.2.1 :: .string ⟨i.2.2.2.2.toArray⟩ :: insV r
theorem insV_len (is : List In13) : (insV is).length = is.length * 5 := by
  induction is with
  | nil => rfl
  | cons n r ih => simp only [insV, List.length_cons, ih]; omega
theorem insV_append (x y : List In13) : insV (x ++ y) = insV x ++ insV y := by
  induction x with
  | nil => rfl
  | cons n r ih => simp only [List.cons_append, insV, ih]
theorem insV_one (is : List In13) : ∀ u ∈ insV is, u.oneCell' = true := by
  induction is with
  | nil => intro u hu; cases hu
  | cons n r ih =>
    intro u hu
    simp only [insV, List.mem_cons] at hu
    rcases hu with rfl | rfl | rfl | rfl | rfl | h
    · rfl
    · rfl
    · rfl
    · rfl
    · rfl
    · exact ih u h
theorem insV_at (is : List In13) (j : Nat) (hj : j < is.length) : (insV is)[j * 5]? = some (.int .i64 (is.getD j in0).1) ∧ (insV is)[j * 5 + 1]? = some (.int .i64 (is.getD j in0).2.1) ∧ (insV is)[j * 5 + 2]? = some (.int .i64 (is.getD j in0).2.2.1) ∧ (insV is)[j * 5 + 3]? = some (.int .i64 (is.getD j in0).2.2.2.1) ∧ (insV is)[j * 5 + 4]? = some (.string ⟨(is.getD j in0).2.2.2.2.toArray⟩) := by
  induction is generalizing j with
  | nil => simp at hj
  | cons n r ih =>
    cases j with
    | zero => simp [insV]
    | succ j =>
      have h := ih j (by simpa using hj)
      rw [show (j + 1) * 5 = j * 5 + 1 + 1 + 1 + 1 + 1 by omega]
      simpa [insV] using h
theorem own_ins {w : World} {base n : Nat} {v : Value} {is : List In13} (h : w.ownsRow base 74 5 v n (insV is)) : is.length = n ∧ ∃ a cap, v = .slice a n cap ∧ InsIn w a n is := by
  have hlen : is.length = n := by have := h.1; rw [insV_len] at this; omega
  refine ⟨hlen, ?_⟩
  rcases own_forms h with ⟨rfl, rfl, _⟩ | ⟨g, cp, rfl⟩
  · exact ⟨none, 0, rfl, hlen, fun j hj => by omega⟩
  · refine ⟨some ⟨g, 0, none⟩, cp, rfl, hlen, fun j hj => ?_⟩
    obtain ⟨v0, v1, v2, v3, v4⟩ := insV_at is j (by omega)
    have c0 := h.cellAt (j * 5) (by omega)
    have c1 := h.cellAt (j * 5 + 1) (by omega)
    have c2 := h.cellAt (j * 5 + 2) (by omega)
    have c3 := h.cellAt (j * 5 + 3) (by omega)
    have c4 := h.cellAt (j * 5 + 4) (by omega)
    rw [v0] at c0
    rw [v1] at c1
    rw [v2] at c2
    rw [v3] at c3
    rw [v4] at c4
    refine ⟨g, 0, rfl, (h.lt g rfl).2, ?_, ?_, ?_, ?_, ?_⟩ <;> (rw [Nat.zero_add]; assumption)
theorem infoIns : (Try.prog.info? 74).map (fun i => (i.zero, i.size, i.bytes)) = some (some (.agg #[.int .i64 0, .int .i64 0, .int .i64 0, .int .i64 0, .string ⟨#[]⟩]), 5, 48) := by kernel_rfl
theorem new_ins (w : World) (n : In13) : ∀ j u, (insV [n])[j]? = some u → (w.alloc (.cells #[.int .i64 n.1, .int .i64 n.2.1, .int .i64 n.2.2.1, .int .i64 n.2.2.2.1, .string ⟨n.2.2.2.2.toArray⟩] 74)).cell? ((⟨w.heap.size, 0, none⟩ : Addr).add j) = some u := by
  intro j u hu
  have e : (⟨w.heap.size, 0, none⟩ : Addr).add j = ⟨w.heap.size, j, none⟩ := by unfold Addr.add; split <;> simp_all
  rw [e]
  match j, hu with
  | 0, hu => simp [insV] at hu; subst hu; simp
  | 1, hu => simp [insV] at hu; subst hu; simp
  | 2, hu => simp [insV] at hu; subst hu; simp
  | 3, hu => simp [insV] at hu; subst hu; simp
  | 4, hu => simp [insV] at hu; subst hu; simp
  | j + 5, hu => simp [insV] at hu
theorem push_ins13 {X : World} {B n : Nat} {v : Value} {xs : List In13} (x : In13) (hv : X.ownsRow B 74 5 v n (insV xs)) (hb : B ≤ X.heap.size) (hn : n ≤ 1048576) :
    ∃ v' Y, (Builtin.append_ #[49, 49] 49 #[v, .slice (some ⟨X.heap.size, 0, none⟩) 1 1]).run Try.prog (X.alloc (.cells #[.int .i64 x.1, .int .i64 x.2.1, .int .i64 x.2.2.1, .int .i64 x.2.2.2.1, .string ⟨x.2.2.2.2.toArray⟩] 74)) = .ok v' Y ∧ Y.ownsRow B 74 5 v' (n + 1) (insV (xs ++ [x])) ∧ X.grownBy Y v.ownBlock := by
  obtain ⟨i0, hi, hz0, hz1, hz2⟩ := info_parts infoIns
  obtain ⟨v', Y, hrun, hown, hg, _⟩ := run_append_src (P := Try.prog) (X.alloc (.cells #[.int .i64 x.1, .int .i64 x.2.1, .int .i64 x.2.2.1, .int .i64 x.2.2.2.1, .string ⟨x.2.2.2.2.toArray⟩] 74)) B 49 49 74 i0 _ 5 48 Try.underlying49 hi hz0 hz1 hz2 rfl (by decide) _ _ _ (hv.alloc _) (.slice (some ⟨X.heap.size, 0, none⟩) 1 1) 1 (insV [x]) ⟨rfl, insV_one _, Or.inr ⟨_, 1, rfl, new_ins X x⟩⟩ (by unfold maxLen; omega) (by omega) (by simp; omega)
  refine ⟨v', Y, hrun, ?_, (World.grownBy_alloc X _ _).trans hg⟩
  rw [insV_append]
  exact hown

end Go.Proofs.Ytnflkecnddbhoaa

/-! A node, and a row of nodes, that came in, as the walks take them. -/
namespace Go.Proofs.Ytnflkecnddbhoaa
open Go.ChangeShapes Go.WideShapes Go.ChangeAt Go.RowKit Go.Joins Go.Deep


end Go.Proofs.Ytnflkecnddbhoaa

/-! An instruction that came in, as the walks take it; szIns, toIns. -/
namespace Go.Proofs.Ytnflkecnddbhoaa
open Go.ChangeShapes Go.WideShapes Go.ChangeAt Go.RowKit Go.Joins Go.Deep

/-- An instruction's numbers are numbers of 64 bits. -/
def IntI (i : In13) : Prop := (-9223372036854775808 ≤ i.1 ∧ i.1 ≤ 9223372036854775807) ∧ (-9223372036854775808 ≤ i.2.1 ∧ i.2.1 ≤ 9223372036854775807) ∧ (-9223372036854775808 ≤ i.2.2.1 ∧ i.2.2.1 ≤ 9223372036854775807) ∧ (-9223372036854775808 ≤ i.2.2.2.1 ∧ i.2.2.2.1 ≤ 9223372036854775807)

theorem five {α : Type} {cs : Array α} (h : cs.size = 5) : ∃ a b c d e, cs = #[a, b, c, d, e] := by
  obtain ⟨l⟩ := cs
  match l, h with
  | [a, b, c, d, e], _ => exact ⟨a, b, c, d, e, rfl⟩
theorem cellsIns : Try.prog.cellsOf 142 = 5 := by kernel_rfl
theorem cells2 : Try.prog.cellsOf 2 = 1 := by kernel_rfl
theorem cells9 : Try.prog.cellsOf 9 = 1 := by kernel_rfl

set_option maxRecDepth 100000 in
theorem open_ins {H : Type} {enc : TypeId × Value → H} {W : World} {base b0 : Nat} {spare : Nat → Bool} {held : Bool} {v : Value} {d : DataW H} {p : List MemPlace}
    (hv : Value.okWide Try.prog W .any b0 142 v) (h : DataW.Trod enc Try.prog W base spare held 142 v d p) :
    ∃ i : In13, v = insVal i ∧ IntI i ∧ i.2.2.2.2.length ≤ maxLen := by
  obtain ⟨cs, rfl, hsz⟩ := okWide_struct Try.underlying142 hv
  obtain ⟨c0, c1, c2, c3, c4, rfl⟩ := five (hsz.trans cellsIns)
  obtain ⟨fuel, hf⟩ := h
  obtain ⟨xs, n, _, _, hl, hlen, hx⟩ := DataW.trod_struct Try.underlying142 hf
  match xs, hlen with
  | [y0, y1, y2, y3, y4], _ =>
    have t0 := hx 0 _ rfl
    have t1 := hx 1 _ rfl
    have t2 := hx 2 _ rfl
    have t3 := hx 3 _ rfl
    have t4 := hx 4 _ rfl
    simp only [Value.cells] at t0 t1 t2 t3 t4
    obtain ⟨k0, e0, _, w0⟩ := DataW.trod_int Try.underlying2 t0
    obtain ⟨k1, e1, _, w1⟩ := DataW.trod_int Try.underlying2 t1
    obtain ⟨k2, e2, _, w2⟩ := DataW.trod_int Try.underlying2 t2
    obtain ⟨k3, e3, _, w3⟩ := DataW.trod_int Try.underlying2 t3
    obtain ⟨s4, e4, _, h4⟩ := DataW.trod_string Try.underlying9 t4
    simp [cells2] at e0 e1 e2 e3
    simp [cells9] at e4
    subst e0 e1 e2 e3 e4
    exact ⟨(k0, k1, k2, k3, s4.data.toList), rfl, ⟨bounds_i64 w0, bounds_i64 w1, bounds_i64 w2, bounds_i64 w3⟩, h4⟩

def szI (m : Nat) (left : Int) : Int := if (m : Int) ≤ left then left - (m : Int) else -1

set_option maxHeartbeats 400000 in
set_option maxRecDepth 100000 in
theorem szInsC (k r a b left : Int) (s : List UInt8) (w : World) (h0 : 0 ≤ left) (h1 : left ≤ 1048576) (hs : s.length ≤ maxLen) :
    Calls Try.prog 95 #[.agg #[.int .i64 k, .int .i64 r, .int .i64 a, .int .i64 b, .string ⟨s.toArray⟩], .int .i64 left] w fun e w' => e = .returned (.int .i64 (szI s.length left)) ∧ Below w.heap.size w w' := by
  unfold maxLen at hs
  have hs2 : (s.length : Int) ≤ 9223372036854775807 := by omega
  by_cases hA : (s.length : Int) ≤ left
  · have HS : Hid (szI s.length left = left - (s.length : Int)) := by exact (by unfold szI; rw [if_pos hA] : szI s.length left = left - (s.length : Int))
    go_enter Try.func95, Try.ntmps95
    go_wp2
    go_ret
    exact ⟨by rw [HS.out]; rfl, (Below.refl _ w).alloc (Nat.le_refl _) _⟩
  · have HS : Hid (szI s.length left = -1) := by exact (by unfold szI; rw [if_neg hA] : szI s.length left = -1)
    go_enter Try.func95, Try.ntmps95
    go_wp2
    go_ret
    exact ⟨by rw [HS.out]; rfl, (Below.refl _ w).alloc (Nat.le_refl _) _⟩

set_option maxHeartbeats 400000 in
set_option maxRecDepth 100000 in
theorem toInsC (k r a b : Int) (s : List UInt8) (w : World) :
    Calls Try.prog 97 #[.agg #[.int .i64 k, .int .i64 r, .int .i64 a, .int .i64 b, .string ⟨s.toArray⟩]] w fun e w' => e = .returned (.agg #[.int .i64 k, .int .i64 r, .int .i64 a, .int .i64 b, .string ⟨s.toArray⟩]) ∧ Below w.heap.size w w' := by
  go_enter Try.func97, Try.ntmps97
  go_wp2
  refine bodyPost_ret (v := .agg #[.int .i64 k, .int .i64 r, .int .i64 a, .int .i64 b, .string ⟨s.toArray⟩]) (by simp [results, Try.results97, go_sem]) rfl ?_
  exact ⟨rfl, (((Below.refl _ w).alloc (Nat.le_refl _) _).alloc (by simp) _).alloc (by simp; omega) _⟩

end Go.Proofs.Ytnflkecnddbhoaa

/-! The laws' own helpers over rows of instructions: szInsS, toInsS, eqIns, eqInsS; a row that came in. -/
namespace Go.Proofs.Ytnflkecnddbhoaa
open Go.ChangeShapes Go.WideShapes Go.ChangeAt Go.RowKit Go.Joins Go.Deep

def textsI : List In13 → Nat
  | [] => 0
  | n :: r => n.2.2.2.2.length + textsI r
theorem textsI_append (x y : List In13) : textsI (x ++ y) = textsI x + textsI y := by
  induction x with
  | nil => simp [textsI]
  | cons n r ih => simp only [List.cons_append, textsI, ih]; omega
theorem textsI_snoc (ns : List In13) (k : Nat) (hk : k < ns.length) : textsI (ns.take (k + 1)) = textsI (ns.take k) + (ns.getD k in0).2.2.2.2.length := by
  have hg : ns.getD k in0 = ns[k] := by simp [List.getD, hk]
  rw [hg, List.take_succ_eq_append_getElem hk, textsI_append]
  simp [textsI]
theorem textsI_take (ns : List In13) (k : Nat) : textsI (ns.take k) ≤ textsI ns := by
  have := textsI_append (ns.take k) (ns.drop k)
  rw [List.take_append_drop] at this
  omega
theorem textsI_at (ns : List In13) (j : Nat) : (ns.getD j in0).2.2.2.2.length ≤ textsI ns := by
  by_cases hj : j < ns.length
  · have h1 := textsI_snoc ns j hj
    have h2 := textsI_take ns (j + 1)
    omega
  · have : ns.getD j in0 = in0 := by rw [List.getD, List.getElem?_eq_none (by omega)]; rfl
    rw [this]; simp [in0]
theorem shortI_of {ns : List In13} (h : textsI ns ≤ 1048576) : ShortI ns := fun j => by have := textsI_at ns j; omega
theorem szI_yes {m : Nat} {left : Int} (h : (m : Int) ≤ left) : szI m left = left - (m : Int) := by unfold szI; rw [if_pos h]
theorem szI_no {m : Nat} {left : Int} (h : ¬ (m : Int) ≤ left) : szI m left = -1 := by unfold szI; rw [if_neg h]
def LongI (is : List In13) : Prop := ∀ j, (is.getD j in0).2.2.2.2.length ≤ maxLen
def IntIs (is : List In13) : Prop := ∀ j, IntI (is.getD j in0)
theorem intI_in0 : IntI in0 := by unfold IntI in0; decide

theorem InsIn.at {w : World} {a : Option Addr} {len : Nat} {is : List In13} (h : InsIn w a len is) (hz : 0 < len) : ∃ b off, a = some ⟨b, off, none⟩ ∧ b < w.heap.size ∧
    ∀ j, j < len → w.cell? ⟨b, off + j * 5, none⟩ = some (.int .i64 (is.getD j in0).1) ∧ w.cell? ⟨b, off + j * 5 + 1, none⟩ = some (.int .i64 (is.getD j in0).2.1) ∧ w.cell? ⟨b, off + j * 5 + 2, none⟩ = some (.int .i64 (is.getD j in0).2.2.1) ∧ w.cell? ⟨b, off + j * 5 + 3, none⟩ = some (.int .i64 (is.getD j in0).2.2.2.1) ∧ w.cell? ⟨b, off + j * 5 + 4, none⟩ = some (.string ⟨(is.getD j in0).2.2.2.2.toArray⟩) := by
  obtain ⟨b, off, rfl, hb, _⟩ := h.2 0 hz
  refine ⟨b, off, rfl, hb, fun j hj => ?_⟩
  obtain ⟨b', off', e, _, c⟩ := h.2 j hj
  simp only [Option.some.injEq, Addr.mk.injEq, and_true] at e
  obtain ⟨rfl, rfl⟩ := e
  exact c

set_option maxHeartbeats 2000000 in
set_option maxRecDepth 100000 in
theorem szInsSC (a : Option Addr) (len cap : Nat) (ns : List In13) (left : Int) (w : World) (hin : InsIn w a len ns) (h0 : 0 ≤ left) (h1 : left ≤ 1048576) (hlm : len ≤ maxLen) (hm : LongI ns) :
    Calls Try.prog 79 #[.slice a len cap, .int .i64 left] w fun e w' => e = .returned (.int .i64 (szN len (textsI ns) left)) ∧ Below w.heap.size w w' := by
  have hlb := hin.1
  unfold maxLen at hlm
  have hl2 : (len : Int) ≤ 9223372036854775807 := by omega
  by_cases hA : (len : Int) ≤ left
  · have HI : Hid (InsIn w a len ns) := hin
    have HM : Hid (LongI ns) := hm
    clear hin hm
    go_enter Try.func79, Try.ntmps79
    go_wp2
    go_loopw [1, 5] (fun l i wr => ∃ k : Nat, k ≤ len ∧ i = .int .i64 k ∧ l = .int .i64 (left - (len : Int) - (textsI (ns.take k) : Int)) ∧ (textsI (ns.take k) : Int) ≤ left - (len : Int) ∧ Below w.heap.size w wr) (fun _ i _ => len - (intOf i).toNat)
    case atStart => exact ⟨0, Nat.zero_le _, rfl, by simp [textsI], by simp [textsI]; omega, Below.refl _ _⟩
    case round =>
      obtain ⟨k, hk, rfl, rfl, hle, hB⟩ := hrel
      by_cases hkl : (k : Int) < (len : Int)
      · obtain ⟨b, off, rfl, hbl, hcells⟩ := (HI.out.below hB).at (by omega)
        obtain ⟨c0, c1, c2, c3, c4⟩ := hcells k (by omega)
        have hmk := HM.out k
        have hst := textsI_snoc ns k (by omega)
        have htt := textsI_take ns (k + 1)
        obtain ⟨n, hn⟩ : ∃ n, ns.getD k in0 = n := ⟨_, rfl⟩
        rw [hn] at c0 c1 c2 c3 c4 hmk hst
        obtain ⟨kd, r, aa, bb, s⟩ := n
        simp only at c0 c1 c2 c3 c4 hmk hst
        obtain ⟨m, hmm⟩ : ∃ m, textsI (ns.take k) = m := ⟨_, rfl⟩
        rw [hmm] at hle hst ⊢
        have HS : Hid (textsI (ns.take (k + 1)) = m + s.length) := hst
        clear hst hn hcells hmm
        by_cases hfit : (s.length : Int) ≤ left - (len : Int) - (m : Int)
        · have HZ : Hid (szI s.length (left - (len : Int) - (m : Int)) = left - (len : Int) - (textsI (ns.take (k + 1)) : Int)) := by
            exact (by rw [HS.out, szI_yes (by omega)]; omega : szI s.length (left - (len : Int) - (m : Int)) = left - (len : Int) - (textsI (ns.take (k + 1)) : Int))
          go_wp2_with fail
          refine (szInsC kd r aa bb _ s _ (by omega) (by omega) hmk).mono ?_
          rintro e w1 ⟨rfl, hb1⟩
          rw [HZ.out]
          have hle2 : (textsI (ns.take (k + 1)) : Int) ≤ left - (len : Int) := by rw [HS.out]; omega
          have hge : (0 : Int) ≤ left - (len : Int) - (textsI (ns.take (k + 1)) : Int) := by omega
          go_wp2
          go_roundw
          case rel => exact ⟨k + 1, by omega, by go_num, rfl, hle2, hB.trans (hb1.mono hB.size)⟩
          case measure => simp [intOf]; omega
        · have HZ : Hid (szI s.length (left - (len : Int) - (m : Int)) = -1) := szI_no (by omega)
          have HR : Hid (szN len (textsI ns) left = -1) := szN_no (by have := HS.out; omega)
          go_wp2_with fail
          refine (szInsC kd r aa bb _ s _ (by omega) (by omega) hmk).mono ?_
          rintro e w1 ⟨rfl, hb1⟩
          rw [HZ.out]
          go_wp2
          go_ret
          exact ⟨by rw [HR.out]; rfl, hB.trans (hb1.mono hB.size)⟩
      · have HT : Hid (ns.take k = ns) := List.take_of_length_le (by omega)
        have HR : Hid (szN len (textsI ns) left = left - (len : Int) - (textsI (ns.take k) : Int)) := by exact (by rw [HT.out] at hle ⊢; exact szN_yes (by omega) : szN len (textsI ns) left = left - (len : Int) - (textsI (ns.take k) : Int))
        go_wp2
        go_ret
        exact ⟨by rw [HR.out]; rfl, hB⟩
  · have HR : Hid (szN len (textsI ns) left = -1) := szN_no (by omega)
    clear hin hm
    go_enter Try.func79, Try.ntmps79
    go_wp2
    go_ret
    exact ⟨by rw [HR.out]; rfl, Below.refl _ _⟩

theorem insV_set (ns : List In13) (j : Nat) (k r a b : Int) (s : List UInt8) : (((((insV ns).set (j * 5) (.int .i64 k)).set (j * 5 + 1) (.int .i64 r)).set (j * 5 + 2) (.int .i64 a)).set (j * 5 + 3) (.int .i64 b)).set (j * 5 + 4) (.string ⟨s.toArray⟩) = insV (ns.set j (k, r, a, b, s)) := by
  induction ns generalizing j with
  | nil => simp [insV]
  | cons i l ih =>
    cases j with
    | zero => simp [insV]
    | succ j => rw [show (j + 1) * 5 = j * 5 + 1 + 1 + 1 + 1 + 1 by omega]; simp [insV, ih]
theorem made_ins (n : Nat) : (madeCells (Value.agg #[.int .i64 0, .int .i64 0, .int .i64 0, .int .i64 0, .string ⟨#[]⟩]).cells (n * 5)).toList = insV (List.replicate n in0) := by
  have hc : (Value.agg #[.int .i64 0, .int .i64 0, .int .i64 0, .int .i64 0, .string ⟨#[]⟩]).cells = #[.int .i64 0, .int .i64 0, .int .i64 0, .int .i64 0, .string ⟨#[]⟩] := rfl
  rw [hc]
  apply List.ext_getElem?
  intro j
  by_cases hj : j < n * 5
  · obtain ⟨v0, v1, v2, v3, v4⟩ := insV_at (List.replicate n in0) (j / 5) (by simp; omega)
    have hg : (List.replicate n in0).getD (j / 5) in0 = in0 := by simp [List.getD, List.getElem?_replicate]; split <;> rfl
    rw [hg] at v0 v1 v2 v3 v4
    have h4 : j % 5 = 0 ∨ j % 5 = 1 ∨ j % 5 = 2 ∨ j % 5 = 3 ∨ j % 5 = 4 := by omega
    rcases h4 with h' | h' | h' | h' | h'
    · have ej : j = j / 5 * 5 := by omega
      rw [← ej] at v0
      rw [v0]
      simp [madeCells, hj, h', in0]
    · have ej : j = j / 5 * 5 + 1 := by omega
      rw [← ej] at v1
      rw [v1]
      simp [madeCells, hj, h', in0]
    · have ej : j = j / 5 * 5 + 2 := by omega
      rw [← ej] at v2
      rw [v2]
      simp [madeCells, hj, h', in0]
    · have ej : j = j / 5 * 5 + 3 := by omega
      rw [← ej] at v3
      rw [v3]
      simp [madeCells, hj, h', in0]
    · have ej : j = j / 5 * 5 + 4 := by omega
      rw [← ej] at v4
      rw [v4]
      simp [madeCells, hj, h', in0]
  · rw [List.getElem?_eq_none (by simp [madeCells]; omega), List.getElem?_eq_none (by rw [insV_len]; simp; omega)]
theorem fill_ins (ns : List In13) (k : Nat) (hk : k < ns.length) : (ns.take k ++ List.replicate (ns.length - k) in0).set k (ns.getD k in0) = ns.take (k + 1) ++ List.replicate (ns.length - (k + 1)) in0 := by
  have hg : ns.getD k in0 = ns[k] := by simp [List.getD, hk]
  rw [hg, List.set_append_right _ _ (by rw [List.length_take]; omega), List.length_take, Nat.min_eq_left (by omega), Nat.sub_self, show ns.length - k = (ns.length - (k + 1)) + 1 by omega, List.replicate_succ, List.set_cons_zero, List.take_succ_eq_append_getElem hk, List.append_assoc]
  rfl

set_option maxHeartbeats 2000000 in
set_option maxRecDepth 100000 in
theorem toInsSC (a : Option Addr) (len cap : Nat) (ns : List In13) (w : World) (hin : InsIn w a len ns) (hlen : len ≤ 1048576) :
    Calls Try.prog 81 #[.slice a len cap] w fun e w' => ∃ v, e = .returned v ∧ w'.ownsRow w.heap.size 74 5 v len (insV ns) ∧ v ≠ .slice none 0 0 ∧ Below w.heap.size w w' := by
  obtain ⟨i0, hi, hz0, hz1, hz2⟩ := info_parts infoIns
  have hlb := hin.1
  have HI : Hid (InsIn w a len ns) := hin
  clear hin
  go_enter Try.func81, Try.ntmps81
  go_wp2_with (at_make; refine wpList_make_full _ rfl _ _ 49 rfl w.heap.size 74 i0 _ 5 Try.underlying49 hi hz0 hz1 .i64 .i64 _ _ len rfl rfl rfl rfl (by rw [hz2]; omega) (by unfold maxLen; omega) (Nat.le_refl _) ?_; intro w1 hown1 hgrow1)
  rw [made_ins] at hown1
  have hB1 : Below w.heap.size w w1 := (Below.refl _ _).grown hgrow1 (Nat.le_refl _) (by simp)
  clear hgrow1
  go_loopw [4] (fun i wr => ∃ k : Nat, k ≤ len ∧ i = .int .i64 k ∧ wr.ownsRow w.heap.size 74 5 (.slice (some ⟨w.heap.size, 0, none⟩) len len) len (insV (ns.take k ++ List.replicate (ns.length - k) in0)) ∧ Below w.heap.size w wr) (fun i _ => len - (intOf i).toNat)
  case atStart => exact ⟨0, Nat.zero_le _, rfl, by simpa [hlb] using hown1, hB1⟩
  case round =>
    obtain ⟨k, hk, rfl, hown, hB⟩ := hrel
    clear hown1 hB1
    by_cases hkl : (k : Int) < (len : Int)
    · obtain ⟨b, off, rfl, hbl, hcells⟩ := (HI.out.below hB).at (by omega)
      obtain ⟨c0, c1, c2, c3, c4⟩ := hcells k (by omega)
      have hfs := fill_ins ns k (by omega)
      obtain ⟨x, hx⟩ : ∃ x, ns.getD k in0 = x := ⟨_, rfl⟩
      rw [hx] at c0 c1 c2 c3 c4 hfs
      obtain ⟨kd, r, aa, bb, s⟩ := x
      simp only at c0 c1 c2 c3 c4
      have HF : Hid ((ns.take k ++ List.replicate (ns.length - k) in0).set k (kd, r, aa, bb, s) = ns.take (k + 1) ++ List.replicate (ns.length - (k + 1)) in0) := hfs
      have HOW : Hid (wr.ownsRow w.heap.size 74 5 (.slice (some ⟨w.heap.size, 0, none⟩) len len) len (insV (ns.take k ++ List.replicate (ns.length - k) in0))) := hown
      clear hx hcells hfs hown
      go_wp2_with fail
      refine (toInsC kd r aa bb s _).mono ?_
      rintro e w2 ⟨rfl, hb2⟩
      have hown2 := own_below HOW.out hb2
      have hl2 : (ns.take k ++ List.replicate (ns.length - k) in0).length = len := by rw [List.length_append, List.length_take, List.length_replicate]; omega
      obtain ⟨v0, v1, v2, v3, v4⟩ := insV_at (ns.take k ++ List.replicate (ns.length - k) in0) k (by omega)
      obtain ⟨u0, d0⟩ : ∃ u, w2.cell? ⟨w.heap.size, k * 5, none⟩ = some u := by
        rw [hown2.cellAt (k * 5) (by omega), v0]; exact ⟨_, rfl⟩
      have e0 := hown2.frozenAt (k * 5)
      obtain ⟨u1, d1⟩ : ∃ u, w2.cell? ⟨w.heap.size, k * 5 + 1, none⟩ = some u := by
        rw [hown2.cellAt (k * 5 + 1) (by omega), v1]; exact ⟨_, rfl⟩
      have e1 := hown2.frozenAt (k * 5 + 1)
      obtain ⟨u2, d2⟩ : ∃ u, w2.cell? ⟨w.heap.size, k * 5 + 2, none⟩ = some u := by
        rw [hown2.cellAt (k * 5 + 2) (by omega), v2]; exact ⟨_, rfl⟩
      have e2 := hown2.frozenAt (k * 5 + 2)
      obtain ⟨u3, d3⟩ : ∃ u, w2.cell? ⟨w.heap.size, k * 5 + 3, none⟩ = some u := by
        rw [hown2.cellAt (k * 5 + 3) (by omega), v3]; exact ⟨_, rfl⟩
      have e3 := hown2.frozenAt (k * 5 + 3)
      obtain ⟨u4, d4⟩ : ∃ u, w2.cell? ⟨w.heap.size, k * 5 + 4, none⟩ = some u := by
        rw [hown2.cellAt (k * 5 + 4) (by omega), v4]; exact ⟨_, rfl⟩
      have e4 := hown2.frozenAt (k * 5 + 4)
      have hs1 := hown2.stored (k * 5) (.int .i64 kd)
      have hs2 := hs1.1.stored (k * 5 + 1) (.int .i64 r)
      have hs3 := hs2.1.stored (k * 5 + 2) (.int .i64 aa)
      have hs4 := hs3.1.stored (k * 5 + 3) (.int .i64 bb)
      have hs5 := hs4.1.stored (k * 5 + 4) (.string ⟨s.toArray⟩)
      have hnew := hs5.1
      rw [insV_set, HF.out] at hnew
      have hB2 : Below w.heap.size w w2 := hB.trans (hb2.mono hB.size)
      have hB3 := (((((hB2.setCell (p := ⟨w.heap.size, k * 5, none⟩) (Nat.le_refl _) (.int .i64 kd)).setCell (p := ⟨w.heap.size, k * 5 + 1, none⟩) (Nat.le_refl _) (.int .i64 r)).setCell (p := ⟨w.heap.size, k * 5 + 2, none⟩) (Nat.le_refl _) (.int .i64 aa)).setCell (p := ⟨w.heap.size, k * 5 + 3, none⟩) (Nat.le_refl _) (.int .i64 bb)).setCell (p := ⟨w.heap.size, k * 5 + 4, none⟩) (Nat.le_refl _) (.string ⟨s.toArray⟩))
      clear hown2 hs1 hs2 hs3 hs4 hs5 hl2 v0 v1 v2 v3 v4
      go_wp2
      go_roundw
      case rel => exact ⟨k + 1, by omega, by go_num, hnew, hB3⟩
      case measure => simp [intOf]; omega
    · have hd : ns.take k ++ List.replicate (ns.length - k) in0 = ns := by rw [List.take_of_length_le (by omega), show ns.length - k = 0 by omega]; simp
      rw [hd] at hown
      clear hd
      go_wp2
      go_ret
      exact ⟨_, rfl, hown, by simp, hB⟩

set_option maxHeartbeats 400000 in
set_option maxRecDepth 100000 in
theorem eqInsC (k r a b : Int) (s : List UInt8) (w : World) :
    Calls Try.prog 100 #[.agg #[.int .i64 k, .int .i64 r, .int .i64 a, .int .i64 b, .string ⟨s.toArray⟩], .agg #[.int .i64 k, .int .i64 r, .int .i64 a, .int .i64 b, .string ⟨s.toArray⟩]] w fun e w' => e = .returned (.bool true) ∧ Below w.heap.size w w' := by
  have h1 : ∀ n : Int, (n != n) = false := by simp
  have h2 : ∀ l : List UInt8, (l != l) = false := by simp
  go_enter Try.func100, Try.ntmps100
  go_wp2
  go_ret
  exact ⟨rfl, ((Below.refl _ w).alloc (Nat.le_refl _) _).alloc (by simp) _⟩

set_option maxHeartbeats 2000000 in
set_option maxRecDepth 100000 in
theorem eqInsSC (a b : Option Addr) (len ca cb : Nat) (ns : List In13) (w : World) (ha : InsIn w a len ns) (hb : InsIn w b len ns) (hlen : len ≤ 4194304) :
    Calls Try.prog 87 #[.slice a len ca, .slice b len cb] w fun e w' => e = .returned (.bool true) ∧ Below w.heap.size w w' := by
  have hlb := ha.1
  have HA : Hid (InsIn w a len ns) := ha
  have HB : Hid (InsIn w b len ns) := hb
  clear ha hb
  have h1 : ((len : Int) != (len : Int)) = false := by simp
  go_enter Try.func87, Try.ntmps87
  go_wp2
  go_loopw [5] (fun i wr => ∃ k : Nat, k ≤ len ∧ i = .int .i64 k ∧ Below w.heap.size w wr) (fun i _ => len - (intOf i).toNat)
  case atStart => exact ⟨0, Nat.zero_le _, rfl, Below.refl _ _⟩
  case round =>
    obtain ⟨k, hk, rfl, hB⟩ := hrel
    by_cases hkl : (k : Int) < (len : Int)
    · obtain ⟨b1, o1, rfl, hb1, hc1⟩ := (HA.out.below hB).at (by omega)
      obtain ⟨b2, o2, rfl, hb2, hc2⟩ := (HB.out.below hB).at (by omega)
      obtain ⟨x0, x1, x2, x3, x4⟩ := hc1 k (by omega)
      obtain ⟨y0, y1, y2, y3, y4⟩ := hc2 k (by omega)
      obtain ⟨x, hx⟩ : ∃ x, ns.getD k in0 = x := ⟨_, rfl⟩
      rw [hx] at x0 x1 x2 x3 x4 y0 y1 y2 y3 y4
      obtain ⟨kd, r, aa, bb, s⟩ := x
      simp only at x0 x1 x2 x3 x4 y0 y1 y2 y3 y4
      clear hx hc1 hc2
      go_wp2
      go_region_held3 (fun w' => w'.cell? ⟨b1, o1 + k * 5, none⟩ = some (.int .i64 kd) ∧ w'.cell? ⟨b1, o1 + k * 5 + 1, none⟩ = some (.int .i64 r) ∧ w'.cell? ⟨b1, o1 + k * 5 + 2, none⟩ = some (.int .i64 aa) ∧ w'.cell? ⟨b1, o1 + k * 5 + 3, none⟩ = some (.int .i64 bb) ∧ w'.cell? ⟨b1, o1 + k * 5 + 4, none⟩ = some (.string ⟨s.toArray⟩) ∧ w'.cell? ⟨b2, o2 + k * 5, none⟩ = some (.int .i64 kd) ∧ w'.cell? ⟨b2, o2 + k * 5 + 1, none⟩ = some (.int .i64 r) ∧ w'.cell? ⟨b2, o2 + k * 5 + 2, none⟩ = some (.int .i64 aa) ∧ w'.cell? ⟨b2, o2 + k * 5 + 3, none⟩ = some (.int .i64 bb) ∧ w'.cell? ⟨b2, o2 + k * 5 + 4, none⟩ = some (.string ⟨s.toArray⟩)) (go_keep) (first | (go_at_call 100; refine (eqInsC kd r aa bb s _).mono ?_; rintro e w1 ⟨rfl, hw1⟩; have d0 : w1.cell? ⟨b1, o1 + k * 5, none⟩ = some (.int .i64 kd) := (hw1.cell (p := ⟨b1, o1 + k * 5, none⟩) hb1).trans x0; have d1 : w1.cell? ⟨b1, o1 + k * 5 + 1, none⟩ = some (.int .i64 r) := (hw1.cell (p := ⟨b1, o1 + k * 5 + 1, none⟩) hb1).trans x1; have d2 : w1.cell? ⟨b1, o1 + k * 5 + 2, none⟩ = some (.int .i64 aa) := (hw1.cell (p := ⟨b1, o1 + k * 5 + 2, none⟩) hb1).trans x2; have d3 : w1.cell? ⟨b1, o1 + k * 5 + 3, none⟩ = some (.int .i64 bb) := (hw1.cell (p := ⟨b1, o1 + k * 5 + 3, none⟩) hb1).trans x3; have d4 : w1.cell? ⟨b1, o1 + k * 5 + 4, none⟩ = some (.string ⟨s.toArray⟩) := (hw1.cell (p := ⟨b1, o1 + k * 5 + 4, none⟩) hb1).trans x4; have e0 : w1.cell? ⟨b2, o2 + k * 5, none⟩ = some (.int .i64 kd) := (hw1.cell (p := ⟨b2, o2 + k * 5, none⟩) hb2).trans y0; have e1 : w1.cell? ⟨b2, o2 + k * 5 + 1, none⟩ = some (.int .i64 r) := (hw1.cell (p := ⟨b2, o2 + k * 5 + 1, none⟩) hb2).trans y1; have e2 : w1.cell? ⟨b2, o2 + k * 5 + 2, none⟩ = some (.int .i64 aa) := (hw1.cell (p := ⟨b2, o2 + k * 5 + 2, none⟩) hb2).trans y2; have e3 : w1.cell? ⟨b2, o2 + k * 5 + 3, none⟩ = some (.int .i64 bb) := (hw1.cell (p := ⟨b2, o2 + k * 5 + 3, none⟩) hb2).trans y3; have e4 : w1.cell? ⟨b2, o2 + k * 5 + 4, none⟩ = some (.string ⟨s.toArray⟩) := (hw1.cell (p := ⟨b2, o2 + k * 5 + 4, none⟩) hb2).trans y4))
      all_goals go_wp2
      go_roundw
      case rel => exact ⟨k + 1, by omega, by go_num, hB.trans ⟨hw1.os, hw1.tape, hw1.output, hw1.size, fun q hq => hw1.block q (by have := hB.size; show q < wr.heap.size; omega)⟩⟩
      case measure => simp [intOf]; omega
    · go_wp2
      go_ret
      exact ⟨rfl, hB⟩

end Go.Proofs.Ytnflkecnddbhoaa
