/-
  Parts of one proof, one behind the other: PackK, CheckS, CheckS2, CheckS3, CheckE.
-/
import Derived.Test.YtdjglpcllcjcfaaDoorP13
import Derived.Test.YtdjglpcllcjcfaaDoorP12
import Derived.Test.YtdjglpcllcjcfaaDoorP8
import Derived.Test.YtdjglpcllcjcfaaDoorP11
import Derived.Test.YtdjglpcllcjcfaaDoorP7
import Derived.Test.YtdjglpcllcjcfaaDoorP10

/-! What the landed functions of chapter 7 are told of a package; what the laws hold. -/
namespace Go.Proofs.YtdjglpcllcjcfaaDoor
open Go.RowKit

def IntF (fs : List Fn) : Prop := ∀ j, (-9223372036854775808 ≤ (fs.getD j fn0).2.1 ∧ (fs.getD j fn0).2.1 ≤ 9223372036854775807) ∧ IntT (fs.getD j fn0).2.2

/-- What the landed functions are told of a package that they are handed. -/
structure PkOk (w : World) (nm : List UInt8) (ia : Option Addr) (il ic : Nat) (fa : Option Addr) (fl fc : Nat) (ims : List (List UInt8)) (fs : List Fn) : Prop where
  i : TextsIn w ia il ims
  f : FuncsIn w fa fl fs
  ic : ia = none → ic = 0
  fc : (fa = none → fc = 0) ∧ fl ≤ fc
  int : IntF fs
  il : il ≤ 1048576
  fl : fl ≤ 1048576
  nm : nm.length ≤ 1048576
  is : ∀ i, (ims.getD i []).length ≤ 1048576
  fs : ShortF fs

theorem PkOk.below {w w' : World} {nm : List UInt8} {ia : Option Addr} {il ic : Nat} {fa : Option Addr} {fl fc : Nat} {ims : List (List UInt8)} {fs : List Fn} (h : PkOk w nm ia il ic fa fl fc ims fs) (hb : Below w.heap.size w w') : PkOk w' nm ia il ic fa fl fc ims fs :=
  ⟨h.i.below hb, h.f.below hb, h.ic, h.fc, h.int, h.il, h.fl, h.nm, h.is, h.fs⟩

theorem own_texts0 {w : World} {base n : Nat} {v : Value} {ts : List (List UInt8)} (h : w.ownsRow base 9 1 v n (strV ts)) : ∃ a c, v = .slice a n c ∧ (a = none → c = 0) ∧ TextsIn w a n ts := by
  obtain ⟨_, a, c, rfl, hin⟩ := own_texts h
  refine ⟨a, c, rfl, fun e => ?_, hin⟩
  rcases own_forms h with ⟨e2, _, _⟩ | ⟨g, cp, e2⟩
  · injection e2
  · injection e2 with e3; rw [e] at e3; cases e3

/-- A package small enough: every bound. -/
theorem pk_small {nm : List UInt8} {ims : List (List UInt8)} {fs : List Fn} (h : pkSz nm ims fs ≤ 1048576) : ims.length ≤ 1048576 ∧ fs.length ≤ 1048576 ∧ nm.length ≤ 1048576 ∧ (∀ i, (ims.getD i []).length ≤ 1048576) ∧ ShortF fs := by
  unfold pkSz at h
  refine ⟨by omega, by omega, by omega, fun i => ?_, shortF_of (by omega)⟩
  have h1 := part_le ims i
  have h2 : joinN ims = ims.flatten.length := rfl
  omega

/-- The law's own argument, in a block of its own. -/
theorem PkIn.newL {w : World} {nm : List UInt8} {ia : Option Addr} {il ic : Nat} {fa : Option Addr} {fl fc : Nat} {ims : List (List UInt8)} {fs : List Fn} (t : TypeId) (hi : TextsIn w ia il ims) (hf : FuncsIn w fa fl fs) :
    PkIn (w.alloc (.cells #[.string ⟨nm.toArray⟩, .slice ia il ic, .slice fa fl fc] t)) w.heap.size nm ia il ic fa fl fc ims fs ∧ Below w.heap.size w (w.alloc (.cells #[.string ⟨nm.toArray⟩, .slice ia il ic, .slice fa fl fc] t)) := by
  have hb : Below w.heap.size w (w.alloc (.cells #[.string ⟨nm.toArray⟩, .slice ia il ic, .slice fa fl fc] t)) := (Below.refl _ _).alloc (Nat.le_refl _) _
  have hA := heap_alloc_new w (.cells #[.string ⟨nm.toArray⟩, .slice ia il ic, .slice fa fl fc] t)
  generalize w.alloc (.cells #[.string ⟨nm.toArray⟩, .slice ia il ic, .slice fa fl fc] t) = W at hb hA ⊢
  exact ⟨⟨by simp [World.cell?, hA], by simp [World.cell?, hA], by simp [World.cell?, hA], hi.below hb, hf.below hb⟩, hb⟩

/-- Three cells of a block. -/
structure Box3 (V : World) (k : Nat) (a b c : Value) : Prop where
  c0 : V.cell? ⟨k, 0, none⟩ = some a
  c1 : V.cell? ⟨k, 1, none⟩ = some b
  c2 : V.cell? ⟨k, 2, none⟩ = some c

theorem Box3.lt {V : World} {k : Nat} {a b c : Value} (h : Box3 V k a b c) : k < V.heap.size := World.block_lt_of_cell? V ⟨k, 0, none⟩ h.c0
theorem Box3.keep {V V' : World} {k : Nat} {a b c : Value} (h : Box3 V k a b c) (hb : V'.heap[k]? = V.heap[k]?) : Box3 V' k a b c :=
  ⟨(World.cell?_of_block (a := ⟨k, 0, none⟩) hb).trans h.c0, (World.cell?_of_block (a := ⟨k, 1, none⟩) hb).trans h.c1, (World.cell?_of_block (a := ⟨k, 2, none⟩) hb).trans h.c2⟩
theorem Box3.below {V V' : World} {k : Nat} {a b c : Value} (h : Box3 V k a b c) (hb : Below V.heap.size V V') : Box3 V' k a b c := h.keep (hb.block k h.lt)
theorem Box3.wrote {V V' : World} {k : Nat} {a b c : Value} {S : Nat → Prop} (h : Box3 V k a b c) (hw : Wrote V V' S) (hk : ¬ S k) : Box3 V' k a b c := h.keep (hw.block k h.lt hk)
theorem Box3.grown {V V' : World} {k : Nat} {a b c : Value} {row : Option Nat} (h : Box3 V k a b c) (hg : V.grownBy V' row) (hk : some k ≠ row) : Box3 V' k a b c := h.keep (hg.block k h.lt hk)
theorem Box3.drew {V : World} {k : Nat} {a b c : Value} (h : Box3 V k a b c) : Box3 V.drew k a b c := ⟨h.c0, h.c1, h.c2⟩
theorem Box3.new (V : World) (a b c : Value) (t : TypeId) : Box3 (V.alloc (.cells #[a, b, c] t)) V.heap.size a b c ∧ Below V.heap.size V (V.alloc (.cells #[a, b, c] t)) := by
  have hb : Below V.heap.size V (V.alloc (.cells #[a, b, c] t)) := (Below.refl _ _).alloc (Nat.le_refl _) _
  have hA := heap_alloc_new V (.cells #[a, b, c] t)
  generalize V.alloc (.cells #[a, b, c] t) = W at hb hA ⊢
  exact ⟨⟨by simp [World.cell?, hA], by simp [World.cell?, hA], by simp [World.cell?, hA]⟩, hb⟩

theorem short_mem {fs : List Fn} (h : ShortF fs) {f : Fn} (hf : f ∈ fs) : f.2.2.length ≤ 1048576 := by
  obtain ⟨j, hj, rfl⟩ := List.mem_iff_getElem.1 hf
  have := (h j).2.1
  rw [List.getD_eq_getElem?_getD, List.getElem?_eq_getElem hj] at this
  exact this

/-- A package that a call owns can be read. -/
theorem own_pk {w : World} {base : Nat} {vi vf : Value} {ims : List (List UInt8)} {xs : List FV} {fs : List Fn} (hoi : w.ownsRow base 9 1 vi ims.length (strV ims)) (hof : FnsOwn w base vf xs) (hxs : xs.map (·.1) = fs) :
    ∃ ai ci af cf, vi = .slice ai ims.length ci ∧ vf = .slice af fs.length cf ∧ (ai = none → ci = 0) ∧ ((af = none → cf = 0) ∧ fs.length ≤ cf) ∧ TextsIn w ai ims.length ims ∧ FuncsIn w af fs.length fs := by
  obtain ⟨ai, ci, rfl, hic, hit⟩ := own_texts0 hoi
  obtain ⟨af, cf, rfl, hfc, hif⟩ := hof.in
  have hl : xs.length = fs.length := by rw [← hxs, List.length_map]
  have hcp : fs.length ≤ cf := by
    rcases hof.row.2 with ⟨e, h0⟩ | ⟨g, cap, cur, e, _, _, hc, _⟩
    · rw [← hl, h0]; exact Nat.zero_le _
    · injection e with _ _ e3
      rw [e3, ← hl]; exact hc
  rw [hxs, hl] at hif
  exact ⟨ai, ci, af, cf, rfl, by rw [hl], hic, ⟨hfc, hcp⟩, hit, hif⟩

/-- A right package is small. -/
theorem pkgB_small {p : Pk} (h : pkgB p = true) : p.2.1.length ≤ 6 ∧ p.2.2.length ≤ 8 ∧ ∀ f ∈ p.2.2, f.2.2.length ≤ 60 := by
  unfold pkgB at h
  rw [Bool.and_eq_true, Bool.and_eq_true, Bool.and_eq_true] at h
  obtain ⟨⟨_, hi, hf⟩, ha⟩ := h
  unfold importsB at hi
  rw [Bool.and_eq_true, Bool.and_eq_true] at hi
  have hf2 := of_decide_eq_true hf
  refine ⟨of_decide_eq_true hi.2.1, by omega, fun f hm => ?_⟩
  obtain ⟨j, hj, rfl⟩ := List.mem_iff_getElem.1 hm
  have h1 := ((of_decide_eq_true ha) j hj).1
  have hg : p.2.2.getD j fn0 = p.2.2[j] := by simp [List.getD, hj]
  rw [hg] at h1
  unfold funcB at h1
  rw [Bool.and_eq_true, Bool.and_eq_true] at h1
  exact (tree_end h1.2.2).1.2

end Go.Proofs.YtdjglpcllcjcfaaDoor

/-! The contracts of chapter 9's specification: what a call is told. -/
namespace Go.Proofs.YtdjglpcllcjcfaaDoor
open Go.RowKit

theorem node_new (V : World) (a b c d : Value) (t : TypeId) : ((V.alloc (.cells #[a, b, c, d] t)).cell? ⟨V.heap.size, 0, none⟩ = some a ∧ (V.alloc (.cells #[a, b, c, d] t)).cell? ⟨V.heap.size, 1, none⟩ = some b ∧ (V.alloc (.cells #[a, b, c, d] t)).cell? ⟨V.heap.size, 2, none⟩ = some c ∧ (V.alloc (.cells #[a, b, c, d] t)).cell? ⟨V.heap.size, 3, none⟩ = some d) ∧ Below V.heap.size V (V.alloc (.cells #[a, b, c, d] t)) := by
  have hb : Below V.heap.size V (V.alloc (.cells #[a, b, c, d] t)) := (Below.refl _ _).alloc (Nat.le_refl _) _
  have hA := heap_alloc_new V (.cells #[a, b, c, d] t)
  generalize V.alloc (.cells #[a, b, c, d] t) = W at hb hA ⊢
  exact ⟨⟨by simp [World.cell?, hA], by simp [World.cell?, hA], by simp [World.cell?, hA], by simp [World.cell?, hA]⟩, hb⟩

set_option maxHeartbeats 8000000 in
set_option maxRecDepth 100000 in
theorem specCall9 (a : Option Addr) (len cap : Nat) (ps : List Pk) (nm : List UInt8) (ia : Option Addr) (il ic : Nat) (fa : Option Addr) (fl fc : Nat) (ims : List (List UInt8)) (fs : List Fn) (at_ : Int) (n : Nd) (w : World)
    (hl : PkgsIn w a len ps) (hi : TextsIn w ia il ims) (hf : FuncsIn w fa fl fs) (hlen : len ≤ 1048576) (hil : il ≤ 1048576) (hfl : fl ≤ 1048576) (hsh : ShortPs ps) :
    Calls Tryd.prog 36 #[.slice a len cap, .agg #[.string ⟨nm.toArray⟩, .slice ia il ic, .slice fa fl fc], .int .i64 at_, nodeVal n] w fun e w' => e = .returned (.int .i64 (call9 ps (nm, ims, fs) at_ n)) ∧ Below w.heap.size w w' := by
  obtain ⟨k, A, x, fn⟩ := n
  unfold nodeVal
  simp only
  obtain ⟨bx, hbx⟩ := Box3.new w (.string ⟨nm.toArray⟩) (.slice ia il ic) (.slice fa fl fc) 33
  obtain ⟨W1, hW1⟩ : ∃ W1, w.alloc (.cells #[.string ⟨nm.toArray⟩, .slice ia il ic, .slice fa fl fc] 33) = W1 := ⟨_, rfl⟩
  have hs1 : W1.heap.size = w.heap.size + 1 := by rw [← hW1]; simp
  rw [hW1] at bx hbx
  obtain ⟨⟨n0, n1, n2, n3⟩, hb2⟩ := node_new W1 (.int .i64 k) (.int .i64 A) (.string ⟨x.toArray⟩) (.string ⟨fn.toArray⟩) 26
  obtain ⟨W2, hW2⟩ : ∃ W2, W1.alloc (.cells #[.int .i64 k, .int .i64 A, .string ⟨x.toArray⟩, .string ⟨fn.toArray⟩] 26) = W2 := ⟨_, rfl⟩
  have hs2 : W2.heap.size = w.heap.size + 1 + 1 := by rw [← hW2]; simp [hs1]
  rw [hW2, hs1] at n0 n1 n2 n3
  rw [hW2] at hb2
  have bx2 := bx.below hb2
  have hbw : Below w.heap.size w W2 := hbx.trans (hb2.mono (by omega))
  have p0 := bx2.c0
  have p1 := bx2.c1
  have p2 := bx2.c2
  have HI2 : Hid (TextsIn W2 ia il ims) := hi.below hbw
  have HF2 : Hid (FuncsIn W2 fa fl fs) := hf.below hbw
  have HP2 : Hid (PkgsIn W2 a len ps) := hl.below hbw
  have HB2 : Hid (Below w.heap.size w W2) := hbw
  have HBp2 : Hid (Box3 W2 w.heap.size (.string ⟨nm.toArray⟩) (.slice ia il ic) (.slice fa fl fc)) := bx2
  clear bx hbx bx2 hb2 hbw hi hf
  by_cases hxn : x = nm
  · subst hxn
    have hself : (x == x) = true := by simp
    have hselfn : (x != x) = false := by simp
    have HV : Hid (call9 ps (x, ims, fs) at_ (k, A, x, fn) = if atV fs fn < 0 ∨ (x = x ∧ at_ ≤ atV fs fn) then 2 else if (fs.getD (atV fs fn).toNat fn0).2.1 ≠ A then 3 else 0) := by exact (by
      unfold call9
      have h1 : farB ps (x, ims, fs) x = false := by unfold farB; exact decide_eq_false (fun h => h.1 rfl)
      have h2 : ofPk ps (x, ims, fs) x = (x, ims, fs) := by unfold ofPk; rw [if_pos rfl]
      simp only
      rw [h1, h2, if_neg (by simp)] : call9 ps (x, ims, fs) at_ (k, A, x, fn) = if atV fs fn < 0 ∨ (x = x ∧ at_ ≤ atV fs fn) then 2 else if (fs.getD (atV fs fn).toNat fn0).2.1 ≠ A then 3 else 0)
    obtain ⟨bq, hbq⟩ := Box3.new W2 (.string ⟨x.toArray⟩) (.slice ia il ic) (.slice fa fl fc) 33
    obtain ⟨W3, hW3⟩ : ∃ W3, W2.alloc (.cells #[.string ⟨x.toArray⟩, .slice ia il ic, .slice fa fl fc] 33) = W3 := ⟨_, rfl⟩
    rw [hW3] at bq hbq
    rw [hs2] at bq
    have HBq : Hid (Box3 W3 (w.heap.size + 1 + 1) (.string ⟨x.toArray⟩) (.slice ia il ic) (.slice fa fl fc)) := bq
    have HBp : Hid (Box3 W3 w.heap.size (.string ⟨x.toArray⟩) (.slice ia il ic) (.slice fa fl fc)) := HBp2.out.below hbq
    have HGn : Hid (w.heap.size + 1 < W3.heap.size) := by have := hbq.size; exact (by omega : w.heap.size + 1 < W3.heap.size)
    have HN2 : Hid (W3.cell? ⟨w.heap.size + 1, 2, none⟩ = some (.string ⟨x.toArray⟩)) := (hbq.cell (p := ⟨w.heap.size + 1, 2, none⟩) (by rw [hs2]; simp)).trans n2
    have HN1 : Hid (W3.cell? ⟨w.heap.size + 1, 1, none⟩ = some (.int .i64 A)) := (hbq.cell (p := ⟨w.heap.size + 1, 1, none⟩) (by rw [hs2]; simp)).trans n1
    have e3 := (hbq.cell (p := ⟨w.heap.size + 1, 3, none⟩) (by rw [hs2]; simp)).trans n3
    have e2 := HN2.out
    have q0 := bq.c0
    have q1 := bq.c1
    have q2 := bq.c2
    have pp0 := HBp.out.c0
    have HBW : Hid (Below w.heap.size w W3) := HB2.out.trans (hbq.mono HB2.out.size)
    have hqf := HF2.out.below hbq
    have HAt : Hid (_) := specAt x fn ia il ic fa fl fc fs W3 hqf hfl
    clear bq hbq
    go_enter Tryd.func36, Tryd.ntmps36
    obtain ⟨qfa, hqfa⟩ : ∃ qfa, qfa = fa := ⟨_, rfl⟩
    obtain ⟨qfl, hqfl⟩ : ∃ qfl, qfl = fl := ⟨_, rfl⟩
    obtain ⟨qfs, hqfs⟩ : ∃ qfs, qfs = fs := ⟨_, rfl⟩
    subst hqfa
    subst hqfl
    subst hqfs
    have HQ : Hid (FuncsIn W3 qfa qfl qfs) := hqf
    rcases at7_is qfs fn with eK | ⟨j, hj, eK, hjn⟩
    · have HR : Hid (call9 ps (x, ims, qfs) at_ (k, A, x, fn) = 2) := by exact (by rw [HV.out, eK, if_pos (Or.inl (by omega))] : call9 ps (x, ims, qfs) at_ (k, A, x, fn) = 2)
      rw [eK] at HAt
      go_wp2_with fail
      refine Calls.mono HAt.out ?_
      rintro e w5 ⟨rfl, hb5⟩
      have HB5 : Hid (Below w.heap.size w w5) := HBW.out.trans (hb5.mono HBW.out.size)
      have g0 := (HBq.out.below hb5).c0
      have g1 := (HBq.out.below hb5).c1
      have g2 := (HBq.out.below hb5).c2
      have m0 := (HBp.out.below hb5).c0
      have m2 := (hb5.cell (p := ⟨w.heap.size + 1, 2, none⟩) HGn.out).trans HN2.out
      have m1 := (hb5.cell (p := ⟨w.heap.size + 1, 1, none⟩) HGn.out).trans HN1.out
      clear hb5 hqf eK
      go_wp2
      go_ret
      exact ⟨by rw [HR.out]; rfl, HB5.out⟩
    · rw [eK] at HAt
      have hj0 : ¬ (j : Int) < 0 := by omega
      have hjl : j < qfl := by rw [← HQ.out.1]; exact hj
      have hjz : (j : Int) < (qfl : Int) := by omega
      by_cases hat : at_ ≤ (j : Int)
      · have HR : Hid (call9 ps (x, ims, qfs) at_ (k, A, x, fn) = 2) := by exact (by rw [HV.out, eK, if_pos (Or.inr ⟨rfl, hat⟩)] : call9 ps (x, ims, qfs) at_ (k, A, x, fn) = 2)
        go_wp2_with fail
        refine Calls.mono HAt.out ?_
        rintro e w5 ⟨rfl, hb5⟩
        have HB5 : Hid (Below w.heap.size w w5) := HBW.out.trans (hb5.mono HBW.out.size)
        have g0 := (HBq.out.below hb5).c0
        have g1 := (HBq.out.below hb5).c1
        have g2 := (HBq.out.below hb5).c2
        have m0 := (HBp.out.below hb5).c0
        have m2 := (hb5.cell (p := ⟨w.heap.size + 1, 2, none⟩) HGn.out).trans HN2.out
        have m1 := (hb5.cell (p := ⟨w.heap.size + 1, 1, none⟩) HGn.out).trans HN1.out
        clear hb5 hqf eK
        go_wp2
        go_ret
        exact ⟨by rw [HR.out]; rfl, HB5.out⟩
      · have HC7 : Hid (¬ ((j : Int) < 0 ∨ (x = x ∧ at_ ≤ (j : Int)))) := fun h => h.elim hj0 (fun h => hat h.2)
        go_wp2_with fail
        refine Calls.mono HAt.out ?_
        rintro e w5 ⟨rfl, hb5⟩
        have HB5 : Hid (Below w.heap.size w w5) := HBW.out.trans (hb5.mono HBW.out.size)
        have g0 := (HBq.out.below hb5).c0
        have g1 := (HBq.out.below hb5).c1
        have g2 := (HBq.out.below hb5).c2
        have m0 := (HBp.out.below hb5).c0
        have m2 := (hb5.cell (p := ⟨w.heap.size + 1, 2, none⟩) HGn.out).trans HN2.out
        have m1 := (hb5.cell (p := ⟨w.heap.size + 1, 1, none⟩) HGn.out).trans HN1.out
        have hq5 := HQ.out.below hb5
        obtain ⟨bq, oq, rfl, _, _, r1, _⟩ := hq5.2 j hjl
        obtain ⟨B, hB⟩ : ∃ B, (qfs.getD j fn0).2.1 = B := ⟨_, rfl⟩
        rw [hB] at r1
        clear hb5 hqf hq5
        by_cases hBA : B = A
        · have HR : Hid (call9 ps (x, ims, qfs) at_ (k, A, x, fn) = 0) := by exact (by rw [HV.out, eK, if_neg HC7.out, Int.toNat_natCast, hB, if_neg (by simpa using hBA)] : call9 ps (x, ims, qfs) at_ (k, A, x, fn) = 0)
          have hne : (B != A) = false := by simp [hBA]
          subst hBA
          have hne2 : (B == B) = true := by simp
          clear eK hB
          go_wp2_with fail
          go_quiet (fail)
          go_wp2
          go_ret
          exact ⟨by rw [HR.out]; rfl, HB5.out.trans ⟨rfl, rfl, rfl, Nat.le_refl _, fun _ _ => rfl⟩⟩
        · have HR : Hid (call9 ps (x, ims, qfs) at_ (k, A, x, fn) = 3) := by exact (by rw [HV.out, eK, if_neg HC7.out, Int.toNat_natCast, hB, if_pos hBA] : call9 ps (x, ims, qfs) at_ (k, A, x, fn) = 3)
          have hne : (B != A) = true := by rw [bne_iff_ne]; exact hBA
          have hne2 : (B == A) = false := beq_eq_false_iff_ne.2 hBA
          have hne3 : ¬ B = A := hBA
          clear eK hB
          go_wp2_with fail
          go_quiet (fail)
          go_wp2
          go_ret
          exact ⟨by rw [HR.out]; rfl, HB5.out.trans ⟨rfl, rfl, rfl, Nat.le_refl _, fun _ _ => rfl⟩⟩
  · have hne : (x != nm) = true := by rw [bne_iff_ne]; exact hxn
    have hne2 : (x == nm) = false := beq_eq_false_iff_ne.2 hxn
    by_cases hin : x ∈ ims
    · have HH : Hid (_) := specHas ia il ic ims x W2 HI2.out (by omega)
      rw [decide_eq_true hin] at HH
      have HA8 : Hid (∀ W, PkgsIn W a len ps → Calls Tryd.prog 34 #[.slice a len cap, .string ⟨x.toArray⟩] W fun e w' => e = .returned (.int .i64 (at8 ps x)) ∧ w' = W) := fun W hW => specAt8 a len cap ps x W hW hlen
      rcases at8_is ps x with ⟨e8, _⟩ | ⟨j0, hj0, e8, hjn, _⟩
      · have HR : Hid (call9 ps (nm, ims, fs) at_ (k, A, x, fn) = 1) := by exact (by
          unfold call9
          rw [if_pos (by unfold farB; exact decide_eq_true ⟨hxn, Or.inr (by show at8 ps x < 0; omega)⟩)] : call9 ps (nm, ims, fs) at_ (k, A, x, fn) = 1)
        rw [e8] at HA8
        clear e8 hin
        go_enter Tryd.func36, Tryd.ntmps36
        go_wp2_with fail
        refine Calls.mono HH.out ?_
        rintro e w5 ⟨rfl, hw5⟩
        obtain rfl := hw5.symm
        go_wp2_with fail
        refine Calls.mono (HA8.out W2 HP2.out) ?_
        rintro e w5 ⟨rfl, hw5⟩
        obtain rfl := hw5.symm
        go_wp2
        go_ret
        exact ⟨by rw [HR.out]; rfl, HB2.out⟩
      · rw [e8] at HA8
        have hjz0 : ¬ (j0 : Int) < 0 := by omega
        have hl0 : ps.length = len := hl.1
        have hjlen : (j0 : Int) < (len : Int) := by omega
        obtain ⟨b, off, rfl, hbl, c0, qia, qil, qic, qfa, qfl, qfc, c1, c2, _, hqf2⟩ := HP2.out.2 j0 (by omega)
        have hqsh := (hsh j0).2.2.2.1
        have hqfl : qfl ≤ 1048576 := by rw [← hqf2.1]; exact hqsh
        obtain ⟨q, hq⟩ : ∃ q, ps.getD j0 pk0 = q := ⟨_, rfl⟩
        have HV : Hid (call9 ps (nm, ims, fs) at_ (k, A, x, fn) = if atV q.2.2 fn < 0 ∨ (x = nm ∧ at_ ≤ atV q.2.2 fn) then 2 else if (q.2.2.getD (atV q.2.2 fn).toNat fn0).2.1 ≠ A then 3 else 0) := by exact (by
          unfold call9
          have h1 : farB ps (nm, ims, fs) x = false := by unfold farB; exact decide_eq_false (fun h => h.2.elim (fun e => e hin) (fun e => by omega))
          have h2 : ofPk ps (nm, ims, fs) x = q := by unfold ofPk; rw [if_neg hxn, e8, Int.toNat_natCast, hq]
          simp only
          rw [h1, h2, if_neg (by simp)] : call9 ps (nm, ims, fs) at_ (k, A, x, fn) = if atV q.2.2 fn < 0 ∨ (x = nm ∧ at_ ≤ atV q.2.2 fn) then 2 else if (q.2.2.getD (atV q.2.2 fn).toNat fn0).2.1 ≠ A then 3 else 0)
        rw [hq] at c0 hqf2
        obtain ⟨qn, qims, qfs⟩ := q
        simp only at c0 hqf2
        -- q, first as p is, then as the one that is called
        obtain ⟨bq, hbq⟩ := Box3.new W2 (.string ⟨nm.toArray⟩) (.slice ia il ic) (.slice fa fl fc) 33
        obtain ⟨W3, hW3⟩ : ∃ W3, W2.alloc (.cells #[.string ⟨nm.toArray⟩, .slice ia il ic, .slice fa fl fc] 33) = W3 := ⟨_, rfl⟩
        rw [hW3] at bq hbq
        rw [hs2] at bq
        have hfz : ∀ i, W3.frozen? ⟨w.heap.size + 1 + 1, i, none⟩ = false := fun i => by rw [← hW3, ← hs2]; exact World.frozen?_alloc_at _ _ _ _ rfl
        obtain ⟨W4, hW4, q0, q1, q2, hg4⟩ := set3 (.string ⟨qn.toArray⟩) (.slice qia qil qic) (.slice qfa qfl qfc) bq.c0 bq.c1 bq.c2
        have hb24 : Below W2.heap.size W2 W4 := hbq.grown hg4 hbq.size (fun q e => by injection e with e; have e5 : w.heap.size + 1 + 1 = q := e; omega)
        have HBq : Hid (Box3 W4 (w.heap.size + 1 + 1) (.string ⟨qn.toArray⟩) (.slice qia qil qic) (.slice qfa qfl qfc)) := ⟨q0, q1, q2⟩
        have HBp : Hid (Box3 W4 w.heap.size (.string ⟨nm.toArray⟩) (.slice ia il ic) (.slice fa fl fc)) := HBp2.out.below hb24
        have HGn : Hid (w.heap.size + 1 < W4.heap.size) := by have := hb24.size; exact (by omega : w.heap.size + 1 < W4.heap.size)
        have HN2 : Hid (W4.cell? ⟨w.heap.size + 1, 2, none⟩ = some (.string ⟨x.toArray⟩)) := (hb24.cell (p := ⟨w.heap.size + 1, 2, none⟩) (by rw [hs2]; simp)).trans n2
        have HN1 : Hid (W4.cell? ⟨w.heap.size + 1, 1, none⟩ = some (.int .i64 A)) := (hb24.cell (p := ⟨w.heap.size + 1, 1, none⟩) (by rw [hs2]; simp)).trans n1
        have e3 := (hb24.cell (p := ⟨w.heap.size + 1, 3, none⟩) (by rw [hs2]; simp)).trans n3
        have b30 := bq.c0
        have b31 := bq.c1
        have b32 := bq.c2
        have n32 := (hbq.cell (p := ⟨w.heap.size + 1, 2, none⟩) (by rw [hs2]; simp)).trans n2
        have pp0 := (HBp2.out.below hbq).c0
        have d0 := (hbq.cell (p := ⟨b, off + j0 * 3, none⟩) hbl).trans c0
        have d1 := (hbq.cell (p := ⟨b, off + j0 * 3 + 1, none⟩) hbl).trans c1
        have d2 := (hbq.cell (p := ⟨b, off + j0 * 3 + 2, none⟩) hbl).trans c2
        have hz0 := hfz 0
        have hz1 := hfz 1
        have hz2 := hfz 2
        have HBW : Hid (Below w.heap.size w W4) := HB2.out.trans (hb24.mono HB2.out.size)
        have HP3 : Hid (PkgsIn W3 (some ⟨b, off, none⟩) len ps) := HP2.out.below hbq
        have hqf := hqf2.below hb24
        have HAt : Hid (_) := specAt qn fn qia qil qic qfa qfl qfc qfs W4 hqf hqfl
        simp only at HV
        clear bq hbq hb24 hfz hq hqf2 e8 hin hg4 hsh hqsh hl
        go_enter Tryd.func36, Tryd.ntmps36
        go_wp2_with fail
        refine Calls.mono HH.out ?_
        rintro e w5 ⟨rfl, hw5⟩
        obtain rfl := hw5.symm
        go_wp2_with fail
        refine Calls.mono (HA8.out W2 HP2.out) ?_
        rintro e w5 ⟨rfl, hw5⟩
        obtain rfl := hw5.symm
        go_wp2_with fail
        refine Calls.mono (HA8.out W3 HP3.out) ?_
        rintro e w5 ⟨rfl, hw5⟩
        obtain rfl := hw5.symm
        have HQ : Hid (FuncsIn W4 qfa qfl qfs) := hqf
        rcases at7_is qfs fn with eK | ⟨j, hj, eK, hjn⟩
        · have HR : Hid (call9 ps (nm, ims, fs) at_ (k, A, x, fn) = 2) := by exact (by rw [HV.out, eK, if_pos (Or.inl (by omega))] : call9 ps (nm, ims, fs) at_ (k, A, x, fn) = 2)
          rw [eK] at HAt
          go_wp2_with fail
          refine Calls.mono HAt.out ?_
          rintro e w5 ⟨rfl, hb5⟩
          have HB5 : Hid (Below w.heap.size w w5) := HBW.out.trans (hb5.mono HBW.out.size)
          have g0 := (HBq.out.below hb5).c0
          have g1 := (HBq.out.below hb5).c1
          have g2 := (HBq.out.below hb5).c2
          have m0 := (HBp.out.below hb5).c0
          have m2 := (hb5.cell (p := ⟨w.heap.size + 1, 2, none⟩) HGn.out).trans HN2.out
          have m1 := (hb5.cell (p := ⟨w.heap.size + 1, 1, none⟩) HGn.out).trans HN1.out
          clear hb5 hqf eK
          go_wp2
          go_ret
          exact ⟨by rw [HR.out]; rfl, HB5.out⟩
        · rw [eK] at HAt
          have hj0 : ¬ (j : Int) < 0 := by omega
          have hjl : j < qfl := by rw [← HQ.out.1]; exact hj
          have hjz : (j : Int) < (qfl : Int) := by omega
          have HC7 : Hid (¬ ((j : Int) < 0 ∨ (x = nm ∧ at_ ≤ (j : Int)))) := fun h => h.elim hj0 (fun h => hxn h.1)
          go_wp2_with fail
          refine Calls.mono HAt.out ?_
          rintro e w5 ⟨rfl, hb5⟩
          have HB5 : Hid (Below w.heap.size w w5) := HBW.out.trans (hb5.mono HBW.out.size)
          have g0 := (HBq.out.below hb5).c0
          have g1 := (HBq.out.below hb5).c1
          have g2 := (HBq.out.below hb5).c2
          have m0 := (HBp.out.below hb5).c0
          have m2 := (hb5.cell (p := ⟨w.heap.size + 1, 2, none⟩) HGn.out).trans HN2.out
          have m1 := (hb5.cell (p := ⟨w.heap.size + 1, 1, none⟩) HGn.out).trans HN1.out
          have hq5 := HQ.out.below hb5
          obtain ⟨bq, oq, rfl, _, _, r1, _⟩ := hq5.2 j hjl
          obtain ⟨B, hB⟩ : ∃ B, (qfs.getD j fn0).2.1 = B := ⟨_, rfl⟩
          rw [hB] at r1
          clear hb5 hqf hq5
          by_cases hBA : B = A
          · have HR : Hid (call9 ps (nm, ims, fs) at_ (k, A, x, fn) = 0) := by exact (by rw [HV.out, eK, if_neg HC7.out, Int.toNat_natCast, hB, if_neg (by simpa using hBA)] : call9 ps (nm, ims, fs) at_ (k, A, x, fn) = 0)
            have hne : (B != A) = false := by simp [hBA]
            subst hBA
            have hne2 : (B == B) = true := by simp
            clear eK hB
            go_wp2_with fail
            go_quiet (fail)
            go_wp2
            go_ret
            exact ⟨by rw [HR.out]; rfl, HB5.out.trans ⟨rfl, rfl, rfl, Nat.le_refl _, fun _ _ => rfl⟩⟩
          · have HR : Hid (call9 ps (nm, ims, fs) at_ (k, A, x, fn) = 3) := by exact (by rw [HV.out, eK, if_neg HC7.out, Int.toNat_natCast, hB, if_pos hBA] : call9 ps (nm, ims, fs) at_ (k, A, x, fn) = 3)
            have hne : (B != A) = true := by rw [bne_iff_ne]; exact hBA
            have hne2 : (B == A) = false := beq_eq_false_iff_ne.2 hBA
            have hne3 : ¬ B = A := hBA
            clear eK hB
            go_wp2_with fail
            go_quiet (fail)
            go_wp2
            go_ret
            exact ⟨by rw [HR.out]; rfl, HB5.out.trans ⟨rfl, rfl, rfl, Nat.le_refl _, fun _ _ => rfl⟩⟩
    · have HH : Hid (_) := specHas ia il ic ims x W2 HI2.out (by omega)
      rw [decide_eq_false hin] at HH
      have HR : Hid (call9 ps (nm, ims, fs) at_ (k, A, x, fn) = 1) := by exact (by
        unfold call9
        rw [if_pos (by unfold farB; exact decide_eq_true ⟨hxn, Or.inl hin⟩)] : call9 ps (nm, ims, fs) at_ (k, A, x, fn) = 1)
      clear hin
      go_enter Tryd.func36, Tryd.ntmps36
      go_wp2_with (go_at_call 60; refine Calls.mono HH.out ?_; rintro e w5 ⟨rfl, hw5⟩; obtain rfl := hw5.symm)
      go_ret
      exact ⟨by rw [HR.out]; rfl, HB2.out⟩

end Go.Proofs.YtdjglpcllcjcfaaDoor

/-! The contracts of chapter 9's specification: CallCode, what is wrong in a function. -/
namespace Go.Proofs.YtdjglpcllcjcfaaDoor
open Go.RowKit

set_option maxHeartbeats 4000000 in
set_option maxRecDepth 100000 in
theorem specCallCode (a : Option Addr) (len cap : Nat) (ps : List Pk) (s : List UInt8) (at_ : Int) (n : Nd) (w : World) (hl : PkgsIn w a len ps) (hlen : len ≤ 1048576) (hsh : ShortPs ps) (hnp : n.2.2.1.length ≤ 1048576) (hnf : n.2.2.2.length ≤ 1048576) :
    Calls Tryd.prog 9 #[.slice a len cap, .string ⟨s.toArray⟩, .int .i64 at_, nodeVal n] w fun e w' => e = .returned (.int .i64 (callV ps s at_ n)) ∧ Below w.heap.size w w' := by
  have HNo : Hid (∀ W, Calls Tryd.prog 35 #[nodeVal n] W fun e w' => e = .returned (.bool (nodeB n)) ∧ Below W.heap.size W w') := fun W => specNodeOk n W hnp hnf
  have HC9 : Hid (∀ W (nm : List UInt8) (ia : Option Addr) (il ic : Nat) (fa : Option Addr) (fl fc : Nat) (ims : List (List UInt8)) (fs : List Fn), PkgsIn W a len ps → TextsIn W ia il ims → FuncsIn W fa fl fs → il ≤ 1048576 → fl ≤ 1048576 → Calls Tryd.prog 36 #[.slice a len cap, .agg #[.string ⟨nm.toArray⟩, .slice ia il ic, .slice fa fl fc], .int .i64 at_, nodeVal n] W fun e w' => e = .returned (.int .i64 (call9 ps (nm, ims, fs) at_ n)) ∧ Below W.heap.size W w') := fun W nm ia il ic fa fl fc ims fs h1 h2 h3 h4 h5 => specCall9 a len cap ps nm ia il ic fa fl fc ims fs at_ n W h1 h2 h3 hlen h4 h5 hsh
  have HV : Hid (callV ps s at_ n = if callB ps s at_ n then call9 ps (pkOf ps s) at_ n else -1) := rfl
  obtain ⟨k, A, x, fn⟩ := n
  unfold nodeVal at HNo HC9 ⊢
  simp only at HNo HC9 ⊢
  obtain ⟨⟨n0, n1, n2, n3⟩, hb1⟩ := node_new w (.int .i64 k) (.int .i64 A) (.string ⟨x.toArray⟩) (.string ⟨fn.toArray⟩) 26
  obtain ⟨W1, hW1⟩ : ∃ W1, w.alloc (.cells #[.int .i64 k, .int .i64 A, .string ⟨x.toArray⟩, .string ⟨fn.toArray⟩] 26) = W1 := ⟨_, rfl⟩
  have hs1 : W1.heap.size = w.heap.size + 1 := by rw [← hW1]; simp
  rw [hW1] at n0 n1 n2 n3 hb1
  have HP1 : Hid (PkgsIn W1 a len ps) := hl.below hb1
  have HB1 : Hid (Below w.heap.size w W1) := hb1
  have HPr : Hid (_) := specProjectOk a len cap ps W1 HP1.out hlen hsh
  clear hl hb1
  rcases hp : projB ps with _ | _
  · have HR : Hid (callV ps s at_ (k, A, x, fn) = -1) := by exact (by rw [HV.out, if_neg (fun h => by have := h.1; rw [hp] at this; cases this)] : callV ps s at_ (k, A, x, fn) = -1)
    rw [hp] at HPr
    clear hp
    go_enter Tryd.func9, Tryd.ntmps9
    go_wp2_with (go_at_call 33; refine Calls.mono HPr.out ?_; rintro e w2 ⟨rfl, hb2⟩)
    go_ret
    exact ⟨by rw [HR.out]; rfl, HB1.out.trans (hb2.mono HB1.out.size)⟩
  rw [hp] at HPr
  have HA8 : Hid (∀ W, PkgsIn W a len ps → Calls Tryd.prog 34 #[.slice a len cap, .string ⟨s.toArray⟩] W fun e w' => e = .returned (.int .i64 (at8 ps s)) ∧ w' = W) := fun W hW => specAt8 a len cap ps s W hW hlen
  go_enter Tryd.func9, Tryd.ntmps9
  go_wp2_with fail
  refine Calls.mono HPr.out ?_
  rintro e w2 ⟨rfl, hb2⟩
  have HP2 : Hid (PkgsIn w2 a len ps) := HP1.out.below hb2
  have HB2 : Hid (Below w.heap.size w w2) := HB1.out.trans (hb2.mono HB1.out.size)
  have c0 := (hb2.cell (p := ⟨w.heap.size, 0, none⟩) (by rw [hs1]; simp)).trans n0
  have c1 := (hb2.cell (p := ⟨w.heap.size, 1, none⟩) (by rw [hs1]; simp)).trans n1
  have c2 := (hb2.cell (p := ⟨w.heap.size, 2, none⟩) (by rw [hs1]; simp)).trans n2
  have c3 := (hb2.cell (p := ⟨w.heap.size, 3, none⟩) (by rw [hs1]; simp)).trans n3
  have hsz2 : w.heap.size < w2.heap.size := by have := hb2.size; omega
  clear hb2 HPr HP1 HB1 n0 n1 n2 n3 hW1
  have HAs : Hid (_) := HA8.out w2 HP2.out
  rcases at8_is ps s with ⟨e8, _⟩ | ⟨j, hj, e8, hjn, hsn⟩
  · have HR : Hid (callV ps s at_ (k, A, x, fn) = -1) := by exact (by rw [HV.out, if_neg (fun h => by have := h.2.1; omega)] : callV ps s at_ (k, A, x, fn) = -1)
    rw [e8] at HAs
    clear hp e8
    go_wp2_with (go_at_call 34; refine Calls.mono HAs.out ?_; rintro e w3 ⟨rfl, hw3⟩; obtain rfl := hw3.symm)
    go_ret
    exact ⟨by rw [HR.out]; rfl, HB2.out⟩
  have hj0 : ¬ (j : Int) < 0 := by omega
  have hpk : pkOf ps s = ps.getD j pk0 := by unfold pkOf; rw [e8]; rfl
  rw [e8] at HAs
  go_wp2_with fail
  refine Calls.mono HAs.out ?_
  rintro e w3 ⟨rfl, hw3⟩
  obtain rfl := hw3.symm
  have HNk : Hid (_) := HNo.out w2
  clear HAs
  go_wp2_with fail
  rcases hnb : nodeB (k, A, x, fn) with _ | _
  · have HR : Hid (callV ps s at_ (k, A, x, fn) = -1) := by exact (by rw [HV.out, if_neg (fun h => by have := h.2.2.1; rw [hnb] at this; cases this)] : callV ps s at_ (k, A, x, fn) = -1)
    rw [hnb] at HNk
    refine Calls.mono HNk.out ?_
    rintro e w4 ⟨rfl, hb4⟩
    have HB4 : Hid (Below w.heap.size w w4) := HB2.out.trans (hb4.mono HB2.out.size)
    clear hb4 hnb hp
    go_wp2
    go_ret
    exact ⟨by rw [HR.out]; rfl, HB4.out⟩
  rw [hnb] at HNk
  refine Calls.mono HNk.out ?_
  rintro e w4 ⟨rfl, hb4⟩
  have HB4 : Hid (Below w.heap.size w w4) := HB2.out.trans (hb4.mono HB2.out.size)
  have HP4 : Hid (PkgsIn w4 a len ps) := HP2.out.below hb4
  have d0 := (hb4.cell (p := ⟨w.heap.size, 0, none⟩) hsz2).trans c0
  have d1 := (hb4.cell (p := ⟨w.heap.size, 1, none⟩) hsz2).trans c1
  have d2 := (hb4.cell (p := ⟨w.heap.size, 2, none⟩) hsz2).trans c2
  have d3 := (hb4.cell (p := ⟨w.heap.size, 3, none⟩) hsz2).trans c3
  have hsz4 : w.heap.size < w4.heap.size := Nat.lt_of_lt_of_le hsz2 hb4.size
  clear hb4 HP2 HB2 c0 c1 c2 c3 HNk HNo
  by_cases hk8 : k = 8
  · subst hk8
    obtain ⟨b, off, rfl, hbl, r0, ia, il, ic, fa, fl, fc, r1, r2, hti, hfi⟩ := HP4.out.2 j (by rw [← HP4.out.1]; exact hj)
    have hsj := hsh j
    have hil : il ≤ 1048576 := by rw [← hti.1]; exact hsj.2.1
    have hfl : fl ≤ 1048576 := by rw [← hfi.1]; exact hsj.2.2.2.1
    have hfl0 := hfi.1
    have hjlen : (j : Int) < (len : Int) := by have := HP4.out.1; omega
    obtain ⟨p, hpe⟩ : ∃ p, ps.getD j pk0 = p := ⟨_, rfl⟩
    rw [hpe] at hpk r0 hti hfi hfl0
    have HB : Hid (callB ps s at_ (8, A, x, fn) ↔ 0 ≤ at_ ∧ at_ < (fl : Int)) := by exact (by
      unfold callB
      rw [hpk, hp, hnb, hfl0]
      exact ⟨fun h => ⟨h.2.2.2.2.1, h.2.2.2.2.2⟩, fun h => ⟨rfl, by omega, rfl, rfl, h.1, h.2⟩⟩ : callB ps s at_ (8, A, x, fn) ↔ 0 ≤ at_ ∧ at_ < (fl : Int))
    rw [hpk] at HV
    obtain ⟨nm, ims, fs⟩ := p
    simp only at r0 hti hfi
    obtain ⟨bx, hbx⟩ := Box3.new w4 (.string ⟨nm.toArray⟩) (.slice ia il ic) (.slice fa fl fc) 33
    obtain ⟨W5, hW5⟩ : ∃ W5, w4.alloc (.cells #[.string ⟨nm.toArray⟩, .slice ia il ic, .slice fa fl fc] 33) = W5 := ⟨_, rfl⟩
    rw [hW5] at bx hbx
    have b0 := bx.c0
    have b1 := bx.c1
    have b2 := bx.c2
    have e0 := (hbx.cell (p := ⟨w.heap.size, 0, none⟩) hsz4).trans d0
    have e1 := (hbx.cell (p := ⟨w.heap.size, 1, none⟩) hsz4).trans d1
    have e2 := (hbx.cell (p := ⟨w.heap.size, 2, none⟩) hsz4).trans d2
    have e3 := (hbx.cell (p := ⟨w.heap.size, 3, none⟩) hsz4).trans d3
    have HB5 : Hid (Below w.heap.size w W5) := HB4.out.trans (hbx.mono HB4.out.size)
    have HAs : Hid (_) := HA8.out w4 HP4.out
    rw [e8] at HAs
    have HCl : Hid (_) := HC9.out W5 nm ia il ic fa fl fc ims fs (HP4.out.below hbx) (hti.below hbx) (hfi.below hbx) hil hfl
    clear bx hbx hp hnb hpk hpe hti hfi hsj e8 hfl0 HC9 HA8 hsh
    by_cases hat0 : at_ < 0
    · have HR : Hid (callV ps s at_ (8, A, x, fn) = -1) := by exact (by rw [HV.out, if_neg (fun h => by have := (HB.out.1 h).1; omega)] : callV ps s at_ (8, A, x, fn) = -1)
      go_wp2_with (go_at_call 34; refine Calls.mono HAs.out ?_; rintro e w6 ⟨rfl, hw6⟩; obtain rfl := hw6.symm)
      go_ret
      exact ⟨by rw [HR.out]; rfl, HB5.out⟩
    · by_cases hatl : (fl : Int) ≤ at_
      · have HR : Hid (callV ps s at_ (8, A, x, fn) = -1) := by exact (by rw [HV.out, if_neg (fun h => by have := (HB.out.1 h).2; omega)] : callV ps s at_ (8, A, x, fn) = -1)
        go_wp2_with (go_at_call 34; refine Calls.mono HAs.out ?_; rintro e w6 ⟨rfl, hw6⟩; obtain rfl := hw6.symm)
        go_ret
        exact ⟨by rw [HR.out]; rfl, HB5.out⟩
      · have HR : Hid (callV ps s at_ (8, A, x, fn) = call9 ps (nm, ims, fs) at_ (8, A, x, fn)) := by exact (by rw [HV.out, if_pos (HB.out.2 ⟨by omega, by omega⟩)] : callV ps s at_ (8, A, x, fn) = call9 ps (nm, ims, fs) at_ (8, A, x, fn))
        go_wp2_with fail
        refine Calls.mono HAs.out ?_
        rintro e w6 ⟨rfl, hw6⟩
        obtain rfl := hw6.symm
        go_wp2_with fail
        refine Calls.mono HCl.out ?_
        rintro e w7 ⟨rfl, hb7⟩
        have HB7 : Hid (Below w.heap.size w w7) := HB5.out.trans (hb7.mono HB5.out.size)
        clear hb7
        go_wp2
        go_ret
        exact ⟨by rw [HR.out]; rfl, HB7.out⟩
  · have HR : Hid (callV ps s at_ (k, A, x, fn) = -1) := by exact (by rw [HV.out, if_neg (fun h => hk8 h.2.2.2.1)] : callV ps s at_ (k, A, x, fn) = -1)
    have hkb : (k != 8) = true := by rw [bne_iff_ne]; exact hk8
    have hkb2 : (k == 8) = false := beq_eq_false_iff_ne.2 hk8
    clear hp hnb
    go_wp2
    go_ret
    exact ⟨by rw [HR.out]; rfl, HB4.out⟩


end Go.Proofs.YtdjglpcllcjcfaaDoor

/-! The contracts of chapter 9's specification: the first that is wrong in a project. -/
namespace Go.Proofs.YtdjglpcllcjcfaaDoor
open Go.RowKit

def fltVal (f : Flt) : Value := .agg #[.int .i64 f.1, .string ⟨f.2.1.toArray⟩, .string ⟨f.2.2.toArray⟩]
/-- The box of the answer. -/
def FBox (Z : World) (R : Nat) : Prop := Box3 Z R (.int .i64 0) (.string ⟨#[]⟩) (.string ⟨#[]⟩) ∧ ∀ j, Z.frozen? ⟨R, j, none⟩ = false
theorem FBox.below {Z Y : World} {R : Nat} (h : FBox Z R) (hb : Below Z.heap.size Z Y) : FBox Y R := ⟨h.1.below hb, fun j => (hb.frozen (p := ⟨R, j, none⟩) h.1.lt).trans (h.2 j)⟩
theorem FBox.new (w : World) (t : TypeId) : FBox (w.alloc (.cells #[.int .i64 0, .string ⟨#[]⟩, .string ⟨#[]⟩] t)) w.heap.size ∧ Below w.heap.size w (w.alloc (.cells #[.int .i64 0, .string ⟨#[]⟩, .string ⟨#[]⟩] t)) := by
  obtain ⟨h1, h2⟩ := Box3.new w (.int .i64 0) (.string ⟨#[]⟩) (.string ⟨#[]⟩) t
  exact ⟨⟨h1, fun j => World.frozen?_alloc_at _ _ _ _ rfl⟩, h2⟩
/-- The answer is written. -/
theorem FBox.put {Z w : World} {R : Nat} (h : FBox Z R) (hw : Below w.heap.size w Z) (hR : w.heap.size ≤ R) (f : Flt) : ∃ Y, ((Z.setCell ⟨R, 0, none⟩ (.int .i64 f.1)).setCell ⟨R, 1, none⟩ (.string ⟨f.2.1.toArray⟩)).setCell ⟨R, 2, none⟩ (.string ⟨f.2.2.toArray⟩) = Y ∧ Y.cell? ⟨R, 0, none⟩ = some (.int .i64 f.1) ∧ Y.cell? ⟨R, 1, none⟩ = some (.string ⟨f.2.1.toArray⟩) ∧ Y.cell? ⟨R, 2, none⟩ = some (.string ⟨f.2.2.toArray⟩) ∧ Below w.heap.size w Y := by
  obtain ⟨Y, hY, y0, y1, y2, hg⟩ := set3 (.int .i64 f.1) (.string ⟨f.2.1.toArray⟩) (.string ⟨f.2.2.toArray⟩) h.1.c0 h.1.c1 h.1.c2
  exact ⟨Y, hY, y0, y1, y2, hw.grown hg hw.size (fun k e => by injection e with e; have e2 : R = k := e; omega)⟩

/-- As far as i: the order, and behind it those that are left out. -/
def ordTo (ps : List Pk) (i : Nat) : List (List UInt8) := order8 ps ++ ((names8 ps).take i).filter (fun x => decide (¬ x ∈ order8 ps))
theorem ordTo_zero (ps : List Pk) : ordTo ps 0 = order8 ps := by simp [ordTo]
theorem ordTo_all {ps : List Pk} {i : Nat} (h : ps.length ≤ i) : ordTo ps i = ord9 ps := by
  unfold ordTo ord9
  rw [List.take_of_length_le (by simpa [names8] using h)]
theorem ordTo_step {ps : List Pk} {i : Nat} (hi : i < ps.length) : ordTo ps (i + 1) = if nmAt ps i ∈ order8 ps then ordTo ps i else ordTo ps i ++ [nmAt ps i] := by
  unfold ordTo
  have h1 : i < (names8 ps).length := by simpa [names8] using hi
  rw [List.take_succ_eq_append_getElem h1, nmAt_el hi, List.filter_append]
  by_cases h : nmAt ps i ∈ order8 ps
  · rw [if_pos h]; simp [h]
  · rw [if_neg h]; simp [h]
theorem ordTo_mem {ps : List Pk} (hn : (names8 ps).Nodup) {i : Nat} (hi : i < ps.length) : nmAt ps i ∈ ordTo ps i ↔ nmAt ps i ∈ order8 ps := by
  unfold ordTo
  rw [List.mem_append, List.mem_filter]
  refine ⟨fun h => h.elim id (fun h => ?_), Or.inl⟩
  obtain ⟨k, hk, e⟩ := List.mem_iff_getElem.1 h.1
  rw [List.length_take] at hk
  rw [List.getElem_take, nmAt_el (by simp [names8] at hk; omega)] at e
  have := nmAt_inj hn (by simp [names8] at hk; omega) hi e
  omega
theorem ordTo_len (ps : List Pk) (h : projB ps = true) (i : Nat) : (ordTo ps i).length ≤ 8 + i := by
  unfold ordTo
  rw [List.length_append]
  have h1 := (order8_end h).1.len
  have h2 := (projB_parts h).2.1.2
  have h3 := List.length_filter_le (fun x => decide (¬ x ∈ order8 ps)) ((names8 ps).take i)
  rw [List.length_take] at h3
  omega


end Go.Proofs.YtdjglpcllcjcfaaDoor

/-! The laws' own helper for chapter 9: two faults are alike. -/
namespace Go.Proofs.YtdjglpcllcjcfaaDoor
open Go.RowKit


end Go.Proofs.YtdjglpcllcjcfaaDoor
