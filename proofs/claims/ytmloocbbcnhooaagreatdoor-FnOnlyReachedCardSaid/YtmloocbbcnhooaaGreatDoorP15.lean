/-
  Parts of one proof, one behind the other: TreeI3, ValI.
-/
import Derived.Test.YtmloocbbcnhooaaGreatDoorP14
import Derived.Test.YtmloocbbcnhooaaGreatDoorP12
import Derived.Deep.RegionHeld3

/-! The contracts of chapter 6's landed code: NodeOk, KidsOf, EndOf, TreeOk, PartsOf. -/
namespace Go.Proofs.YtmloocbbcnhooaaGreatDoor
open Go.RowKit

theorem implNodeOk (n : Nd) (w : World) (_hi : IntN n) (hp : n.2.2.1.length ≤ 1048576) (hf : n.2.2.2.length ≤ 1048576) :
    Calls Tryz.prog 140 #[nodeVal n] w fun e w' => e = .returned (.bool (nodeB n)) ∧ Below w.heap.size w w' := by
  obtain ⟨k, a, p, f⟩ := n
  rcases shOf_kinds (k, a, p, f) with ⟨_, e⟩ | ⟨_, e⟩ | ⟨_, e⟩ | ⟨_, e⟩ | ⟨_, e⟩ | ⟨_, e⟩
  · rcases hs : shOk (.num a) with _ | _
    · exact nodeOk_num_no k a p f a w e hs
    · exact nodeOk_num_yes k a p f a w e hs
  · rcases hs : shOk (.arg a) with _ | _
    · exact nodeOk_arg_no k a p f a w e hs
    · exact nodeOk_arg_yes k a p f a w e hs
  · exact nodeOk_pair_yes k a p f k w e rfl
  · exact nodeOk_cond_yes k a p f w e rfl
  · rcases hs : shOk (.call p f a) with _ | _
    · exact nodeOk_call_no k a p f p f a w e hs hp hf
    · exact nodeOk_call_yes k a p f p f a w e hs hp hf
  · exact nodeOk_no_no k a p f w e rfl

set_option maxHeartbeats 1000000 in
set_option maxRecDepth 100000 in
theorem implKidsOf (n : Nd) (w : World) (hi : IntN n) (hp : n.2.2.1.length ≤ 1048576) (hf : n.2.2.2.length ≤ 1048576) :
    Calls Tryz.prog 130 #[nodeVal n] w fun e w' => e = .returned (.int .i64 (kidsOfV n)) ∧ Below w.heap.size w w' := by
  have HC : Hid (_) := fun W : World => implNodeOk n W hi hp hf
  have HS : Hid (_) := fun W : World => implShapeOf n W
  have HV : Hid (nodeB n = false → kidsOfV n = -1) := fun h => by unfold kidsOfV; rw [if_neg (by rw [h]; simp)]
  have HV2 : Hid (nodeB n = true → kidsOfV n = shKids (shOf n)) := fun h => by unfold kidsOfV; rw [if_pos h, kids_sh h]
  generalize nodeB n = nb at HC HV HV2
  generalize shOf n = s at HS HV2
  have HK : Hid (_) := fun W : World => implKidsOfShape s W
  obtain ⟨k, a, p, f⟩ := n
  unfold nodeVal at HC HS ⊢
  simp only at HC HS ⊢
  clear hi hp hf
  obtain ⟨W0, hW0⟩ : ∃ W0, w.alloc (.cells #[.int .i64 k, .int .i64 a, .string ⟨p.toArray⟩, .string ⟨f.toArray⟩] 39) = W0 := ⟨_, rfl⟩
  have st := NdAt.new w k a p f
  have hB : Below w.heap.size w W0 := by rw [← hW0]; exact (Below.refl _ w).alloc (Nat.le_refl _) _
  rw [hW0] at st
  obtain ⟨D, hD0⟩ : ∃ D, w.heap.size = D := ⟨_, rfl⟩
  rw [hD0] at st hB
  have hD : Hid (w.heap.size = D) := hD0
  have c0 := st.c0
  have c1 := st.c1
  have c2 := st.c2
  have c3 := st.c3
  go_enter Tryz.func130, Tryz.ntmps130
  go_wp2_with fail
  refine Calls.mono (HC.out _) ?_
  rintro e wn ⟨rfl, hbn⟩
  replace hB := hB.trans (hbn.mono (Nat.le_trans (Nat.le_of_eq hD.out.symm) hB.size))
  replace st := st.below hbn
  replace c0 := st.c0
  replace c1 := st.c1
  replace c2 := st.c2
  replace c3 := st.c3
  clear hbn
  rcases nb with _ | _
  · have HO : Hid (kidsOfV (k, a, p, f) = -1) := HV.out rfl
    go_wp2
    go_ret
    exact ⟨by rw [HO.out]; rfl, by rw [hD.out]; exact hB⟩
  · have HO : Hid (kidsOfV (k, a, p, f) = shKids s) := HV2.out rfl
    go_wp2_with fail
    refine Calls.mono (HS.out _) ?_
    rintro e wn ⟨rfl, hbn⟩
    replace hB := hB.trans (hbn.mono (Nat.le_trans (Nat.le_of_eq hD.out.symm) hB.size))
    clear hbn st c0 c1 c2 c3
    go_wp2_with fail
    refine Calls.mono (HK.out _) ?_
    rintro e wn ⟨rfl, hbn⟩
    replace hB := hB.trans (hbn.mono (Nat.le_trans (Nat.le_of_eq hD.out.symm) hB.size))
    go_wp2
    go_ret
    exact ⟨by rw [HO.out]; rfl, by rw [hD.out]; exact hB⟩

theorem kids_of (n : Nd) : (nodeB n = false ∧ kidsOfV n = -1) ∨ (nodeB n = true ∧ kidsOfV n = (kidsN n : Int) ∧ kidsN n ≤ 3) := by
  rcases h : nodeB n with _ | _
  · exact Or.inl ⟨rfl, by unfold kidsOfV; rw [if_neg (by rw [h]; simp)]⟩
  · obtain ⟨h1, h2⟩ := kidsV_ok h
    exact Or.inr ⟨rfl, by unfold kidsOfV; rw [if_pos h]; exact h1, h2⟩

set_option maxHeartbeats 2000000 in
set_option maxRecDepth 100000 in
theorem implEndOf (a : Option Addr) (len cap : Nat) (ns : List Nd) (at_ : Int) (w : World) (hin : NodesIn w a len ns) (hint : IntT ns) (hsh : ShortT ns) (hlen : len ≤ 1048576) (hat : -9223372036854775808 ≤ at_ ∧ at_ ≤ 9223372036854775807) :
    Calls Tryz.prog 115 #[.slice a len cap, .int .i64 at_] w fun e w' => e = .returned (.int .i64 (endV ns at_)) ∧ Below w.heap.size w w' := by
  obtain rfl : ns.length = len := hin.1
  by_cases h0 : at_ < 0
  · have HE : Hid (endV ns at_ = -1) := endV_out ns at_ (Or.inl h0)
    go_enter Tryz.func115, Tryz.ntmps115
    go_wp2
    go_ret
    exact ⟨by rw [HE.out]; rfl, Below.refl _ _⟩
  · obtain ⟨k0, rfl⟩ : ∃ k0 : Nat, at_ = (k0 : Int) := Int.eq_ofNat_of_zero_le (by omega)
    have h0' : ¬ (k0 : Int) < 0 := by omega
    have HE : Hid (endTo ns k0 1 = endV ns (k0 : Int)) := by
      by_cases hk : k0 < ns.length
      · exact endTo_start hk
      · exact (by rw [endTo_over (by omega), endV_out ns (k0 : Int) (Or.inr (by omega))] : endTo ns k0 1 = endV ns (k0 : Int))
    have HI : Hid (NodesIn w a ns.length ns) := hin
    have HS : Hid (ShortT ns) := hsh
    have HN0 : Hid (IntT ns) := hint
    clear hin hsh hint h0
    go_enter Tryz.func115, Tryz.ntmps115
    go_wp2
    go_loopw [1, 5] (fun av ov wr => ∃ k o : Nat, av = .int .i64 k ∧ ov = .int .i64 o ∧ (k ≤ ns.length ∨ (k = k0 ∧ o = 1)) ∧ o ≤ 1 + 3 * k ∧ Hid (endTo ns k o = endV ns (k0 : Int)) ∧ Below w.heap.size w wr) (fun av _ _ => ns.length - (intOf av).toNat)
    case atStart => exact ⟨k0, 1, rfl, rfl, Or.inr ⟨rfl, rfl⟩, by omega, HE, Below.refl _ _⟩
    case round =>
      obtain ⟨k, o, rfl, rfl, hk, ho, HT, hb⟩ := hrel
      clear HE
      by_cases hoz : o = 0
      · subst hoz
        have HF : Hid ((k : Int) = endV ns (k0 : Int)) := by exact (by rw [← HT.out, endTo_zero] : (k : Int) = endV ns (k0 : Int))
        go_wp2
        go_ret
        exact ⟨by rw [← HF.out]; rfl, hb⟩
      · obtain ⟨o', rfl⟩ : ∃ o', o = o' + 1 := ⟨o - 1, by omega⟩
        have ho1 : (0 : Int) < ((o' + 1 : Nat) : Int) := by omega
        by_cases hkl : (ns.length : Int) ≤ (k : Int)
        · have HF : Hid (endV ns (k0 : Int) = -1) := by exact (by rw [← HT.out, endTo_over (by omega)] : endV ns (k0 : Int) = -1)
          clear hoz
          go_wp2
          go_ret
          exact ⟨by rw [HF.out]; rfl, hb⟩
        · obtain ⟨b, off, rfl, hbl, hcells⟩ := (HI.out.below hb).at (by omega)
          obtain ⟨c0, c1, c2, c3⟩ := hcells k (by omega)
          have hs := HS.out k
          have hz := HN0.out k
          obtain ⟨n, hn⟩ : ∃ n, ns.getD k nd0 = n := ⟨_, rfl⟩
          rw [hn] at c0 c1 c2 c3 hs hz
          have HN : Hid (ns.getD k nd0 = n) := hn
          have HC : Hid (_) := fun W : World => implKidsOf n W hz hs.1 hs.2
          have HK : Hid (_) := kids_of n
          generalize hkn : kidsOfV n = kn at HC HK
          obtain ⟨kd, aa, p, f⟩ := n
          unfold nodeVal at HC
          simp only at c0 c1 c2 c3 HC
          clear hn hcells hoz hs hz hkn
          go_wp2_with fail
          refine Calls.mono (HC.out _) ?_
          rintro e w1 ⟨rfl, hb1⟩
          have hB1 := hb.trans (hb1.mono hb.size)
          clear c0 c1 c2 c3 hb1 hb HC
          rcases HK.out with ⟨hnb, rfl⟩ | ⟨hnb, rfl, hk3⟩
          · have HF : Hid (endV ns (k0 : Int) = -1) := by exact (by rw [← HT.out, endTo_bad (by omega) (by rw [HN.out]; exact hnb)] : endV ns (k0 : Int) = -1)
            clear hnb
            go_wp2
            go_ret
            exact ⟨by rw [HF.out]; rfl, hB1⟩
          · have HT2 : Hid (endTo ns (k + 1) (o' + kidsN (kd, aa, p, f)) = endV ns (k0 : Int)) := by
              have := endTo_round (o := o') (show k < ns.length by omega) (by rw [HN.out]; exact hnb)
              rw [HN.out] at this
              exact (by rw [← this]; exact HT.out : endTo ns (k + 1) (o' + kidsN (kd, aa, p, f)) = endV ns (k0 : Int))
            clear hnb
            generalize kidsN (kd, aa, p, f) = q at hk3 HT2 ⊢
            have hq1 : ((q : Int) == -1) = false := beq_eq_false_iff_ne.2 (by omega)
            have hkk : k ≤ ns.length := by omega
            clear hk HK
            go_wp2
            go_roundw
            case rel => exact ⟨k + 1, o' + q, by go_num, by go_num, Or.inl (by omega), by omega, HT2, hB1⟩
            case measure => simp [intOf]; omega

theorem treeB_many (ns : List Nd) (h : ¬ (1 ≤ ns.length ∧ ns.length ≤ 60)) : treeB ns = false := decide_eq_false (fun g => h g.1)
theorem treeB_end (ns : List Nd) (h : 1 ≤ ns.length ∧ ns.length ≤ 60) : treeB ns = (endV ns 0 == (ns.length : Int)) := by
  rw [Bool.eq_iff_iff, beq_iff_eq]
  unfold treeB
  rw [decide_eq_true_iff]
  exact ⟨fun g => g.2, fun g => ⟨h, g⟩⟩

set_option maxHeartbeats 1000000 in
set_option maxRecDepth 100000 in
theorem implTreeOk (a : Option Addr) (len cap : Nat) (ns : List Nd) (w : World) (hin : NodesIn w a len ns) (hint : IntT ns) (hsh : ShortT ns) (hlen : len ≤ 1048576) :
    Calls Tryz.prog 148 #[.slice a len cap] w fun e w' => e = .returned (.bool (treeB ns)) ∧ Below w.heap.size w w' := by
  obtain rfl : ns.length = len := hin.1
  have HC : Hid (_) := implEndOf a ns.length cap ns 0 w hin hint hsh hlen (by omega)
  by_cases h1 : (1 : Int) ≤ (ns.length : Int)
  · by_cases h2 : (ns.length : Int) ≤ 60
    · have HT : Hid (treeB ns = (endV ns 0 == (ns.length : Int))) := treeB_end ns (by omega)
      generalize endV ns 0 = e0 at HC HT
      clear hin hint hsh
      go_enter Tryz.func148, Tryz.ntmps148
      go_wp2_with fail
      refine Calls.mono HC.out ?_
      rintro e w1 ⟨rfl, hb1⟩
      go_wp2
      go_ret
      exact ⟨by rw [HT.out]; rfl, hb1⟩
    · have HT : Hid (treeB ns = false) := treeB_many ns (by omega)
      clear hin hint hsh
      go_enter Tryz.func148, Tryz.ntmps148
      go_wp2
      go_ret
      exact ⟨by rw [HT.out]; rfl, Below.refl _ _⟩
  · have HT : Hid (treeB ns = false) := treeB_many ns (by omega)
    clear hin hint hsh
    go_enter Tryz.func148, Tryz.ntmps148
    go_wp2
    go_ret
    exact ⟨by rw [HT.out]; rfl, Below.refl _ _⟩

end Go.Proofs.YtmloocbbcnhooaaGreatDoor

/-! The contracts of chapter 10's landed code: what a walk holds; a step of it. -/
namespace Go.Proofs.YtmloocbbcnhooaaGreatDoor
open Go.RowKit

/-- What all the calls of one asking have in common: the project, what is left. -/
structure Ak (Z : World) (A : Nat) (l : Value) (f : Nat) : Prop where
  c0 : Z.cell? ⟨A, 0, none⟩ = some l
  c1 : Z.cell? ⟨A, 1, none⟩ = some (.int .i64 (f : Int))
  fr : ∀ j, Z.frozen? ⟨A, j, none⟩ = false
theorem Ak.lt {Z : World} {A f : Nat} {l : Value} (h : Ak Z A l f) : A < Z.heap.size := World.block_lt_of_cell? Z ⟨A, 0, none⟩ h.c0
theorem Ak.keep {Z Y : World} {A f : Nat} {l : Value} (h : Ak Z A l f) (e : Y.heap[A]? = Z.heap[A]?) : Ak Y A l f :=
  ⟨(World.cell?_of_block (a := ⟨A, 0, none⟩) e).trans h.c0, (World.cell?_of_block (a := ⟨A, 1, none⟩) e).trans h.c1, fun j => by have := h.fr j; simp only [World.frozen?] at this ⊢; rw [e]; exact this⟩
theorem Ak.wrote {Z Y : World} {A f : Nat} {l : Value} {S : Nat → Prop} (h : Ak Z A l f) (hw : Wrote Z Y S) (hn : ¬ S A) : Ak Y A l f := h.keep (hw.block A h.lt hn)
theorem Ak.below {Z Y : World} {A f : Nat} {l : Value} (h : Ak Z A l f) (hb : Below Z.heap.size Z Y) : Ak Y A l f := h.keep (hb.block A h.lt)
theorem Ak.fuel {Z : World} {A f : Nat} {l : Value} (h : Ak Z A l f) (g : Nat) : Ak (Z.setCell ⟨A, 1, none⟩ (.int .i64 (g : Int))) A l g :=
  ⟨(World.cell?_setCell_other _ _ _ _ (by simp)).trans h.c0, World.cell?_setCell_same _ _ _ h.c1, fun j => by simpa using h.fr j⟩
/-- A block of three cells that can be written. -/
structure Bk (Z : World) (k : Nat) (a b c : Value) : Prop where
  box : Box3 Z k a b c
  fr : ∀ j, Z.frozen? ⟨k, j, none⟩ = false
theorem Bk.new (w : World) (a b c : Value) (t : TypeId) : Bk (w.alloc (.cells #[a, b, c] t)) w.heap.size a b c ∧ Below w.heap.size w (w.alloc (.cells #[a, b, c] t)) := by
  obtain ⟨h1, h2⟩ := Box3.new w a b c t
  exact ⟨⟨h1, fun j => World.frozen?_alloc_at _ _ _ _ rfl⟩, h2⟩
theorem Bk.keep {Z Y : World} {k : Nat} {a b c : Value} (h : Bk Z k a b c) (e : Y.heap[k]? = Z.heap[k]?) : Bk Y k a b c := ⟨h.box.keep e, fun j => by have := h.fr j; simp only [World.frozen?] at this ⊢; rw [e]; exact this⟩
theorem Bk.below {Z Y : World} {k : Nat} {a b c : Value} (h : Bk Z k a b c) (hb : Below Z.heap.size Z Y) : Bk Y k a b c := h.keep (hb.block k h.box.lt)
theorem Bk.s0 {Z : World} {k : Nat} {a b c : Value} (h : Bk Z k a b c) (v : Value) : Bk (Z.setCell ⟨k, 0, none⟩ v) k v b c :=
  ⟨⟨World.cell?_setCell_same _ _ _ h.box.c0, (World.cell?_setCell_other _ _ _ _ (by simp)).trans h.box.c1, (World.cell?_setCell_other _ _ _ _ (by simp)).trans h.box.c2⟩, fun j => by simpa using h.fr j⟩
theorem Bk.s1 {Z : World} {k : Nat} {a b c : Value} (h : Bk Z k a b c) (v : Value) : Bk (Z.setCell ⟨k, 1, none⟩ v) k a v c :=
  ⟨⟨(World.cell?_setCell_other _ _ _ _ (by simp)).trans h.box.c0, World.cell?_setCell_same _ _ _ h.box.c1, (World.cell?_setCell_other _ _ _ _ (by simp)).trans h.box.c2⟩, fun j => by simpa using h.fr j⟩
theorem Bk.s2 {Z : World} {k : Nat} {a b c : Value} (h : Bk Z k a b c) (v : Value) : Bk (Z.setCell ⟨k, 2, none⟩ v) k a b v :=
  ⟨⟨(World.cell?_setCell_other _ _ _ _ (by simp)).trans h.box.c0, (World.cell?_setCell_other _ _ _ _ (by simp)).trans h.box.c1, World.cell?_setCell_same _ _ _ h.box.c2⟩, fun j => by simpa using h.fr j⟩
theorem Bk.wrote {Z Y : World} {k : Nat} {a b c : Value} {S : Nat → Prop} (h : Bk Z k a b c) (hw : Wrote Z Y S) (hn : ¬ S k) : Bk Y k a b c := h.keep (hw.block k h.box.lt hn)
/-- One function as it is gone through. -/
structure Go10 (Z : World) (A G : Nat) (tv : Value) (aa : Option Addr) (ac : Nat) (xs : List Int) (q : Int) : Prop where
  bx : Bk Z G tv (.slice aa xs.length ac) (.int .i64 q)
  ne : G ≠ A
  ars : ∀ j, j < xs.length → ∃ b off, aa = some ⟨b, off, none⟩ ∧ (b ≠ A ∧ b ≠ G) ∧ b < Z.heap.size ∧ Z.cell? ⟨b, off + j, none⟩ = some (.int .i64 (xs.getD j 0))
theorem as_wrote {Z Y : World} {A G : Nat} {aa : Option Addr} {xs : List Int} {S : Nat → Prop} (h : ∀ j, j < xs.length → ∃ b off, aa = some ⟨b, off, none⟩ ∧ (b ≠ A ∧ b ≠ G) ∧ b < Z.heap.size ∧ Z.cell? ⟨b, off + j, none⟩ = some (.int .i64 (xs.getD j 0))) (hw : Wrote Z Y S) (hs : ∀ k, S k → k = A ∨ k = G) :
    ∀ j, j < xs.length → ∃ b off, aa = some ⟨b, off, none⟩ ∧ (b ≠ A ∧ b ≠ G) ∧ b < Y.heap.size ∧ Y.cell? ⟨b, off + j, none⟩ = some (.int .i64 (xs.getD j 0)) := fun j hj => by
  obtain ⟨b, off, e, hn, hl, hc⟩ := h j hj
  refine ⟨b, off, e, hn, Nat.lt_of_lt_of_le hl hw.size, ?_⟩
  rw [World.cell?_of_block (a := ⟨b, off + j, none⟩) (hw.block b hl (fun e => by rcases hs b e with h | h; exact hn.1 h; exact hn.2 h))]
  exact hc
theorem Go10.wrote {Z Y : World} {A G ac : Nat} {tv : Value} {aa : Option Addr} {xs : List Int} {q : Int} {S : Nat → Prop} (h : Go10 Z A G tv aa ac xs q) (hw : Wrote Z Y S) (hs : ∀ k, S k → k = A) : Go10 Y A G tv aa ac xs q :=
  ⟨h.bx.wrote hw (fun e => h.ne (hs G e)), h.ne, as_wrote h.ars hw (fun k e => Or.inl (hs k e))⟩
theorem Go10.below {Z Y : World} {A G ac : Nat} {tv : Value} {aa : Option Addr} {xs : List Int} {q : Int} (h : Go10 Z A G tv aa ac xs q) (hb : Below Z.heap.size Z Y) : Go10 Y A G tv aa ac xs q :=
  h.wrote (S := fun _ => False) (Wrote.of_below hb) (fun _ e => e.elim)
theorem Go10.next {Z Y : World} {A G ac : Nat} {tv : Value} {aa : Option Addr} {xs : List Int} {q q' : Int} (h : Go10 Z A G tv aa ac xs q) (hw : Wrote Z Y (fun k => k = G)) (hb : Bk Y G tv (.slice aa xs.length ac) (.int .i64 q')) : Go10 Y A G tv aa ac xs q' :=
  ⟨hb, h.ne, as_wrote h.ars hw (fun _ e => Or.inr e)⟩
abbrev W2 (Z Y : World) (A G : Nat) : Prop := Wrote Z Y (fun k => k = A ∨ k = G)
/-- What does not change while a function is gone through. -/
structure Env10 (B : World) (ps : List Pk) (A G : Nat) (ta : Option Addr) (t : List Nd) (xs : List Int) (m : Int) : Prop where
  hA : B.heap.size ≤ A
  hG : B.heap.size ≤ G
  inn : NodesIn B ta t.length t
  tr : Tr10 ps t m
  int : IntT t
  sh : ShortT t
  len : t.length ≤ 1048576
  hm : (xs.length : Int) = m
  hx : ∀ x ∈ xs, Word10 x
theorem w2_base {B Z Y : World} {A G : Nat} (hb : Below B.heap.size B Z) (hA : B.heap.size ≤ A) (hG : B.heap.size ≤ G) (h : W2 Z Y A G) : Below B.heap.size B Y := hb.trans (h.below hb.size (fun k e => by rcases e with e | e <;> rw [e] <;> assumption))
/-- Giving up, by a code. -/
abbrev gu (c : Int) : Ending := .panicked [{ v := .iface 82 (.int .i64 c), recovered := false }]
/-- What is told behind a walk: it came to its end, or it gave up. -/
def Post10 (Z : World) (A G : Nat) (l tv : Value) (aa : Option Addr) (ac : Nat) (xs : List Int) (q : Int) (r : Int × St10) (e : Ending) (Z' : World) : Prop :=
  Ak Z' A l r.2.1 ∧ W2 Z Z' A G ∧ ((r.2.2 = 0 ∧ e = .returned (.int .i64 r.1) ∧ Go10 Z' A G tv aa ac xs q) ∨ (r.2.2 ≠ 0 ∧ e = gu r.2.2))
/-- What valueOf is told. -/
def Vi10 (B : World) (la : Option Addr) (lc : Nat) (ps : List Pk) (A d : Nat) : Prop :=
  ∀ (Z : World) (f : Nat) (ta : Option Addr) (tc : Nat) (t : List Nd) (m : Int) (G : Nat) (aa : Option Addr) (ac : Nat) (xs : List Int) (a : Nat),
    Env10 B ps A G ta t xs m → Below B.heap.size B Z → f < d → Ak Z A (.slice la ps.length lc) f → Go10 Z A G (.slice ta t.length tc) aa ac xs (a : Int) → 0 ≤ endV t (a : Int) →
    Calls Tryz.prog 60 #[.pointer (some ⟨A, 0, none⟩), .pointer (some ⟨G, 0, none⟩)] Z (Post10 Z A G (.slice la ps.length lc) (.slice ta t.length tc) aa ac xs (endV t (a : Int)) (val10 ps d t (a : Int) xs (f, 0)))
/-- At a place that is told as a number. -/
theorem Vi10.at {B Z : World} {la ta aa : Option Addr} {lc tc ac A G d f : Nat} {ps : List Pk} {t : List Nd} {m q : Int} {xs : List Int} (h : Vi10 B la lc ps A d) (E : Env10 B ps A G ta t xs m) (hB : Below B.heap.size B Z) (hf : f < d) (hA : Ak Z A (.slice la ps.length lc) f) (hg : Go10 Z A G (.slice ta t.length tc) aa ac xs q) (hq : 0 ≤ endV t q) :
    Calls Tryz.prog 60 #[.pointer (some ⟨A, 0, none⟩), .pointer (some ⟨G, 0, none⟩)] Z (Post10 Z A G (.slice la ps.length lc) (.slice ta t.length tc) aa ac xs (endV t q) (val10 ps d t q xs (f, 0))) := by
  obtain ⟨k, rfl, _⟩ := endV_place hq
  exact h Z f ta tc t m G aa ac xs k E hB hf hA hg hq

/-! Places of parts. -/
theorem chain_succ (l : List Nd) : ∀ (k : Nat) (q : Int), chain l (k + 1) q = endV l (chain l k q)
  | 0, _ => rfl
  | k + 1, q => by rw [chain, chain_succ l k]; rfl
theorem parts_chain (l : List Nd) : ∀ (k : Nat) (q : Int) (i : Nat), i < k → (partsGo l k q).getD i 0 = chain l i q
  | 0, _, i, h => absurd h (Nat.not_lt_zero _)
  | k + 1, q, 0, _ => rfl
  | k + 1, q, i + 1, h => by
    have := parts_chain l k (endV l q) i (by omega)
    rw [partsGo]
    exact this
theorem pts_chain (t : List Nd) (a : Nat) (i : Nat) (h : i < kidsN (t.getD a nd0)) : (pts10 t (a : Int)).getD i 0 = chain t i ((a + 1 : Nat) : Int) := by
  have e := parts_chain t (kidsN (t.getD a nd0)) ((a : Int) + 1) i h
  unfold pts10
  rw [Int.toNat_natCast, e]
  rfl

theorem implBurn0 (Z : World) (A : Nat) (l : Value) (h : Ak Z A l 0) :
    Calls Tryz.prog 75 #[.pointer (some ⟨A, 0, none⟩)] Z fun e Z' => e = gu 2 ∧ Z' = Z := by
  have k1 := h.c1
  clear h
  go_enter Tryz.func75, Tryz.ntmps75
  go_wp2
  exact ⟨rfl, rfl, rfl⟩
theorem implBurn (Z : World) (A f : Nat) (l : Value) (h : Ak Z A l (f + 1)) (hf : f ≤ 20000) :
    Calls Tryz.prog 75 #[.pointer (some ⟨A, 0, none⟩)] Z fun e Z' => e = .returned (.tuple #[]) ∧ Z' = Z.setCell ⟨A, 1, none⟩ (.int .i64 (f : Int)) := by
  have k1 := h.c1
  have k3 := h.fr 1
  have hf1 : ((f + 1 : Nat) : Int) - 1 = (f : Int) := by omega
  have hfz : (((f + 1 : Nat) : Int) == 0) = false := beq_eq_false_iff_ne.2 (by omega)
  clear h
  go_enter Tryz.func75, Tryz.ntmps75
  go_wp2
  go_end0
  exact ⟨rfl, by first | rfl | (simp [hf1]; done) | (congr 2; omega)⟩

end Go.Proofs.YtmloocbbcnhooaaGreatDoor
