/-
  Parts of one proof, one behind the other: NeedB, TreeI.
-/
import Derived.Test.YtnpbckgaeaameaaGreatP21
import Derived.Test.YtnpbckgaeaameaaGreatP9
import Derived.Test.YtnpbckgaeaameaaGreatP10
import Derived.Test.YtnpbckgaeaameaaGreatP20

/-! Contracts of chapter 12's landed code: many, above, greatest. -/
namespace Go.Proofs.YtnpbckgaeaameaaGreat
open Go.RowKit

/-- What above holds: the need that came in, the answer's place, the new need. -/
structure Ab (w X : World) (g1 g2 g3 k m : Nat) : Prop where
  a : Nb X g1 0 k
  r : Nb X g2 0 0
  n : Nb X g3 0 m
  h1 : g1 < g2
  h2 : g2 < g3
  h0 : w.heap.size ≤ g1
  b : Below w.heap.size w X
theorem Ab.set {w X : World} {g1 g2 g3 k m : Nat} (s : Ab w X g1 g2 g3 k m) (i m2 : Nat) (v : Bool) (hi : i < 60) (hm : ∀ j, j < 60 → (j < m2 ↔ (if j = i then v = true else j < m))) : Ab w (X.setCell ⟨g3, i, none⟩ (.bool v)) g1 g2 g3 k m2 := by
  have hn := s.n.set i m2 v hi hm
  rw [Nat.zero_add] at hn
  have hg := grown_set X g3 i (.bool v)
  have := s.h0; have := s.h1; have := s.h2; have := s.n.lt
  exact ⟨s.a.kept hg (by simp; omega), s.r.kept hg (by simp; omega), hn, s.h1, s.h2, s.h0, s.b.grown hg (by omega) (fun q e => by injection e with e; omega)⟩

theorem min_step {i n : Nat} {v : Bool} (hv : v = decide (i < n)) (j : Nat) : j < min (i + 1) n ↔ (if j = i then v = true else j < min i n) := by
  subst hv
  by_cases e : j = i
  · subst e; rw [if_pos rfl, decide_eq_true_iff]; omega
  · rw [if_neg e]; omega

theorem Nb.cut {X : World} {b o n : Nat} (h : Nb X b o (min 60 n)) : Nb X b o n := by
  have e : nvL (min 60 n) = nvL n := nvL_ext (fun j hj => by omega)
  have h1 := h.cs
  rw [e] at h1
  exact ⟨h1, h.ok⟩
theorem index55 (W : World) (b i : Nat) (hi : (i : Int) < 60) : (Instr.indexAt 65 (.pointer (some ⟨b, 0, none⟩)) (.int .i64 (i : Int))).run Tryz.prog W = .ok (.pointer (some ⟨b, i, none⟩)) W := by
  have hu : Tryz.prog.underlying 65 = some (.array (Tryz.prog.arrayLen 65) (Tryz.prog.elem 65)) := by kernel_rfl
  have hl : Tryz.prog.arrayLen 65 = 60 := by kernel_rfl
  have he : Tryz.prog.elem 65 = 4 := by kernel_rfl
  rw [run_indexAt_array _ _ _ _ _ hu, hl, he, if_pos ⟨by omega, by omega⟩, Tryz.sizeOf4]
  simp [Result.andThen, Addr.add_mid]

set_option maxHeartbeats 2000000 in
set_option maxRecDepth 100000 in
theorem implAbove (k h : Nat) (w : World) (hh : h ≤ 1000000) :
    Calls Tryz.prog 77 #[.agg (nv k), .int .i64 (h : Int)] w fun e w' => e = .returned (.agg (nv (k + h))) ∧ Below w.heap.size w w' := by
  go_enter Tryz.func77, Tryz.ntmps77
  go_wp2_with (guard_target = wpList _ _ _ _ _ _; first | (refine list_box_nv rfl _ rfl 2 rfl k rfl (fun Y1 g1 hN1 hB1 hG1 => ?_)) | (refine list_alloc_nv rfl rfl 4 rfl (fun Y2 g2 hN2 hB2 hG2 => ?_)) | (refine list_alloc_nv rfl rfl 5 rfl (fun Y3 g3 hN3 hB3 hG3 => ?_)) | (refine list_build_nv rfl rfl ?_) | (refine list_store_nv rfl _ _ rfl _ _ 0 rfl rfl hN3.ok (fun Y4 hN4 hG4 => ?_)))
  have HS : Hid (Ab w Y4 g1 g2 g3 k 0) := by
    have l1 := hN1.lt; have l2 := hN2.lt; have l3 := hN3.lt
    have b2 := hB1.trans (hB2.mono hB1.size)
    have b3 := b2.trans (hB3.mono b2.size)
    exact ⟨((hN1.below hB2).below hB3).kept hG4 (by simp; omega), (hN2.below hB3).kept hG4 (by simp; omega), hN4, by omega, by omega, hG1, b3.grown hG4 b3.size (fun q e => by injection e with e; have := hB1.size; omega)⟩
  clear hN1 hB1 hG1 hN2 hB2 hG2 hN3 hB3 hG3 hN4 hG4
  go_loopw [8] (fun iv wx => ∃ i : Nat, iv = .int .i64 (i : Int) ∧ i ≤ 60 ∧ Hid (Ab w wx g1 g2 g3 k (min i (k + h)))) (fun iv _ => 60 - (intOf iv).toNat)
  case atStart => exact ⟨0, rfl, by omega, by rw [Nat.zero_min]; exact HS⟩
  case round =>
    obtain ⟨i, rfl, hi, st⟩ := hrel
    clear HS
    have hix := index55
    by_cases hlt : (i : Int) < 60
    · have c3 := st.out.n.cell i (by omega)
      have f3 := (st.out.n.ok i (by omega)).2
      rw [Nat.zero_add] at c3 f3
      by_cases hih : (i : Int) < (h : Int)
      · have HR : Hid (Ab w (wr.setCell ⟨g3, i, none⟩ (.bool true)) g1 g2 g3 k (min (i + 1) (k + h))) := st.out.set i _ true (by omega) (fun j _ => min_step (by rw [decide_eq_true (by omega)]) j)
        go_wp2
        go_roundw
        case rel => exact ⟨i + 1, by go_num, by omega, HR⟩
        case measure => simp [intOf]; omega
      · have c1 := st.out.a.cell (i - h) (by omega)
        rw [Nat.zero_add] at c1
        have HR : Hid (Ab w (wr.setCell ⟨g3, i, none⟩ (.bool (decide (i - h < k)))) g1 g2 g3 k (min (i + 1) (k + h))) := st.out.set i _ _ (by omega) (fun j _ => min_step (decide_eq_decide.2 (by omega)) j)
        obtain ⟨q, hq⟩ : ∃ q, i - h = q := ⟨_, rfl⟩
        rw [hq] at c1 HR
        have hqi : (i : Int) - (h : Int) = (q : Int) := by omega
        have hq6 : (q : Int) < 60 := by omega
        go_wp2
        go_roundw
        case rel => exact ⟨i + 1, by go_num, by omega, HR⟩
        case measure => simp [intOf]; omega
    · have hi6 : i = 60 := by omega
      subst hi6
      have h3 := st.out.n.cut
      go_wp2_with (guard_target = wpList _ _ _ _ _ _; first | (refine list_load_nv rfl _ rfl 24 rfl _ _ (k + h) rfl (by exact h3.cs) ?_) | (refine list_store_nv rfl _ _ rfl _ _ (k + h) rfl rfl st.out.r.ok (fun Y5 hN5 hG5 => ?_)))
      refine bodyPost_ret (v := .agg (nv (k + h))) (results_nv Tryz.results77 _ _ g2 (k + h) rfl hN5.cs) rfl ⟨rfl, ?_⟩
      exact st.out.b.grown hG5 st.out.b.size (fun q e => by injection e with e; have := st.out.h0; have := st.out.h1; omega)

theorem indexV55 (k : Nat) (W : World) (i : Nat) (hi : (i : Int) < 60) : (Instr.index 65 (.agg (nv k)) (.int .i64 (i : Int))).run Tryz.prog W = .ok (.bool (decide (i < k))) W := by
  simp [Instr.index, run_underlying Tryz.underlying65, asIntOf, Tryz.sizeOf4, part, isAgg, run_underlying Tryz.underlying4, nv_at k i (by omega), show i < 60 by omega]


/-- Needs that can be read. -/
def NsIn (w : World) (a : Option Addr) (ks : List Nat) : Prop := ∀ j, j < ks.length → ∃ b off, a = some ⟨b, off, none⟩ ∧ b < w.heap.size ∧ w.rangeAt b (off + j * 60) (nvL (ks.getD j 0))
theorem range_block {w w' : World} {b o : Nat} {cs : List Value} (h : w.rangeAt b o cs) (hb : w'.heap[b]? = w.heap[b]?) : w'.rangeAt b o cs := fun j v hv => (World.cell?_of_block (a := ⟨b, o + j, none⟩) hb).trans (h j v hv)
theorem NsIn.below {w w' : World} {a : Option Addr} {ks : List Nat} (h : NsIn w a ks) (hb : Below w.heap.size w w') : NsIn w' a ks := fun j hj => by
  obtain ⟨b, off, e, hl, hc⟩ := h j hj
  exact ⟨b, off, e, Nat.lt_of_lt_of_le hl hb.size, range_block hc (hb.block b hl)⟩
def gr (ks : List Nat) : Nat := ks.foldl max 1
theorem gr_snoc (ks : List Nat) (j : Nat) (hj : j < ks.length) : gr (ks.take (j + 1)) = max (gr (ks.take j)) (ks.getD j 0) := by
  have hg : ks.getD j 0 = ks[j] := by simp [List.getD, hj]
  rw [hg, List.take_succ_eq_append_getElem hj]
  unfold gr
  rw [List.foldl_append]
  rfl
theorem Nb.like {X : World} {b o m n : Nat} (h : Nb X b o m) (e : ∀ j, j < 60 → (j < m ↔ j < n)) : Nb X b o n := by
  have h1 := h.cs
  rw [nvL_ext e] at h1
  exact ⟨h1, h.ok⟩

/-- What greatest holds: the answer's place, the new need. -/
structure Gr (w X : World) (g2 g3 m : Nat) : Prop where
  r : Nb X g2 0 0
  n : Nb X g3 0 m
  h2 : g2 < g3
  h0 : w.heap.size ≤ g2
  b : Below w.heap.size w X
theorem Gr.below {w X Y : World} {g2 g3 m : Nat} (s : Gr w X g2 g3 m) (hb : Below X.heap.size X Y) : Gr w Y g2 g3 m := ⟨s.r.below hb, s.n.below hb, s.h2, s.h0, s.b.trans (hb.mono s.b.size)⟩
theorem Gr.kept {w X Y : World} {g2 g3 m q : Nat} (s : Gr w X g2 g3 m) (hg : X.grownBy Y (some q)) (hq : g3 < q) : Gr w Y g2 g3 m := by
  have := s.h0; have := s.h2
  exact ⟨s.r.kept hg (by simp; omega), s.n.kept hg (by simp; omega), s.h2, s.h0, s.b.grown hg s.b.size (fun q' e => by injection e with e; omega)⟩
theorem Gr.set {w X : World} {g2 g3 m : Nat} (s : Gr w X g2 g3 m) (i m2 : Nat) (v : Bool) (hi : i < 60) (hm : ∀ j, j < 60 → (j < m2 ↔ (if j = i then v = true else j < m))) : Gr w (X.setCell ⟨g3, i, none⟩ (.bool v)) g2 g3 m2 := by
  have hn := s.n.set i m2 v hi hm
  rw [Nat.zero_add] at hn
  have hg := grown_set X g3 i (.bool v)
  have := s.h0; have := s.h2; have := s.n.lt
  exact ⟨s.r.kept hg (by simp; omega), hn, s.h2, s.h0, s.b.grown hg s.b.size (fun q e => by injection e with e; omega)⟩
theorem Gr.like {w X : World} {g2 g3 m n : Nat} (s : Gr w X g2 g3 m) (e : ∀ j, j < 60 → (j < m ↔ j < n)) : Gr w X g2 g3 n := ⟨s.r, s.n.like e, s.h2, s.h0, s.b⟩
theorem max_step {i m k : Nat} {v : Bool} (hv : v = (decide (i < max m (min i k)) || decide (i < k))) (j : Nat) : j < max m (min (i + 1) k) ↔ (if j = i then v = true else j < max m (min i k)) := by
  subst hv
  by_cases e : j = i
  · subst e; rw [if_pos rfl, Bool.or_eq_true, decide_eq_true_iff, decide_eq_true_iff]; omega
  · rw [if_neg e]; omega

set_option maxHeartbeats 4000000 in
set_option maxRecDepth 100000 in
theorem implGreatest (a : Option Addr) (n c : Nat) (ks : List Nat) (w : World) (hn : ks.length = n) (hin : NsIn w a ks) (hnl : n ≤ 1048576) :
    Calls Tryz.prog 76 #[.slice a n c] w fun e w' => e = .returned (.agg (nv (gr ks))) ∧ Below w.heap.size w w' := by
  have HIn : Hid (∀ X, Below w.heap.size w X → NsIn X a ks) := fun X hb => hin.below hb
  have HN : Hid (ks.length = n) := hn
  clear hin hn
  go_enter Tryz.func76, Tryz.ntmps76
  go_wp2_with (guard_target = wpList _ _ _ _ _ _; first | (refine list_alloc_nv rfl rfl 2 rfl (fun Y2 g2 hN2 hB2 hG2 => ?_)) | (refine list_alloc_nv rfl rfl 3 rfl (fun Y3 g3 hN3 hB3 hG3 => ?_)) | (refine list_build_nv1 rfl rfl ?_) | (refine list_store_nv rfl _ _ rfl _ _ 1 rfl rfl hN3.ok (fun Y4 hN4 hG4 => ?_)))
  have HS : Hid (Gr w Y4 g2 g3 1) := by
    have l2 := hN2.lt; have l3 := hN3.lt
    have b3 := hB2.trans (hB3.mono hB2.size)
    exact ⟨(hN2.below hB3).kept hG4 (by simp; omega), hN4, by omega, hG2, b3.grown hG4 b3.size (fun q e => by injection e with e; have := hB2.size; omega)⟩
  clear hN2 hB2 hG2 hN3 hB3 hG3 hN4 hG4
  go_loopw [11] (fun jv wx => ∃ j : Nat, jv = .int .i64 (j : Int) ∧ j ≤ n ∧ Hid (Gr w wx g2 g3 (gr (ks.take j)))) (fun jv _ => n - (intOf jv).toNat)
  case atStart => exact ⟨0, rfl, Nat.zero_le _, HS⟩
  case round =>
    obtain ⟨j, rfl, hj, st⟩ := hrel
    clear HS
    by_cases hlt : (j : Int) < (n : Int)
    · obtain ⟨b, off, rfl, hbl, hrg⟩ := HIn.out wr st.out.b j (by rw [HN.out]; omega)
      have HSn : Hid (gr (ks.take (j + 1)) = max (gr (ks.take j)) (ks.getD j 0)) := gr_snoc ks j (by rw [HN.out]; omega)
      obtain ⟨k, hk⟩ : ∃ k, ks.getD j 0 = k := ⟨_, rfl⟩
      obtain ⟨m, hm⟩ : ∃ m, gr (ks.take j) = m := ⟨_, rfl⟩
      rw [hk] at hrg HSn
      rw [hm] at st HSn
      clear hk hm
      go_wp2_with (guard_target = wpList _ _ _ _ _ _; first | (refine list_load_nv rfl _ rfl 14 rfl _ _ k rfl (by exact hrg) ?_) | (refine list_alloc_nv rfl rfl 5 rfl (fun Y5 g5 hN5 hB5 hG5 => ?_)) | (refine list_store_nv rfl _ _ rfl _ _ k rfl rfl hN5.ok (fun Y6 hN6 hG6 => ?_)) | (refine list_load_nv rfl _ rfl 15 rfl _ _ k rfl (by exact hN6.cs) ?_))
      have HS6 : Hid (Gr w Y6 g2 g3 m) := (st.out.below hB5).kept hG6 (by have := st.out.n.lt; omega)
      clear hN5 hB5 hG5 hN6 hG6 hrg
      have hix := indexV55 k
      have hjx := index55
      go_loopw [16] (fun iv wx => ∃ i : Nat, iv = .int .i64 (i : Int) ∧ i ≤ 60 ∧ Hid (Gr w wx g2 g3 (max m (min i k)))) (fun iv _ => 60 - (intOf iv).toNat)
      case atStart => exact ⟨0, rfl, by omega, by rw [Nat.zero_min, Nat.max_zero]; exact HS6⟩
      case round =>
        obtain ⟨i, rfl, hi, sti⟩ := hrel
        clear HS6
        rename World => W
        by_cases hlt6 : (i : Int) < 60
        · have c3 := sti.out.n.cell i (by omega)
          have f3 := (sti.out.n.ok i (by omega)).2
          rw [Nat.zero_add] at c3 f3
          by_cases hd : i < max m (min i k)
          · rw [decide_eq_true hd] at c3
            have HR : Hid (Gr w (W.setCell ⟨g3, i, none⟩ (.bool true)) g2 g3 (max m (min (i + 1) k))) := sti.out.set i _ true (by omega) (fun j _ => max_step (by rw [decide_eq_true hd]; rfl) j)
            clear hd
            go_wp2
            go_roundw
            case rel => exact ⟨i + 1, by go_num, by omega, HR⟩
            case measure => simp [intOf]; omega
          · rw [decide_eq_false hd] at c3
            have HR : Hid (Gr w (W.setCell ⟨g3, i, none⟩ (.bool (decide (i < k)))) g2 g3 (max m (min (i + 1) k))) := sti.out.set i _ _ (by omega) (fun j _ => max_step (by rw [decide_eq_false hd]; rfl) j)
            clear hd
            go_wp2
            go_roundw
            case rel => exact ⟨i + 1, by go_num, by omega, HR⟩
            case measure => simp [intOf]; omega
        · have HR : Hid (Gr w W g2 g3 (gr (ks.take (j + 1)))) := by
            have h6 : i = 60 := by omega
            rw [HSn.out]
            refine sti.out.like (fun q hq => ?_)
            omega
          go_wp2
          go_roundw
          case rel => exact ⟨j + 1, by go_num, by omega, HR⟩
          case measure => simp [intOf]; omega
    · have HE : Hid (gr (ks.take j) = gr ks) := by exact (by rw [List.take_of_length_le (by rw [HN.out]; omega)] : gr (ks.take j) = gr ks)
      rw [HE.out] at st
      go_wp2_with (guard_target = wpList _ _ _ _ _ _; first | (refine list_load_nv rfl _ rfl 30 rfl _ _ (gr ks) rfl (by exact st.out.n.cs) ?_) | (refine list_store_nv rfl _ _ rfl _ _ (gr ks) rfl rfl st.out.r.ok (fun Y5 hN5 hG5 => ?_)))
      refine bodyPost_ret (v := .agg (nv (gr ks))) (results_nv Tryz.results76 _ _ g2 (gr ks) rfl hN5.cs) rfl ⟨rfl, ?_⟩
      exact st.out.b.grown hG5 st.out.b.size (fun q e => by injection e with e; have := st.out.h0; omega)

end Go.Proofs.YtnpbckgaeaameaaGreat

/-! The contracts of chapter 6's landed code: shapes (told apart by type switches). -/
namespace Go.Proofs.YtnpbckgaeaameaaGreat
open Go.RowKit

/-- A shape as a value behind the interface. -/
def shVal : Sh → Value
  | .num a => .iface 104 (.agg #[.int .i64 a])
  | .arg a => .iface 106 (.agg #[.int .i64 a])
  | .pair k => .iface 108 (.agg #[.int .i64 k])
  | .cond => .iface 110 (.agg #[])
  | .call p f a => .iface 112 (.agg #[.string ⟨p.toArray⟩, .string ⟨f.toArray⟩, .int .i64 a])
  | .no => .iface 113 (.agg #[])

/-! A type assertion: the value and true where the type is its own, else the type's zero value and false. -/
theorem as_num_num (v : Value) (w : World) : (Instr.typeAssert (.iface 104 v) 96 104 true).run Tryz.prog w = .ok (.tuple #[v, .bool true]) w := by kernel_rfl
theorem as_num_arg (v : Value) (w : World) : (Instr.typeAssert (.iface 104 v) 96 106 true).run Tryz.prog w = .ok (.tuple #[.agg #[.int .i64 0], .bool false]) w := by kernel_rfl
theorem as_num_pair (v : Value) (w : World) : (Instr.typeAssert (.iface 104 v) 96 108 true).run Tryz.prog w = .ok (.tuple #[.agg #[.int .i64 0], .bool false]) w := by kernel_rfl
theorem as_num_cond (v : Value) (w : World) : (Instr.typeAssert (.iface 104 v) 96 110 true).run Tryz.prog w = .ok (.tuple #[.agg #[], .bool false]) w := by kernel_rfl
theorem as_num_call (v : Value) (w : World) : (Instr.typeAssert (.iface 104 v) 96 112 true).run Tryz.prog w = .ok (.tuple #[.agg #[.string ByteArray.empty, .string ByteArray.empty, .int .i64 0], .bool false]) w := by kernel_rfl
theorem as_arg_num (v : Value) (w : World) : (Instr.typeAssert (.iface 106 v) 96 104 true).run Tryz.prog w = .ok (.tuple #[.agg #[.int .i64 0], .bool false]) w := by kernel_rfl
theorem as_arg_arg (v : Value) (w : World) : (Instr.typeAssert (.iface 106 v) 96 106 true).run Tryz.prog w = .ok (.tuple #[v, .bool true]) w := by kernel_rfl
theorem as_arg_pair (v : Value) (w : World) : (Instr.typeAssert (.iface 106 v) 96 108 true).run Tryz.prog w = .ok (.tuple #[.agg #[.int .i64 0], .bool false]) w := by kernel_rfl
theorem as_arg_cond (v : Value) (w : World) : (Instr.typeAssert (.iface 106 v) 96 110 true).run Tryz.prog w = .ok (.tuple #[.agg #[], .bool false]) w := by kernel_rfl
theorem as_arg_call (v : Value) (w : World) : (Instr.typeAssert (.iface 106 v) 96 112 true).run Tryz.prog w = .ok (.tuple #[.agg #[.string ByteArray.empty, .string ByteArray.empty, .int .i64 0], .bool false]) w := by kernel_rfl
theorem as_pair_num (v : Value) (w : World) : (Instr.typeAssert (.iface 108 v) 96 104 true).run Tryz.prog w = .ok (.tuple #[.agg #[.int .i64 0], .bool false]) w := by kernel_rfl
theorem as_pair_arg (v : Value) (w : World) : (Instr.typeAssert (.iface 108 v) 96 106 true).run Tryz.prog w = .ok (.tuple #[.agg #[.int .i64 0], .bool false]) w := by kernel_rfl
theorem as_pair_pair (v : Value) (w : World) : (Instr.typeAssert (.iface 108 v) 96 108 true).run Tryz.prog w = .ok (.tuple #[v, .bool true]) w := by kernel_rfl
theorem as_pair_cond (v : Value) (w : World) : (Instr.typeAssert (.iface 108 v) 96 110 true).run Tryz.prog w = .ok (.tuple #[.agg #[], .bool false]) w := by kernel_rfl
theorem as_pair_call (v : Value) (w : World) : (Instr.typeAssert (.iface 108 v) 96 112 true).run Tryz.prog w = .ok (.tuple #[.agg #[.string ByteArray.empty, .string ByteArray.empty, .int .i64 0], .bool false]) w := by kernel_rfl
theorem as_cond_num (v : Value) (w : World) : (Instr.typeAssert (.iface 110 v) 96 104 true).run Tryz.prog w = .ok (.tuple #[.agg #[.int .i64 0], .bool false]) w := by kernel_rfl
theorem as_cond_arg (v : Value) (w : World) : (Instr.typeAssert (.iface 110 v) 96 106 true).run Tryz.prog w = .ok (.tuple #[.agg #[.int .i64 0], .bool false]) w := by kernel_rfl
theorem as_cond_pair (v : Value) (w : World) : (Instr.typeAssert (.iface 110 v) 96 108 true).run Tryz.prog w = .ok (.tuple #[.agg #[.int .i64 0], .bool false]) w := by kernel_rfl
theorem as_cond_cond (v : Value) (w : World) : (Instr.typeAssert (.iface 110 v) 96 110 true).run Tryz.prog w = .ok (.tuple #[v, .bool true]) w := by kernel_rfl
theorem as_cond_call (v : Value) (w : World) : (Instr.typeAssert (.iface 110 v) 96 112 true).run Tryz.prog w = .ok (.tuple #[.agg #[.string ByteArray.empty, .string ByteArray.empty, .int .i64 0], .bool false]) w := by kernel_rfl
theorem as_call_num (v : Value) (w : World) : (Instr.typeAssert (.iface 112 v) 96 104 true).run Tryz.prog w = .ok (.tuple #[.agg #[.int .i64 0], .bool false]) w := by kernel_rfl
theorem as_call_arg (v : Value) (w : World) : (Instr.typeAssert (.iface 112 v) 96 106 true).run Tryz.prog w = .ok (.tuple #[.agg #[.int .i64 0], .bool false]) w := by kernel_rfl
theorem as_call_pair (v : Value) (w : World) : (Instr.typeAssert (.iface 112 v) 96 108 true).run Tryz.prog w = .ok (.tuple #[.agg #[.int .i64 0], .bool false]) w := by kernel_rfl
theorem as_call_cond (v : Value) (w : World) : (Instr.typeAssert (.iface 112 v) 96 110 true).run Tryz.prog w = .ok (.tuple #[.agg #[], .bool false]) w := by kernel_rfl
theorem as_call_call (v : Value) (w : World) : (Instr.typeAssert (.iface 112 v) 96 112 true).run Tryz.prog w = .ok (.tuple #[v, .bool true]) w := by kernel_rfl
theorem as_no_num (v : Value) (w : World) : (Instr.typeAssert (.iface 113 v) 96 104 true).run Tryz.prog w = .ok (.tuple #[.agg #[.int .i64 0], .bool false]) w := by kernel_rfl
theorem as_no_arg (v : Value) (w : World) : (Instr.typeAssert (.iface 113 v) 96 106 true).run Tryz.prog w = .ok (.tuple #[.agg #[.int .i64 0], .bool false]) w := by kernel_rfl
theorem as_no_pair (v : Value) (w : World) : (Instr.typeAssert (.iface 113 v) 96 108 true).run Tryz.prog w = .ok (.tuple #[.agg #[.int .i64 0], .bool false]) w := by kernel_rfl
theorem as_no_cond (v : Value) (w : World) : (Instr.typeAssert (.iface 113 v) 96 110 true).run Tryz.prog w = .ok (.tuple #[.agg #[], .bool false]) w := by kernel_rfl
theorem as_no_call (v : Value) (w : World) : (Instr.typeAssert (.iface 113 v) 96 112 true).run Tryz.prog w = .ok (.tuple #[.agg #[.string ByteArray.empty, .string ByteArray.empty, .int .i64 0], .bool false]) w := by kernel_rfl

set_option maxHeartbeats 2000000 in
set_option maxRecDepth 100000 in
theorem implShapeOf (n : Nd) (w : World) : Calls Tryz.prog 89 #[nodeVal n] w fun e w' => e = .returned (shVal (shOf n)) ∧ Below w.heap.size w w' := by
  obtain ⟨k, a, p, f⟩ := n
  rcases shOf_kinds (k, a, p, f) with ⟨h, e⟩ | ⟨h, e⟩ | ⟨h, e⟩ | ⟨h, e⟩ | ⟨h, e⟩ | ⟨h, e⟩
  · rw [e]; simp only at h; subst h; clear e
    unfold nodeVal shVal; simp only
    go_enter Tryz.func89, Tryz.ntmps89
    go_wp2
    go_ret
    exact ⟨rfl, (Below.refl _ w).alloc (Nat.le_refl _) _⟩
  · rw [e]; simp only at h; subst h; clear e
    unfold nodeVal shVal; simp only
    go_enter Tryz.func89, Tryz.ntmps89
    go_wp2
    go_ret
    exact ⟨rfl, (Below.refl _ w).alloc (Nat.le_refl _) _⟩
  · rw [e]; simp only at h; clear e
    rcases (show k = 3 ∨ k = 4 ∨ k = 5 ∨ k = 6 by omega) with rfl | rfl | rfl | rfl
    all_goals
      unfold nodeVal shVal; simp only
      go_enter Tryz.func89, Tryz.ntmps89
      go_wp2
      go_ret
      exact ⟨rfl, (Below.refl _ w).alloc (Nat.le_refl _) _⟩
  · rw [e]; simp only at h; subst h; clear e
    unfold nodeVal shVal; simp only
    go_enter Tryz.func89, Tryz.ntmps89
    go_wp2
    go_ret
    exact ⟨rfl, (Below.refl _ w).alloc (Nat.le_refl _) _⟩
  · rw [e]; simp only at h; subst h; clear e
    unfold nodeVal shVal; simp only
    go_enter Tryz.func89, Tryz.ntmps89
    go_wp2
    go_ret
    exact ⟨rfl, (Below.refl _ w).alloc (Nat.le_refl _) _⟩
  · rw [e]; simp only at h; clear e
    have d1 : (k == 1) = false := beq_eq_false_iff_ne.2 (by omega)
    have d2 : (k == 2) = false := beq_eq_false_iff_ne.2 (by omega)
    have d3 : (k == 3) = false := beq_eq_false_iff_ne.2 (by omega)
    have d4 : (k == 4) = false := beq_eq_false_iff_ne.2 (by omega)
    have d5 : (k == 5) = false := beq_eq_false_iff_ne.2 (by omega)
    have d6 : (k == 6) = false := beq_eq_false_iff_ne.2 (by omega)
    have d7 : (k == 7) = false := beq_eq_false_iff_ne.2 (by omega)
    have d8 : (k == 8) = false := beq_eq_false_iff_ne.2 (by omega)
    clear h
    unfold nodeVal shVal; simp only
    go_enter Tryz.func89, Tryz.ntmps89
    go_wp2
    go_ret
    exact ⟨rfl, (Below.refl _ w).alloc (Nat.le_refl _) _⟩

set_option maxHeartbeats 2000000 in
set_option maxRecDepth 100000 in
theorem implKidsOfShape (s : Sh) (w : World) : Calls Tryz.prog 88 #[shVal s] w fun e w' => e = .returned (.int .i64 (shKids s)) ∧ Below w.heap.size w w' := by
  cases s with
  | num a =>
    unfold shVal; simp only
    have q0 := as_num_num
    have q1 := as_num_arg
    have q2 := as_num_pair
    have q3 := as_num_cond
    have q4 := as_num_call
    go_enter Tryz.func88, Tryz.ntmps88
    go_wp2
    go_ret
    exact ⟨rfl, Below.refl _ w⟩
  | arg a =>
    unfold shVal; simp only
    have q0 := as_arg_num
    have q1 := as_arg_arg
    have q2 := as_arg_pair
    have q3 := as_arg_cond
    have q4 := as_arg_call
    go_enter Tryz.func88, Tryz.ntmps88
    go_wp2
    go_ret
    exact ⟨rfl, Below.refl _ w⟩
  | pair k =>
    unfold shVal; simp only
    have q0 := as_pair_num
    have q1 := as_pair_arg
    have q2 := as_pair_pair
    have q3 := as_pair_cond
    have q4 := as_pair_call
    go_enter Tryz.func88, Tryz.ntmps88
    go_wp2
    go_ret
    exact ⟨rfl, (Below.refl _ w).alloc (Nat.le_refl _) _⟩
  | cond =>
    unfold shVal; simp only
    have q0 := as_cond_num
    have q1 := as_cond_arg
    have q2 := as_cond_pair
    have q3 := as_cond_cond
    have q4 := as_cond_call
    go_enter Tryz.func88, Tryz.ntmps88
    go_wp2
    go_ret
    exact ⟨rfl, (Below.refl _ w).alloc (Nat.le_refl _) _⟩
  | call p f a =>
    unfold shVal; simp only
    have q0 := as_call_num
    have q1 := as_call_arg
    have q2 := as_call_pair
    have q3 := as_call_cond
    have q4 := as_call_call
    go_enter Tryz.func88, Tryz.ntmps88
    go_wp2
    go_ret
    exact ⟨rfl, (Below.refl _ w).alloc (Nat.le_refl _) _⟩
  | no =>
    unfold shVal; simp only
    have q0 := as_no_num
    have q1 := as_no_arg
    have q2 := as_no_pair
    have q3 := as_no_cond
    have q4 := as_no_call
    go_enter Tryz.func88, Tryz.ntmps88
    go_wp2
    go_ret
    exact ⟨rfl, Below.refl _ w⟩

set_option maxHeartbeats 4000000 in
set_option maxRecDepth 100000 in
theorem implShapeOk (s : Sh) (w : World) (hl : ∀ p f a, s = .call p f a → p.length ≤ 1048576 ∧ f.length ≤ 1048576) : Calls Tryz.prog 92 #[shVal s] w fun e w' => e = .returned (.bool (shOk s)) ∧ Below w.heap.size w w' := by
  cases s with
  | num a =>
    unfold shVal; simp only
    have q0 := as_num_num
    have q1 := as_num_arg
    have q2 := as_num_pair
    have q3 := as_num_cond
    have q4 := as_num_call
    go_enter Tryz.func92, Tryz.ntmps92
    go_wp2_with fail
    refine (implWordOkS _ _).mono ?_
    rintro e w1 ⟨rfl, rfl⟩
    go_wp2
    go_ret
    exact ⟨rfl, (Below.refl _ w).alloc (Nat.le_refl _) _⟩
  | arg a =>
    unfold shVal; simp only
    have q0 := as_arg_num
    have q1 := as_arg_arg
    have q2 := as_arg_pair
    have q3 := as_arg_cond
    have q4 := as_arg_call
    have HO : Hid (shOk (.arg a) = inB a 0 2) := by exact (rfl : shOk (.arg a) = inB a 0 2)
    by_cases h1 : 0 ≤ a
    · by_cases h2 : a ≤ 2
      · have HB : Hid (inB a 0 2 = true) := inB_yes _ _ _ h1 h2
        go_enter Tryz.func92, Tryz.ntmps92
        go_wp2
        go_ret
        exact ⟨by rw [HO.out, HB.out]; rfl, (Below.refl _ w).alloc (Nat.le_refl _) _⟩
      · have HB : Hid (inB a 0 2 = false) := inB_no _ _ _ (by omega)
        go_enter Tryz.func92, Tryz.ntmps92
        go_wp2
        go_ret
        exact ⟨by rw [HO.out, HB.out]; rfl, (Below.refl _ w).alloc (Nat.le_refl _) _⟩
    · have HB : Hid (inB a 0 2 = false) := inB_no _ _ _ (by omega)
      go_enter Tryz.func92, Tryz.ntmps92
      go_wp2
      go_ret
      exact ⟨by rw [HO.out, HB.out]; rfl, (Below.refl _ w).alloc (Nat.le_refl _) _⟩
  | pair k =>
    unfold shVal; simp only
    have q0 := as_pair_num
    have q1 := as_pair_arg
    have q2 := as_pair_pair
    have q3 := as_pair_cond
    have q4 := as_pair_call
    go_enter Tryz.func92, Tryz.ntmps92
    go_wp2
    go_ret
    exact ⟨rfl, Below.refl _ w⟩
  | cond =>
    unfold shVal; simp only
    have q0 := as_cond_num
    have q1 := as_cond_arg
    have q2 := as_cond_pair
    have q3 := as_cond_cond
    have q4 := as_cond_call
    go_enter Tryz.func92, Tryz.ntmps92
    go_wp2
    go_ret
    exact ⟨rfl, Below.refl _ w⟩
  | call p f a =>
    unfold shVal; simp only
    have q0 := as_call_num
    have q1 := as_call_arg
    have q2 := as_call_pair
    have q3 := as_call_cond
    have q4 := as_call_call
    obtain ⟨hp, hf⟩ := hl p f a rfl
    have HO : Hid (shOk (.call p f a) = (inB a 0 3 && (nameB p && nameB f))) := by exact (rfl : shOk (.call p f a) = (inB a 0 3 && (nameB p && nameB f)))
    by_cases h1 : 0 ≤ a
    · by_cases h2 : a ≤ 3
      · have HB : Hid (inB a 0 3 = true) := inB_yes _ _ _ h1 h2
        rcases hn : nameB p with _ | _
        · have HN : Hid (nameB p = false) := hn
          clear hn
          go_enter Tryz.func92, Tryz.ntmps92
          go_wp2_with fail
          refine (implNameOkS p _ hp).mono ?_
          rintro e w1 ⟨rfl, rfl⟩
          rw [HN.out]
          go_wp2
          go_ret
          exact ⟨by rw [HO.out, HB.out, HN.out]; rfl, (Below.refl _ w).alloc (Nat.le_refl _) _⟩
        · have HN : Hid (nameB p = true) := hn
          clear hn
          go_enter Tryz.func92, Tryz.ntmps92
          go_wp2_with fail
          refine (implNameOkS p _ hp).mono ?_
          rintro e w1 ⟨rfl, rfl⟩
          rw [HN.out]
          go_wp2_with fail
          refine (implNameOkS f _ hf).mono ?_
          rintro e w1 ⟨rfl, rfl⟩
          go_wp2
          go_ret
          exact ⟨by rw [HO.out, HB.out, HN.out]; rfl, (Below.refl _ w).alloc (Nat.le_refl _) _⟩
      · have HB : Hid (inB a 0 3 = false) := inB_no _ _ _ (by omega)
        go_enter Tryz.func92, Tryz.ntmps92
        go_wp2
        go_ret
        exact ⟨by rw [HO.out, HB.out]; rfl, (Below.refl _ w).alloc (Nat.le_refl _) _⟩
    · have HB : Hid (inB a 0 3 = false) := inB_no _ _ _ (by omega)
      go_enter Tryz.func92, Tryz.ntmps92
      go_wp2
      go_ret
      exact ⟨by rw [HO.out, HB.out]; rfl, (Below.refl _ w).alloc (Nat.le_refl _) _⟩
  | no =>
    unfold shVal; simp only
    have q0 := as_no_num
    have q1 := as_no_arg
    have q2 := as_no_pair
    have q3 := as_no_cond
    have q4 := as_no_call
    go_enter Tryz.func92, Tryz.ntmps92
    go_wp2
    go_ret
    exact ⟨rfl, Below.refl _ w⟩

/-! The method node, shape by shape. -/
set_option maxHeartbeats 1000000 in
set_option maxRecDepth 100000 in
theorem node_num (a : Int) (w : World) : Calls Tryz.prog 117 #[.agg #[.int .i64 a]] w fun e w' => e = .returned (nodeVal (shNode (.num a))) ∧ Below w.heap.size w w' := by
  go_enter Tryz.func117, Tryz.ntmps117
  go_wp2
  refine bodyPost_ret (v := .agg #[.int .i64 1, .int .i64 a, .string ⟨#[]⟩, .string ⟨#[]⟩]) (by simp [results, Tryz.results117, go_sem]) rfl ?_
  exact ⟨rfl, ((Below.refl _ w).alloc (Nat.le_refl _) _).alloc (by simp) _⟩

set_option maxHeartbeats 1000000 in
set_option maxRecDepth 100000 in
theorem node_arg (a : Int) (w : World) : Calls Tryz.prog 118 #[.agg #[.int .i64 a]] w fun e w' => e = .returned (nodeVal (shNode (.arg a))) ∧ Below w.heap.size w w' := by
  go_enter Tryz.func118, Tryz.ntmps118
  go_wp2
  refine bodyPost_ret (v := .agg #[.int .i64 2, .int .i64 a, .string ⟨#[]⟩, .string ⟨#[]⟩]) (by simp [results, Tryz.results118, go_sem]) rfl ?_
  exact ⟨rfl, ((Below.refl _ w).alloc (Nat.le_refl _) _).alloc (by simp) _⟩

set_option maxHeartbeats 1000000 in
set_option maxRecDepth 100000 in
theorem node_pair (k : Int) (w : World) : Calls Tryz.prog 119 #[.agg #[.int .i64 k]] w fun e w' => e = .returned (nodeVal (shNode (.pair k))) ∧ Below w.heap.size w w' := by
  go_enter Tryz.func119, Tryz.ntmps119
  go_wp2
  refine bodyPost_ret (v := .agg #[.int .i64 k, .int .i64 0, .string ⟨#[]⟩, .string ⟨#[]⟩]) (by simp [results, Tryz.results119, go_sem]) rfl ?_
  exact ⟨rfl, ((Below.refl _ w).alloc (Nat.le_refl _) _).alloc (by simp) _⟩

set_option maxHeartbeats 1000000 in
set_option maxRecDepth 100000 in
theorem node_cond  (w : World) : Calls Tryz.prog 120 #[.agg #[]] w fun e w' => e = .returned (nodeVal (shNode (.cond))) ∧ Below w.heap.size w w' := by
  go_enter Tryz.func120, Tryz.ntmps120
  go_wp2
  refine bodyPost_ret (v := .agg #[.int .i64 7, .int .i64 0, .string ⟨#[]⟩, .string ⟨#[]⟩]) (by simp [results, Tryz.results120, go_sem]) rfl ?_
  exact ⟨rfl, ((Below.refl _ w).alloc (Nat.le_refl _) _).alloc (by simp) _⟩

set_option maxHeartbeats 1000000 in
set_option maxRecDepth 100000 in
theorem node_call (p : List UInt8) (f : List UInt8) (a : Int) (w : World) : Calls Tryz.prog 121 #[.agg #[.string ⟨p.toArray⟩, .string ⟨f.toArray⟩, .int .i64 a]] w fun e w' => e = .returned (nodeVal (shNode (.call p f a))) ∧ Below w.heap.size w w' := by
  go_enter Tryz.func121, Tryz.ntmps121
  go_wp2
  refine bodyPost_ret (v := .agg #[.int .i64 8, .int .i64 a, .string ⟨p.toArray⟩, .string ⟨f.toArray⟩]) (by simp [results, Tryz.results121, go_sem]) rfl ?_
  exact ⟨rfl, ((Below.refl _ w).alloc (Nat.le_refl _) _).alloc (by simp) _⟩

set_option maxHeartbeats 1000000 in
set_option maxRecDepth 100000 in
theorem node_no  (w : World) : Calls Tryz.prog 122 #[.agg #[]] w fun e w' => e = .returned (nodeVal (shNode (.no))) ∧ Below w.heap.size w w' := by
  go_enter Tryz.func122, Tryz.ntmps122
  go_wp2
  refine bodyPost_ret (v := .agg #[.int .i64 0, .int .i64 0, .string ⟨#[]⟩, .string ⟨#[]⟩]) (by simp [results, Tryz.results122, go_sem]) rfl ?_
  exact ⟨rfl, ((Below.refl _ w).alloc (Nat.le_refl _) _).alloc (by simp) _⟩

end Go.Proofs.YtnpbckgaeaameaaGreat
