/-
  Parts of one proof, one behind the other: RegT, NeedB.
-/
import Derived.Test.YtnpbckgaeaameaaP18
import Derived.Test.YtnpbckgaeaameaaP2
import Derived.Deep.RegionHeld
import Derived.RegionTactic

/-! A region that draws its order and stores, at its end, into a cell that it has read: what is held of the world is asked for behind every operation but those of E, which wait for all that is taken first. -/
namespace Go.Proofs.Ytnpbckgaeaameaa
open Go.RowKit

section
variable {P : Program} {ops : Array Oper} {Q : Exit → Act → World → Prop} {md : Region.Mode} {S : World → Prop} {E : List Nat}

/-- Whatever comes up next, and so on to the end; S holds behind each that is not of E. -/
def Till (P : Program) (md : Region.Mode) (ops : Array Oper) (Q : Exit → Act → World → Prop) (E : List Nat) (S : World → Prop) : Nat → Array Bool → Act → World → Prop
  | 0 => fun listed a w => Region.ready md ops listed = [] ∧ Q .normal a w
  | k + 1 => fun listed a w => (Region.ready md ops listed = [] → Q .normal a w) ∧
      ∀ i, i ∈ Region.ready md ops listed → wpOp P ops Q i (fun b v => (i ∉ E → S v) ∧ Till P md ops Q E S k (listed.setIfInBounds i true) b v) a w

theorem Till.any : ∀ (k : Nat) {listed : Array Bool} {a : Act} {w : World}, Till P md ops Q E S k listed a w → wpAny P md ops Q k listed a w
  | 0, _, _, _, h => h
  | k + 1, _, _, _, h => ⟨h.1, fun i hi => wpOp_mono (fun _ _ x => Till.any k x.2) (h.2 i hi)⟩
theorem Till.done {listed : Array Bool} {a : Act} {w : World} (hr : Region.ready md ops listed = []) (h : Q .normal a w) : ∀ k, Till P md ops Q E S k listed a w
  | 0 => ⟨hr, h⟩
  | _ + 1 => ⟨fun _ => h, fun i hi => by rw [hr] at hi; cases hi⟩

/-- What has come up has come behind all that it waits for. -/
def Shut11 (md : Region.Mode) (ops : Array Oper) (listed : Array Bool) : Prop := ∀ j o, ops[j]? = some o → listed.getD j false = true → ∀ e ∈ o.after, Region.binds md e = true → listed.getD e.on false = true
theorem Shut11.start (n : Nat) : Shut11 md ops (Array.replicate n false) := fun j o _ h => by
  rw [Array.getD_eq_getD_getElem?] at h
  simp only [Array.getElem?_replicate] at h
  split at h <;> cases h
theorem Shut11.set {listed : Array Bool} {i : Nat} (h : Shut11 md ops listed) (hi : i ∈ Region.ready md ops listed) : Shut11 md ops (listed.setIfInBounds i true) := fun j o ho hj e he hb => by
  refine getD_set_true ?_
  rcases Nat.decEq i j with hne | heq
  · rw [getD_set_ne false hne] at hj
    exact h j o ho hj e he hb
  · subst heq
    obtain ⟨_, p, hp, hall⟩ := mem_ready.1 hi
    rw [ho] at hp
    injection hp with hp
    subst hp
    exact hall e he hb
/-- m waits for i, by way of others. -/
def waitsB (md : Region.Mode) (ops : Array Oper) : Nat → Nat → Nat → Bool
  | 0, _, _ => false
  | k + 1, m, i => match ops[m]? with
    | some o => o.after.any (fun e => Region.binds md e && (e.on == i || waitsB md ops k e.on i))
    | none => false
theorem waits_listed {listed : Array Bool} (h : Shut11 md ops listed) {i : Nat} : ∀ (k m : Nat), (∀ o, ops[m]? = some o → ∀ e ∈ o.after, Region.binds md e = true → listed.getD e.on false = true) → waitsB md ops k m i = true → listed.getD i false = true
  | 0, _, _, hw => by cases hw
  | k + 1, m, hd, hw => by
    unfold waitsB at hw
    cases ho : ops[m]? with
    | none => rw [ho] at hw; cases hw
    | some o =>
      rw [ho] at hw
      simp only [Array.any_eq_true'] at hw
      obtain ⟨e, he, h2⟩ := hw
      rw [Bool.and_eq_true, Bool.or_eq_true] at h2
      have hl := hd o ho e he h2.1
      rcases h2.2 with h3 | h3
      · rw [← beq_iff_eq.1 h3]; exact hl
      · exact waits_listed h k e.on (fun p hp f hf hb => h e.on p hp hl f hf hb) h3

/-- One that may come up, and for which all of E wait, is taken first. -/
theorem Till.first {i : Nat} {o : Oper} {v : Value} {d : Nat} (ho : ops[i]? = some o) (hE : E.all (fun m => waitsB md ops d m i) = true) (hsel : ∀ (j : Nat) (p : Oper) cs b, ops[j]? = some p → p.op ≠ .select cs b)
    (hQ : ∀ c a w, Q (.panic c) (a.put o.dst v) w → Q (.panic c) a w) : ∀ (k : Nat) (listed : Array Bool) (a : Act) (w : World), Shut11 md ops listed →
      (∀ j p, ops[j]? = some p → j ≠ i → listed.getD j true = false → (∀ e ∈ p.after, Region.binds md e = true → e.on ≠ i) → o.apart ops p = true) →
      i ∈ Region.ready md ops listed → YieldsIf P ops S o v a → S w →
      Till P md ops Q E S k (listed.setIfInBounds i true) (a.put o.dst v) w → Till P md ops Q E S (k + 1) listed a w := by
  intro k
  induction k with
  | zero =>
    intro listed a w hsh hfree hr hy hS H
    refine ⟨fun h => (by rw [h] at hr; cases hr), fun j hj => ?_⟩
    rcases Nat.decEq j i with hne | heq
    · have hji : j ∈ Region.ready md ops (listed.setIfInBounds i true) := ready_mono hj hne
      rw [H.1] at hji
      cases hji
    · subst heq
      exact hy.wpOp ho hS ⟨fun _ => hS, H⟩
  | succ k ih =>
    intro listed a w hsh hfree hr hy hS H
    refine ⟨fun h => (by rw [h] at hr; cases hr), fun j hj => ?_⟩
    rcases Nat.decEq j i with hne | heq
    · have hji : j ∈ Region.ready md ops (listed.setIfInBounds i true) := ready_mono hj hne
      obtain ⟨hun, p, hp, hall⟩ := mem_ready.1 hj
      have h0 : listed.getD i true = false := (mem_ready.1 hr).1
      have h0f : listed.getD i false = false := by
        rcases Nat.lt_or_ge i listed.size with hl | hl
        · simp [hl] at h0 ⊢; exact h0
        · simp [Array.getElem?_eq_none hl] at h0
      have hnot : ∀ e ∈ p.after, Region.binds md e = true → e.on ≠ i := fun e he hb hei => by
        have h1 := hall e he hb
        rw [hei, h0f] at h1
        cases h1
      have hjE : j ∉ E := fun hjE => by
        have h1 := waits_listed hsh d j (fun q hq e he hb => by rw [hp] at hq; injection hq with hq; subst hq; exact hall e he hb) (List.all_eq_true.1 hE j hjE)
        rw [h0f] at h1
        cases h1
      have h2 := wpOp_putIf hp (hfree j p hp hne hun hnot) (fun cs b => hsel i o cs b ho) (fun cs b => hsel j p cs b hp) hQ hy (H.2 j hji)
      have hfree' : ∀ q r, ops[q]? = some r → q ≠ i → (listed.setIfInBounds j true).getD q true = false → (∀ e ∈ r.after, Region.binds md e = true → e.on ≠ i) → o.apart ops r = true := fun q r hq hqi hqu hqn => by
        refine hfree q r hq hqi ?_ hqn
        rcases Nat.decEq j q with hjq | hjq
        · rw [getD_set_ne true hjq] at hqu; exact hqu
        · subst hjq; exact hun
      refine wpOp_mono (fun b u h3 => ⟨h3.2.1, ih (listed.setIfInBounds j true) b u (hsh.set hj) hfree' (ready_mono hr (Ne.symm hne)) h3.1 (h3.2.1 hjE) ?_⟩) h2
      rw [Array.setIfInBounds_comm _ _ hne]
      exact h3.2.2
    · subst heq
      exact hy.wpOp ho hS ⟨fun _ => hS, H⟩

/-! The moves of a walk. -/
theorem Till.region {id : Nat} {a : Act} {w : World} (hm : P.follows .mixedOrders = true) (hS : S w.drew) (h : S w.drew → Shut11 .any ops (Array.replicate ops.size false) → Till P .any ops Q E S ops.size (Array.replicate ops.size false) a w.drew) : (Code.region id ops true).wp P Q a w :=
  wp_region_any hm (Till.any _ (h hS (Shut11.start _)))
theorem Till.take {i : Nat} {o : Oper} {v : Value} {d k : Nat} {listed : Array Bool} {a : Act} {w : World} (ho : ops[i]? = some o) (hs : Region.noSelect ops = true) (hf : Region.free md ops listed i = true) (hr : (Region.ready md ops listed).contains i = true) (hE : E.all (fun m => waitsB md ops d m i) = true)
    (hQ : ∀ c a w, Q (.panic c) (a.put o.dst v) w → Q (.panic c) a w) (hy : YieldsIf P ops S o v a) (hS : S w) (hsh : Shut11 md ops listed)
    (h : Shut11 md ops (listed.setIfInBounds i true) → Till P md ops Q E S k (listed.setIfInBounds i true) (a.put o.dst v) w) : Till P md ops Q E S (k + 1) listed a w :=
  Till.first ho hE (Region.noSelect_spec hs) hQ k listed a w hsh (Region.free_spec ho hf) (by simpa using hr) hy hS (h (hsh.set (by simpa using hr)))
theorem Till.one {i : Nat} {o : Oper} {k : Nat} {listed : Array Bool} {a : Act} {w : World} (hr : Region.ready md ops listed = [i]) (ho : ops[i]? = some o) (hsh : Shut11 md ops listed)
    (h : ∀ K' : Act → World → Prop, Shut (∀ b v, S v → (S v → Shut11 md ops (listed.setIfInBounds i true) → Till P md ops Q E S k (listed.setIfInBounds i true) b v) → K' b v) → if Region.wanted o (yielded ops a.tmps) = true then Oper.wp P o a w K' Q else K' (a.put o.dst undef) w) : Till P md ops Q E S (k + 1) listed a w := by
  have hi : i ∈ Region.ready md ops listed := by rw [hr]; exact List.mem_singleton_self i
  refine ⟨fun h0 => (by rw [h0] at hi; cases hi), fun j hj => ?_⟩
  rw [hr] at hj
  obtain rfl := List.mem_singleton.1 hj
  exact wpOp_step ho (fun K' hK => h K' (fun b v hS hW => hK b v ⟨fun _ => hS, hW hS (hsh.set hi)⟩))
theorem Till.last {i : Nat} {o : Oper} {k : Nat} {listed : Array Bool} {a : Act} {w : World} (hr : Region.ready md ops listed = [i]) (ho : ops[i]? = some o) (hiE : i ∈ E)
    (h : ∀ K' : Act → World → Prop, Shut (∀ b v, Till P md ops Q E S k (listed.setIfInBounds i true) b v → K' b v) → if Region.wanted o (yielded ops a.tmps) = true then Oper.wp P o a w K' Q else K' (a.put o.dst undef) w) : Till P md ops Q E S (k + 1) listed a w := by
  have hi : i ∈ Region.ready md ops listed := by rw [hr]; exact List.mem_singleton_self i
  refine ⟨fun h0 => (by rw [h0] at hi; cases hi), fun j hj => ?_⟩
  rw [hr] at hj
  obtain rfl := List.mem_singleton.1 hj
  exact wpOp_step ho (fun K' hK => h K' (fun b v hW => hK b v ⟨fun hn => absurd hiE hn, hW⟩))
end

end Go.Proofs.Ytnpbckgaeaameaa

/-! Contracts of chapter 12's landed code: many, above, greatest. -/
namespace Go.Proofs.Ytnpbckgaeaameaa
open Go.RowKit

/-- What above holds: the need that came in, the answer's place, the new need. -/
structure Ab (w X : World) (g1 g2 g3 k m : Nat) : Prop where
  a : Nb X g1 0 k
  r : Nb X g2 0 0
  n : Nb X g3 0 m
  h1 : g1 < g2
  h2 : g2 < g3
  h0 : w.heap.size ≤ g1
  b : Below w.heap.size w X
theorem Ab.set {w X : World} {g1 g2 g3 k m : Nat} (s : Ab w X g1 g2 g3 k m) (i m2 : Nat) (v : Bool) (hi : i < 60) (hm : ∀ j, j < 60 → (j < m2 ↔ (if j = i then v = true else j < m))) : Ab w (X.setCell ⟨g3, i, none⟩ (.bool v)) g1 g2 g3 k m2 := by
  have hn := s.n.set i m2 v hi hm
  rw [Nat.zero_add] at hn
  have hg := grown_set X g3 i (.bool v)
  have := s.h0; have := s.h1; have := s.h2; have := s.n.lt
  exact ⟨s.a.kept hg (by simp; omega), s.r.kept hg (by simp; omega), hn, s.h1, s.h2, s.h0, s.b.grown hg (by omega) (fun q e => by injection e with e; omega)⟩

theorem min_step {i n : Nat} {v : Bool} (hv : v = decide (i < n)) (j : Nat) : j < min (i + 1) n ↔ (if j = i then v = true else j < min i n) := by
  subst hv
  by_cases e : j = i
  · subst e; rw [if_pos rfl, decide_eq_true_iff]; omega
  · rw [if_neg e]; omega

theorem Nb.cut {X : World} {b o n : Nat} (h : Nb X b o (min 60 n)) : Nb X b o n := by
  have e : nvL (min 60 n) = nvL n := nvL_ext (fun j hj => by omega)
  have h1 := h.cs
  rw [e] at h1
  exact ⟨h1, h.ok⟩
theorem index55 (W : World) (b i : Nat) (hi : (i : Int) < 60) : (Instr.indexAt 63 (.pointer (some ⟨b, 0, none⟩)) (.int .i64 (i : Int))).run Try.prog W = .ok (.pointer (some ⟨b, i, none⟩)) W := by
  have hu : Try.prog.underlying 63 = some (.array (Try.prog.arrayLen 63) (Try.prog.elem 63)) := by kernel_rfl
  have hl : Try.prog.arrayLen 63 = 60 := by kernel_rfl
  have he : Try.prog.elem 63 = 4 := by kernel_rfl
  rw [run_indexAt_array _ _ _ _ _ hu, hl, he, if_pos ⟨by omega, by omega⟩, Try.sizeOf4]
  simp [Result.andThen, Addr.add_mid]

set_option maxHeartbeats 2000000 in
set_option maxRecDepth 100000 in
theorem implAbove (k h : Nat) (w : World) (hh : h ≤ 1000000) :
    Calls Try.prog 98 #[.agg (nv k), .int .i64 (h : Int)] w fun e w' => e = .returned (.agg (nv (k + h))) ∧ Below w.heap.size w w' := by
  go_enter Try.func98, Try.ntmps98
  go_wp2_with (guard_target = wpList _ _ _ _ _ _; first | (refine list_box_nv rfl _ rfl 2 rfl k rfl (fun Y1 g1 hN1 hB1 hG1 => ?_)) | (refine list_alloc_nv rfl rfl 4 rfl (fun Y2 g2 hN2 hB2 hG2 => ?_)) | (refine list_alloc_nv rfl rfl 5 rfl (fun Y3 g3 hN3 hB3 hG3 => ?_)) | (refine list_build_nv rfl rfl ?_) | (refine list_store_nv rfl _ _ rfl _ _ 0 rfl rfl hN3.ok (fun Y4 hN4 hG4 => ?_)))
  have HS : Hid (Ab w Y4 g1 g2 g3 k 0) := by
    have l1 := hN1.lt; have l2 := hN2.lt; have l3 := hN3.lt
    have b2 := hB1.trans (hB2.mono hB1.size)
    have b3 := b2.trans (hB3.mono b2.size)
    exact ⟨((hN1.below hB2).below hB3).kept hG4 (by simp; omega), (hN2.below hB3).kept hG4 (by simp; omega), hN4, by omega, by omega, hG1, b3.grown hG4 b3.size (fun q e => by injection e with e; have := hB1.size; omega)⟩
  clear hN1 hB1 hG1 hN2 hB2 hG2 hN3 hB3 hG3 hN4 hG4
  go_loopw [8] (fun iv wx => ∃ i : Nat, iv = .int .i64 (i : Int) ∧ i ≤ 60 ∧ Hid (Ab w wx g1 g2 g3 k (min i (k + h)))) (fun iv _ => 60 - (intOf iv).toNat)
  case atStart => exact ⟨0, rfl, by omega, by rw [Nat.zero_min]; exact HS⟩
  case round =>
    obtain ⟨i, rfl, hi, st⟩ := hrel
    clear HS
    have hix := index55
    by_cases hlt : (i : Int) < 60
    · have c3 := st.out.n.cell i (by omega)
      have f3 := (st.out.n.ok i (by omega)).2
      rw [Nat.zero_add] at c3 f3
      by_cases hih : (i : Int) < (h : Int)
      · have HR : Hid (Ab w (wr.setCell ⟨g3, i, none⟩ (.bool true)) g1 g2 g3 k (min (i + 1) (k + h))) := st.out.set i _ true (by omega) (fun j _ => min_step (by rw [decide_eq_true (by omega)]) j)
        go_wp2
        go_roundw
        case rel => exact ⟨i + 1, by go_num, by omega, HR⟩
        case measure => simp [intOf]; omega
      · have c1 := st.out.a.cell (i - h) (by omega)
        rw [Nat.zero_add] at c1
        have HR : Hid (Ab w (wr.setCell ⟨g3, i, none⟩ (.bool (decide (i - h < k)))) g1 g2 g3 k (min (i + 1) (k + h))) := st.out.set i _ _ (by omega) (fun j _ => min_step (decide_eq_decide.2 (by omega)) j)
        obtain ⟨q, hq⟩ : ∃ q, i - h = q := ⟨_, rfl⟩
        rw [hq] at c1 HR
        have hqi : (i : Int) - (h : Int) = (q : Int) := by omega
        have hq6 : (q : Int) < 60 := by omega
        go_wp2
        go_roundw
        case rel => exact ⟨i + 1, by go_num, by omega, HR⟩
        case measure => simp [intOf]; omega
    · have hi6 : i = 60 := by omega
      subst hi6
      have h3 := st.out.n.cut
      go_wp2_with (guard_target = wpList _ _ _ _ _ _; first | (refine list_load_nv rfl _ rfl 24 rfl _ _ (k + h) rfl (by exact h3.cs) ?_) | (refine list_store_nv rfl _ _ rfl _ _ (k + h) rfl rfl st.out.r.ok (fun Y5 hN5 hG5 => ?_)))
      refine bodyPost_ret (v := .agg (nv (k + h))) (results_nv Try.results98 _ _ g2 (k + h) rfl hN5.cs) rfl ⟨rfl, ?_⟩
      exact st.out.b.grown hG5 st.out.b.size (fun q e => by injection e with e; have := st.out.h0; have := st.out.h1; omega)

theorem indexV55 (k : Nat) (W : World) (i : Nat) (hi : (i : Int) < 60) : (Instr.index 63 (.agg (nv k)) (.int .i64 (i : Int))).run Try.prog W = .ok (.bool (decide (i < k))) W := by
  simp [Instr.index, run_underlying Try.underlying63, asIntOf, Try.sizeOf4, part, isAgg, run_underlying Try.underlying4, nv_at k i (by omega), show i < 60 by omega]

set_option maxHeartbeats 2000000 in
set_option maxRecDepth 100000 in
theorem implMany (k : Nat) (w : World) (hk : k ≤ 60) :
    Calls Try.prog 45 #[.agg (nv k)] w fun e w' => e = .returned (.int .i64 (k : Int)) ∧ Below w.heap.size w w' := by
  go_enter Try.func45, Try.ntmps45
  go_wp2_with (guard_target = wpList _ _ _ _ _ _; first | (refine list_box_nv rfl _ rfl 1 rfl k rfl (fun Y1 g1 hN1 hB1 hG1 => ?_)) | (refine list_load_nv rfl _ rfl 6 rfl _ _ k rfl (by exact hN1.cs) ?_))
  clear hN1 hG1
  have hix := indexV55 k
  go_loop [3, 7] (fun tv iv => ∃ i : Nat, iv = .int .i64 (i : Int) ∧ i ≤ 60 ∧ tv = .int .i64 ((min i k : Nat) : Int)) (fun _ iv => 60 - (intOf iv).toNat)
  case atStart => exact ⟨0, rfl, by omega, by rw [Nat.zero_min]; rfl⟩
  case round =>
    obtain ⟨i, rfl, hi, rfl⟩ := hrel
    obtain ⟨m, hm⟩ : ∃ m, min i k = m := ⟨_, rfl⟩
    rw [hm]
    have hm6 : m ≤ 60 := by omega
    by_cases hlt : (i : Int) < 60
    · by_cases hik : i < k
      · have hd : decide (i < k) = true := decide_eq_true hik
        have HM : Hid (min (i + 1) k = m + 1) := by exact (by omega : min (i + 1) k = m + 1)
        clear hm
        go_wp2
        go_round
        case rel => exact ⟨i + 1, by go_num, by omega, by rw [HM.out]; go_num⟩
        case measure => simp [intOf]; omega
      · have hd : decide (i < k) = false := decide_eq_false hik
        have HM : Hid (min (i + 1) k = m) := by exact (by omega : min (i + 1) k = m)
        clear hm
        go_wp2
        go_round
        case rel => exact ⟨i + 1, by go_num, by omega, by rw [HM.out]⟩
        case measure => simp [intOf]; omega
    · have HM : Hid (m = k) := by exact (by omega : m = k)
      clear hm
      go_wp2
      go_ret
      exact ⟨by rw [HM.out]; rfl, hB1⟩

/-- Needs that can be read. -/
def NsIn (w : World) (a : Option Addr) (ks : List Nat) : Prop := ∀ j, j < ks.length → ∃ b off, a = some ⟨b, off, none⟩ ∧ b < w.heap.size ∧ w.rangeAt b (off + j * 60) (nvL (ks.getD j 0))
theorem range_block {w w' : World} {b o : Nat} {cs : List Value} (h : w.rangeAt b o cs) (hb : w'.heap[b]? = w.heap[b]?) : w'.rangeAt b o cs := fun j v hv => (World.cell?_of_block (a := ⟨b, o + j, none⟩) hb).trans (h j v hv)
theorem NsIn.below {w w' : World} {a : Option Addr} {ks : List Nat} (h : NsIn w a ks) (hb : Below w.heap.size w w') : NsIn w' a ks := fun j hj => by
  obtain ⟨b, off, e, hl, hc⟩ := h j hj
  exact ⟨b, off, e, Nat.lt_of_lt_of_le hl hb.size, range_block hc (hb.block b hl)⟩
def gr (ks : List Nat) : Nat := ks.foldl max 1
theorem gr_snoc (ks : List Nat) (j : Nat) (hj : j < ks.length) : gr (ks.take (j + 1)) = max (gr (ks.take j)) (ks.getD j 0) := by
  have hg : ks.getD j 0 = ks[j] := by simp [List.getD, hj]
  rw [hg, List.take_succ_eq_append_getElem hj]
  unfold gr
  rw [List.foldl_append]
  rfl
theorem Nb.like {X : World} {b o m n : Nat} (h : Nb X b o m) (e : ∀ j, j < 60 → (j < m ↔ j < n)) : Nb X b o n := by
  have h1 := h.cs
  rw [nvL_ext e] at h1
  exact ⟨h1, h.ok⟩

/-- What greatest holds: the answer's place, the new need. -/
structure Gr (w X : World) (g2 g3 m : Nat) : Prop where
  r : Nb X g2 0 0
  n : Nb X g3 0 m
  h2 : g2 < g3
  h0 : w.heap.size ≤ g2
  b : Below w.heap.size w X
theorem Gr.below {w X Y : World} {g2 g3 m : Nat} (s : Gr w X g2 g3 m) (hb : Below X.heap.size X Y) : Gr w Y g2 g3 m := ⟨s.r.below hb, s.n.below hb, s.h2, s.h0, s.b.trans (hb.mono s.b.size)⟩
theorem Gr.kept {w X Y : World} {g2 g3 m q : Nat} (s : Gr w X g2 g3 m) (hg : X.grownBy Y (some q)) (hq : g3 < q) : Gr w Y g2 g3 m := by
  have := s.h0; have := s.h2
  exact ⟨s.r.kept hg (by simp; omega), s.n.kept hg (by simp; omega), s.h2, s.h0, s.b.grown hg s.b.size (fun q' e => by injection e with e; omega)⟩
theorem Gr.set {w X : World} {g2 g3 m : Nat} (s : Gr w X g2 g3 m) (i m2 : Nat) (v : Bool) (hi : i < 60) (hm : ∀ j, j < 60 → (j < m2 ↔ (if j = i then v = true else j < m))) : Gr w (X.setCell ⟨g3, i, none⟩ (.bool v)) g2 g3 m2 := by
  have hn := s.n.set i m2 v hi hm
  rw [Nat.zero_add] at hn
  have hg := grown_set X g3 i (.bool v)
  have := s.h0; have := s.h2; have := s.n.lt
  exact ⟨s.r.kept hg (by simp; omega), hn, s.h2, s.h0, s.b.grown hg s.b.size (fun q e => by injection e with e; omega)⟩
theorem Gr.like {w X : World} {g2 g3 m n : Nat} (s : Gr w X g2 g3 m) (e : ∀ j, j < 60 → (j < m ↔ j < n)) : Gr w X g2 g3 n := ⟨s.r, s.n.like e, s.h2, s.h0, s.b⟩
theorem max_step {i m k : Nat} {v : Bool} (hv : v = (decide (i < max m (min i k)) || decide (i < k))) (j : Nat) : j < max m (min (i + 1) k) ↔ (if j = i then v = true else j < max m (min i k)) := by
  subst hv
  by_cases e : j = i
  · subst e; rw [if_pos rfl, Bool.or_eq_true, decide_eq_true_iff, decide_eq_true_iff]; omega
  · rw [if_neg e]; omega

set_option maxHeartbeats 4000000 in
set_option maxRecDepth 100000 in
theorem implGreatest (a : Option Addr) (n c : Nat) (ks : List Nat) (w : World) (hn : ks.length = n) (hin : NsIn w a ks) (hnl : n ≤ 1048576) :
    Calls Try.prog 70 #[.slice a n c] w fun e w' => e = .returned (.agg (nv (gr ks))) ∧ Below w.heap.size w w' := by
  have HIn : Hid (∀ X, Below w.heap.size w X → NsIn X a ks) := fun X hb => hin.below hb
  have HN : Hid (ks.length = n) := hn
  clear hin hn
  go_enter Try.func70, Try.ntmps70
  go_wp2_with (guard_target = wpList _ _ _ _ _ _; first | (refine list_alloc_nv rfl rfl 2 rfl (fun Y2 g2 hN2 hB2 hG2 => ?_)) | (refine list_alloc_nv rfl rfl 3 rfl (fun Y3 g3 hN3 hB3 hG3 => ?_)) | (refine list_build_nv1 rfl rfl ?_) | (refine list_store_nv rfl _ _ rfl _ _ 1 rfl rfl hN3.ok (fun Y4 hN4 hG4 => ?_)))
  have HS : Hid (Gr w Y4 g2 g3 1) := by
    have l2 := hN2.lt; have l3 := hN3.lt
    have b3 := hB2.trans (hB3.mono hB2.size)
    exact ⟨(hN2.below hB3).kept hG4 (by simp; omega), hN4, by omega, hG2, b3.grown hG4 b3.size (fun q e => by injection e with e; have := hB2.size; omega)⟩
  clear hN2 hB2 hG2 hN3 hB3 hG3 hN4 hG4
  go_loopw [11] (fun jv wx => ∃ j : Nat, jv = .int .i64 (j : Int) ∧ j ≤ n ∧ Hid (Gr w wx g2 g3 (gr (ks.take j)))) (fun jv _ => n - (intOf jv).toNat)
  case atStart => exact ⟨0, rfl, Nat.zero_le _, HS⟩
  case round =>
    obtain ⟨j, rfl, hj, st⟩ := hrel
    clear HS
    by_cases hlt : (j : Int) < (n : Int)
    · obtain ⟨b, off, rfl, hbl, hrg⟩ := HIn.out wr st.out.b j (by rw [HN.out]; omega)
      have HSn : Hid (gr (ks.take (j + 1)) = max (gr (ks.take j)) (ks.getD j 0)) := gr_snoc ks j (by rw [HN.out]; omega)
      obtain ⟨k, hk⟩ : ∃ k, ks.getD j 0 = k := ⟨_, rfl⟩
      obtain ⟨m, hm⟩ : ∃ m, gr (ks.take j) = m := ⟨_, rfl⟩
      rw [hk] at hrg HSn
      rw [hm] at st HSn
      clear hk hm
      go_wp2_with (guard_target = wpList _ _ _ _ _ _; first | (refine list_load_nv rfl _ rfl 14 rfl _ _ k rfl (by exact hrg) ?_) | (refine list_alloc_nv rfl rfl 5 rfl (fun Y5 g5 hN5 hB5 hG5 => ?_)) | (refine list_store_nv rfl _ _ rfl _ _ k rfl rfl hN5.ok (fun Y6 hN6 hG6 => ?_)) | (refine list_load_nv rfl _ rfl 15 rfl _ _ k rfl (by exact hN6.cs) ?_))
      have HS6 : Hid (Gr w Y6 g2 g3 m) := (st.out.below hB5).kept hG6 (by have := st.out.n.lt; omega)
      clear hN5 hB5 hG5 hN6 hG6 hrg
      have hix := indexV55 k
      have hjx := index55
      go_loopw [16] (fun iv wx => ∃ i : Nat, iv = .int .i64 (i : Int) ∧ i ≤ 60 ∧ Hid (Gr w wx g2 g3 (max m (min i k)))) (fun iv _ => 60 - (intOf iv).toNat)
      case atStart => exact ⟨0, rfl, by omega, by rw [Nat.zero_min, Nat.max_zero]; exact HS6⟩
      case round =>
        obtain ⟨i, rfl, hi, sti⟩ := hrel
        clear HS6
        rename World => W
        by_cases hlt6 : (i : Int) < 60
        · have c3 := sti.out.n.cell i (by omega)
          have f3 := (sti.out.n.ok i (by omega)).2
          rw [Nat.zero_add] at c3 f3
          by_cases hd : i < max m (min i k)
          · rw [decide_eq_true hd] at c3
            have HR : Hid (Gr w (W.setCell ⟨g3, i, none⟩ (.bool true)) g2 g3 (max m (min (i + 1) k))) := sti.out.set i _ true (by omega) (fun j _ => max_step (by rw [decide_eq_true hd]; rfl) j)
            clear hd
            go_wp2
            go_roundw
            case rel => exact ⟨i + 1, by go_num, by omega, HR⟩
            case measure => simp [intOf]; omega
          · rw [decide_eq_false hd] at c3
            have HR : Hid (Gr w (W.setCell ⟨g3, i, none⟩ (.bool (decide (i < k)))) g2 g3 (max m (min (i + 1) k))) := sti.out.set i _ _ (by omega) (fun j _ => max_step (by rw [decide_eq_false hd]; rfl) j)
            clear hd
            go_wp2
            go_roundw
            case rel => exact ⟨i + 1, by go_num, by omega, HR⟩
            case measure => simp [intOf]; omega
        · have HR : Hid (Gr w W g2 g3 (gr (ks.take (j + 1)))) := by
            have h6 : i = 60 := by omega
            rw [HSn.out]
            refine sti.out.like (fun q hq => ?_)
            omega
          go_wp2
          go_roundw
          case rel => exact ⟨j + 1, by go_num, by omega, HR⟩
          case measure => simp [intOf]; omega
    · have HE : Hid (gr (ks.take j) = gr ks) := by exact (by rw [List.take_of_length_le (by rw [HN.out]; omega)] : gr (ks.take j) = gr ks)
      rw [HE.out] at st
      go_wp2_with (guard_target = wpList _ _ _ _ _ _; first | (refine list_load_nv rfl _ rfl 30 rfl _ _ (gr ks) rfl (by exact st.out.n.cs) ?_) | (refine list_store_nv rfl _ _ rfl _ _ (gr ks) rfl rfl st.out.r.ok (fun Y5 hN5 hG5 => ?_)))
      refine bodyPost_ret (v := .agg (nv (gr ks))) (results_nv Try.results70 _ _ g2 (gr ks) rfl hN5.cs) rfl ⟨rfl, ?_⟩
      exact st.out.b.grown hG5 st.out.b.size (fun q e => by injection e with e; have := st.out.h0; omega)

end Go.Proofs.Ytnpbckgaeaameaa
