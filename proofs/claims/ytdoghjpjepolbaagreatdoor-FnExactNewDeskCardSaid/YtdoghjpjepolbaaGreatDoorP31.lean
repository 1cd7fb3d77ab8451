/-
  Parts of one proof, one behind the other: RegT, NewJ.
-/
import Derived.Test.YtdoghjpjepolbaaGreatDoorP30
import Derived.Test.YtdoghjpjepolbaaGreatDoorP1
import Derived.Deep.RegionHeld
import Derived.RegionTactic

/-! A region that draws its order and stores, at its end, into a cell that it has read: what is held of the world is asked for behind every operation but those of E, which wait for all that is taken first. -/
namespace Go.Proofs.YtdoghjpjepolbaaGreatDoor
open Go.RowKit

section
variable {P : Program} {ops : Array Oper} {Q : Exit → Act → World → Prop} {md : Region.Mode} {S : World → Prop} {E : List Nat}

/-- Whatever comes up next, and so on to the end; S holds behind each that is not of E. -/
def Till (P : Program) (md : Region.Mode) (ops : Array Oper) (Q : Exit → Act → World → Prop) (E : List Nat) (S : World → Prop) : Nat → Array Bool → Act → World → Prop
 | 0 => fun listed a w => Region.ready md ops listed = [] ∧ Q .normal a w
 | k + 1 => fun listed a w => (Region.ready md ops listed = [] → Q .normal a w) ∧
  ∀ i, i ∈ Region.ready md ops listed → wpOp P ops Q i (fun b v => (i ∉ E → S v) ∧ Till P md ops Q E S k (listed.setIfInBounds i true) b v) a w

theorem Till.any : ∀ (k : Nat) {listed : Array Bool} {a : Act} {w : World}, Till P md ops Q E S k listed a w → wpAny P md ops Q k listed a w
 | 0, _, _, _, h => h
 | k + 1, _, _, _, h => ⟨h.1, fun i hi => wpOp_mono (fun _ _ x => Till.any k x.2) (h.2 i hi)⟩
theorem Till.done {listed : Array Bool} {a : Act} {w : World} (hr : Region.ready md ops listed = []) (h : Q .normal a w) : ∀ k, Till P md ops Q E S k listed a w
 | 0 => ⟨hr, h⟩
 | _ + 1 => ⟨fun _ => h, fun i hi => by rw [hr] at hi; cases hi⟩

/-- What has come up has come behind all that it waits for. -/
def Shut11 (md : Region.Mode) (ops : Array Oper) (listed : Array Bool) : Prop := ∀ j o, ops[j]? = some o → listed.getD j false = true → ∀ e ∈ o.after, Region.binds md e = true → listed.getD e.on false = true
theorem Shut11.start (n : Nat) : Shut11 md ops (Array.replicate n false) := fun j o _ h => by
 rw [Array.getD_eq_getD_getElem?] at h
 simp only [Array.getElem?_replicate] at h
 split at h <;> cases h
theorem Shut11.set {listed : Array Bool} {i : Nat} (h : Shut11 md ops listed) (hi : i ∈ Region.ready md ops listed) : Shut11 md ops (listed.setIfInBounds i true) := fun j o ho hj e he hb => by
 refine getD_set_true ?_
 rcases Nat.decEq i j with hne | heq
 ·
  rw [getD_set_ne false hne] at hj
  exact h j o ho hj e he hb
 ·
  subst heq
  obtain ⟨_, p, hp, hall⟩ := mem_ready.1 hi
  rw [ho] at hp
  injection hp with hp
  subst hp
  exact hall e he hb
/-- m waits for i, by way of others. -/
def waitsB (md : Region.Mode) (ops : Array Oper) : Nat → Nat → Nat → Bool
 | 0, _, _ => false
 | k + 1, m, i => match ops[m]? with
  | some o => o.after.any (fun e => Region.binds md e && (e.on == i || waitsB md ops k e.on i))
  | none => false
theorem waits_listed {listed : Array Bool} (h : Shut11 md ops listed) {i : Nat} : ∀ (k m : Nat), (∀ o, ops[m]? = some o → ∀ e ∈ o.after, Region.binds md e = true → listed.getD e.on false = true) → waitsB md ops k m i = true → listed.getD i false = true
 | 0, _, _, hw => by cases hw
 | k + 1, m, hd, hw => by
  unfold waitsB at hw
  cases ho : ops[m]? with
  | none => rw [ho] at hw; cases hw
  | some o =>
   rw [ho] at hw
   simp only [Array.any_eq_true'] at hw
   obtain ⟨e, he, h2⟩ := hw
   rw [Bool.and_eq_true, Bool.or_eq_true] at h2
   have hl := hd o ho e he h2.1
   rcases h2.2 with h3 | h3
   ·
    rw [← beq_iff_eq.1 h3]; exact hl
   ·
    exact waits_listed h k e.on (fun p hp f hf hb => h e.on p hp hl f hf hb) h3

/-- One that may come up, and for which all of E wait, is taken first. -/
theorem Till.first {i : Nat} {o : Oper} {v : Value} {d : Nat} (ho : ops[i]? = some o) (hE : E.all (fun m => waitsB md ops d m i) = true) (hsel : ∀ (j : Nat) (p : Oper) cs b, ops[j]? = some p → p.op ≠ .select cs b)
 (hQ : ∀ c a w, Q (.panic c) (a.put o.dst v) w → Q (.panic c) a w) : ∀ (k : Nat) (listed : Array Bool) (a : Act) (w : World), Shut11 md ops listed →
  (∀ j p, ops[j]? = some p → j ≠ i → listed.getD j true = false → (∀ e ∈ p.after, Region.binds md e = true → e.on ≠ i) → o.apart ops p = true) →
  i ∈ Region.ready md ops listed → YieldsIf P ops S o v a → S w →
  Till P md ops Q E S k (listed.setIfInBounds i true) (a.put o.dst v) w → Till P md ops Q E S (k + 1) listed a w := by
 intro k
 induction k with
 | zero =>
  intro listed a w hsh hfree hr hy hS H
  refine ⟨fun h => (by rw [h] at hr; cases hr), fun j hj => ?_⟩
  rcases Nat.decEq j i with hne | heq
  ·
   have hji : j ∈ Region.ready md ops (listed.setIfInBounds i true) := ready_mono hj hne
   rw [H.1] at hji
   cases hji
  ·
   subst heq
   exact hy.wpOp ho hS ⟨fun _ => hS, H⟩
 | succ k ih =>
  intro listed a w hsh hfree hr hy hS H
  refine ⟨fun h => (by rw [h] at hr; cases hr), fun j hj => ?_⟩
  rcases Nat.decEq j i with hne | heq
  ·
   have hji : j ∈ Region.ready md ops (listed.setIfInBounds i true) := ready_mono hj hne
   obtain ⟨hun, p, hp, hall⟩ := mem_ready.1 hj
   have h0 : listed.getD i true = false := (mem_ready.1 hr).1
   have h0f : listed.getD i false = false := by
    rcases Nat.lt_or_ge i listed.size with hl | hl
    ·
     simp [hl] at h0 ⊢; exact h0
    ·
     simp [Array.getElem?_eq_none hl] at h0
   have hnot : ∀ e ∈ p.after, Region.binds md e = true → e.on ≠ i := fun e he hb hei => by
    have h1 := hall e he hb
    rw [hei, h0f] at h1
    cases h1
   have hjE : j ∉ E := fun hjE => by
    have h1 := waits_listed hsh d j (fun q hq e he hb => by rw [hp] at hq; injection hq with hq; subst hq; exact hall e he hb) (List.all_eq_true.1 hE j hjE)
    rw [h0f] at h1
    cases h1
   have h2 := wpOp_putIf hp (hfree j p hp hne hun hnot) (fun cs b => hsel i o cs b ho) (fun cs b => hsel j p cs b hp) hQ hy (H.2 j hji)
   have hfree' : ∀ q r, ops[q]? = some r → q ≠ i → (listed.setIfInBounds j true).getD q true = false → (∀ e ∈ r.after, Region.binds md e = true → e.on ≠ i) → o.apart ops r = true := fun q r hq hqi hqu hqn => by
    refine hfree q r hq hqi ?_ hqn
    rcases Nat.decEq j q with hjq | hjq
    ·
     rw [getD_set_ne true hjq] at hqu; exact hqu
    ·
     subst hjq; exact hun
   refine wpOp_mono (fun b u h3 => ⟨h3.2.1, ih (listed.setIfInBounds j true) b u (hsh.set hj) hfree' (ready_mono hr (Ne.symm hne)) h3.1 (h3.2.1 hjE) ?_⟩) h2
   rw [Array.setIfInBounds_comm _ _ hne]
   exact h3.2.2
  ·
   subst heq
   exact hy.wpOp ho hS ⟨fun _ => hS, H⟩

/-! The moves of a walk. -/
theorem Till.region {id : Nat} {a : Act} {w : World} (hm : P.follows .mixedOrders = true) (hS : S w.drew) (h : S w.drew → Shut11 .any ops (Array.replicate ops.size false) → Till P .any ops Q E S ops.size (Array.replicate ops.size false) a w.drew) : (Code.region id ops true).wp P Q a w :=
 wp_region_any hm (Till.any _ (h hS (Shut11.start _)))
theorem Till.take {i : Nat} {o : Oper} {v : Value} {d k : Nat} {listed : Array Bool} {a : Act} {w : World} (ho : ops[i]? = some o) (hs : Region.noSelect ops = true) (hf : Region.free md ops listed i = true) (hr : (Region.ready md ops listed).contains i = true) (hE : E.all (fun m => waitsB md ops d m i) = true)
 (hQ : ∀ c a w, Q (.panic c) (a.put o.dst v) w → Q (.panic c) a w) (hy : YieldsIf P ops S o v a) (hS : S w) (hsh : Shut11 md ops listed)
 (h : Shut11 md ops (listed.setIfInBounds i true) → Till P md ops Q E S k (listed.setIfInBounds i true) (a.put o.dst v) w) : Till P md ops Q E S (k + 1) listed a w :=
 Till.first ho hE (Region.noSelect_spec hs) hQ k listed a w hsh (Region.free_spec ho hf) (by simpa using hr) hy hS (h (hsh.set (by simpa using hr)))
theorem Till.one {i : Nat} {o : Oper} {k : Nat} {listed : Array Bool} {a : Act} {w : World} (hr : Region.ready md ops listed = [i]) (ho : ops[i]? = some o) (hsh : Shut11 md ops listed)
 (h : ∀ K' : Act → World → Prop, Shut (∀ b v, S v → (S v → Shut11 md ops (listed.setIfInBounds i true) → Till P md ops Q E S k (listed.setIfInBounds i true) b v) → K' b v) → if Region.wanted o (yielded ops a.tmps) = true then Oper.wp P o a w K' Q else K' (a.put o.dst undef) w) : Till P md ops Q E S (k + 1) listed a w := by
 have hi : i ∈ Region.ready md ops listed := by rw [hr]; exact List.mem_singleton_self i
 refine ⟨fun h0 => (by rw [h0] at hi; cases hi), fun j hj => ?_⟩
 rw [hr] at hj
 obtain rfl := List.mem_singleton.1 hj
 exact wpOp_step ho (fun K' hK => h K' (fun b v hS hW => hK b v ⟨fun _ => hS, hW hS (hsh.set hi)⟩))
theorem Till.last {i : Nat} {o : Oper} {k : Nat} {listed : Array Bool} {a : Act} {w : World} (hr : Region.ready md ops listed = [i]) (ho : ops[i]? = some o) (hiE : i ∈ E)
 (h : ∀ K' : Act → World → Prop, Shut (∀ b v, Till P md ops Q E S k (listed.setIfInBounds i true) b v → K' b v) → if Region.wanted o (yielded ops a.tmps) = true then Oper.wp P o a w K' Q else K' (a.put o.dst undef) w) : Till P md ops Q E S (k + 1) listed a w := by
 have hi : i ∈ Region.ready md ops listed := by rw [hr]; exact List.mem_singleton_self i
 refine ⟨fun h0 => (by rw [h0] at hi; cases hi), fun j hj => ?_⟩
 rw [hr] at hj
 obtain rfl := List.mem_singleton.1 hj
 exact wpOp_step ho (fun K' hK => h K' (fun b v hW => hK b v ⟨fun hn => absurd hiE hn, hW⟩))
end

end Go.Proofs.YtdoghjpjepolbaaGreatDoor

/-! The contract of chapter 18's landed code: start. -/
namespace Go.Proofs.YtdoghjpjepolbaaGreatDoor
open Go.RowKit

theorem below_row18 {w w' : World} (h : Below w.heap.size w w') (row : Option Nat) : w.grownBy w' row := ⟨h.os, h.tape, h.output, h.size, fun k hk _ => h.block k hk⟩

set_option maxHeartbeats 8000000 in
set_option maxRecDepth 100000 in
theorem implStart (B base : Nat) (v0 : Value) (ep nw : Int) (jr : List UInt8) (w : World) (hb4 : B4 w B v0 (.int .i64 ep) (.int .i64 nw) (.string ⟨jr.toArray⟩)) (hbase : base ≤ w.heap.size) (hbB : base ≤ B)
 (h0 : 0 ≤ ep) (h1 : ep ≤ 1000000) (hj : jr.length ≤ 60000) (ht : ∀ Z, Below base w Z → PowIs Z) :
 Calls Tryz.prog 34 #[.pointer (some ⟨B, 0, none⟩)] w fun e w' => e = .returned (.tuple #[]) ∧ B4 w' B v0 (.int .i64 (ep + 1)) (.int .i64 nw) (.string ⟨(jr ++ startL (ep + 1)).toArray⟩) ∧ w.grownBy w' (some B) := by
 have HTx : Hid (∀ Z, Below base w Z → _) := fun Z (hz : Below base w Z) => implStartText (ep + 1) Z (ht Z hz) (by omega) (by omega)
 have HFm : Hid (∀ Z, _) := fun Z => implFramed (startT (ep + 1)) Z (by have := startT_len (n := ep + 1) (by omega) (by omega); omega)
 have hlr : framedS (startT (ep + 1)) = startL (ep + 1) := rfl
 rw [hlr] at HFm
 have hll := startL_len (n := ep + 1) (by omega) (by omega)
 generalize startL (ep + 1) = ln at HFm hll ⊢
 generalize startT (ep + 1) = dt at HTx HFm
 obtain ⟨V, hV⟩ : ∃ V, w.setCell ⟨B, 1, none⟩ (.int .i64 (ep + 1)) = V := ⟨_, rfl⟩
 have bV := hb4.s1 (.int .i64 (ep + 1))
 have hgV : w.grownBy V (some B) := by rw [← hV]; exact grown_set _ _ _ _
 rw [hV] at bV
 have HGV : Hid (w.grownBy V (some B)) := hgV
 have HBV : Hid (Below base w V) := (Below.refl base w).grown hgV hbase (fun k e => by injection e with e; omega)
 have HBVs : Hid (base ≤ V.heap.size) := Nat.le_trans hbase hgV.size
 have HBQ : Hid (B4 V B v0 (.int .i64 (ep + 1)) (.int .i64 nw) (.string ⟨jr.toArray⟩)) := bV
 have hwi : IntKind.i64.wrap (ep + 1) = ep + 1 := by rw [IntKind.wrap_i64]; omega
 have b1 := hb4.c1
 have bf := hb4.fr 1
 have p1 := bV.c1
 have p3 := bV.c3
 have pf3 := bV.fr 3
 clear hlr ht hb4 bV hgV
 go_enter Tryz.func34, Tryz.ntmps34
 go_wp2
 have HVd : Hid (Below V.heap.size V V.drew) := ⟨rfl, rfl, rfl, Nat.le_refl _, fun _ _ => rfl⟩
 refine Till.region (S := (fun Z => Z.cell? ⟨B, 3, none⟩ = some (.string ⟨jr.toArray⟩) ∧ Z.cell? ⟨B, 1, none⟩ = some (.int .i64 (ep + 1)))) (E := [13]) (by kernel_rfl) ?_ (fun hHeld hSh => ?_)
 ·
  exact ⟨p3, p1⟩
 refine Till.take (i := 0) (o := ⟨some 9, _, _, _, _, _⟩) (v := ?vz0) (d := 30) rfl (by kernel_rfl) (by kernel_rfl) (by kernel_rfl) (by kernel_rfl) (fun _ _ _ h => h) (Or.inl ⟨by rfl, ?hyz0⟩) (by assumption) hSh (fun hSh2 => ?restz0)
 case hyz0 => (intro wq hSw; (try dsimp only at hSw); first | (go_simp; done) | (go_simp; with_reducible rfl))
 clear hSh; rename Shut11 _ _ _ => hSh
 simp only [Act.put, List.setIfInBounds_toArray, List.set_cons_zero, List.set_cons_succ]
 refine Till.take (i := 1) (o := ⟨some 10, _, _, _, _, _⟩) (v := ?vz1) (d := 30) rfl (by kernel_rfl) (by kernel_rfl) (by kernel_rfl) (by kernel_rfl) (fun _ _ _ h => h) (Or.inl ⟨by rfl, ?hyz1⟩) (by assumption) hSh (fun hSh2 => ?restz1)
 case hyz1 => (intro wq hSw; (try dsimp only at hSw); first | (go_simp; done) | (go_simp; with_reducible rfl))
 clear hSh; rename Shut11 _ _ _ => hSh
 simp only [Act.put, List.setIfInBounds_toArray, List.set_cons_zero, List.set_cons_succ]
 refine Till.take (i := 2) (o := ⟨some 11, _, _, _, _, _⟩) (v := ?vz2) (d := 30) rfl (by kernel_rfl) (by kernel_rfl) (by kernel_rfl) (by kernel_rfl) (fun _ _ _ h => h) (Or.inl ⟨by rfl, ?hyz2⟩) (by assumption) hSh (fun hSh2 => ?restz2)
 case hyz2 => (intro wq hSw; (try dsimp only at hSw); first | (go_simp; done) | (go_simp; with_reducible rfl))
 clear hSh; rename Shut11 _ _ _ => hSh
 simp only [Act.put, List.setIfInBounds_toArray, List.set_cons_zero, List.set_cons_succ]
 refine Till.take (i := 3) (o := ⟨some 12, _, _, _, _, _⟩) (v := ?vz3) (d := 30) rfl (by kernel_rfl) (by kernel_rfl) (by kernel_rfl) (by kernel_rfl) (fun _ _ _ h => h) (Or.inl ⟨by rfl, ?hyz3⟩) (by assumption) hSh (fun hSh2 => ?restz3)
 case hyz3 => (intro wq hSw; (try dsimp only at hSw); first | (go_simp; done) | (go_simp; with_reducible rfl))
 clear hSh; rename Shut11 _ _ _ => hSh
 simp only [Act.put, List.setIfInBounds_toArray, List.set_cons_zero, List.set_cons_succ]
 refine Till.take (i := 4) (o := ⟨some 13, _, _, _, _, _⟩) (v := ?vz4) (d := 30) rfl (by kernel_rfl) (by kernel_rfl) (by kernel_rfl) (by kernel_rfl) (fun _ _ _ h => h) (Or.inl ⟨by rfl, ?hyz4⟩) (by assumption) hSh (fun hSh2 => ?restz4)
 case hyz4 => (intro wq hSw; (try dsimp only at hSw); first | (go_simp; done) | (go_simp; with_reducible rfl))
 clear hSh; rename Shut11 _ _ _ => hSh
 simp only [Act.put, List.setIfInBounds_toArray, List.set_cons_zero, List.set_cons_succ]
 refine Till.take (i := 5) (o := ⟨some 14, _, _, _, _, _⟩) (v := ?vz5) (d := 30) rfl (by kernel_rfl) (by kernel_rfl) (by kernel_rfl) (by kernel_rfl) (fun _ _ _ h => h) (Or.inl ⟨by rfl, ?hyz5⟩) (by assumption) hSh (fun hSh2 => ?restz5)
 case hyz5 => (intro wq hSw; (try dsimp only at hSw); first | (go_simp; done) | (go_simp; with_reducible rfl))
 clear hSh; rename Shut11 _ _ _ => hSh
 simp only [Act.put, List.setIfInBounds_toArray, List.set_cons_zero, List.set_cons_succ]
 refine Till.take (i := 6) (o := ⟨some 15, _, _, _, _, _⟩) (v := ?vz6) (d := 30) rfl (by kernel_rfl) (by kernel_rfl) (by kernel_rfl) (by kernel_rfl) (fun _ _ _ h => h) (Or.inl ⟨by rfl, ?hyz6⟩) (by assumption) hSh (fun hSh2 => ?restz6)
 case hyz6 => (intro wq hSw; (try dsimp only at hSw); first | (go_simp; done) | (go_simp; with_reducible rfl))
 clear hSh; rename Shut11 _ _ _ => hSh
 simp only [Act.put, List.setIfInBounds_toArray, List.set_cons_zero, List.set_cons_succ]
 refine Till.take (i := 7) (o := ⟨some 16, _, _, _, _, _⟩) (v := ?vz7) (d := 30) rfl (by kernel_rfl) (by kernel_rfl) (by kernel_rfl) (by kernel_rfl) (fun _ _ _ h => h) (Or.inl ⟨by rfl, ?hyz7⟩) (by assumption) hSh (fun hSh2 => ?restz7)
 case hyz7 => (intro wq hSw; (try dsimp only at hSw); first | (go_simp; done) | (go_simp; with_reducible rfl))
 clear hSh; rename Shut11 _ _ _ => hSh
 simp only [Act.put, List.setIfInBounds_toArray, List.set_cons_zero, List.set_cons_succ]
 refine Till.one (i := 8) (by kernel_rfl) rfl hSh (fun K hK => ?_)
 clear hSh
 go_simp
 (go_at_call 66; refine Calls.mono (HTx.out _ (HBV.out.trans (HVd.out.mono HBVs.out))) ?_; rintro e w8 ⟨rfl, hb8⟩; have HB8 : Hid (Below V.heap.size V w8) := HVd.out.trans (hb8.mono HVd.out.size); clear hb8 p1 p3 pf3; have p1 := (HBQ.out.below HB8.out).c1; have p3 := (HBQ.out.below HB8.out).c3; have pf3 := (HBQ.out.below HB8.out).fr 3)
 refine hK.out _ _ ?_ (fun hHeld hSh => ?_)
 ·
  exact ⟨p3, p1⟩
 clear hK K
 refine Till.one (i := 9) (by kernel_rfl) rfl hSh (fun K hK => ?_)
 clear hSh
 go_simp
 (go_at_call 72; refine Calls.mono (HFm.out _) ?_; rintro e w9 ⟨rfl, hb9⟩; have HB9 : Hid (Below V.heap.size V w9) := HB8.out.trans (hb9.mono HB8.out.size); clear hb9 p1 p3 pf3; have p1 := (HBQ.out.below HB9.out).c1; have p3 := (HBQ.out.below HB9.out).c3; have pf3 := (HBQ.out.below HB9.out).fr 3)
 refine hK.out _ _ ?_ (fun hHeld hSh => ?_)
 ·
  exact ⟨p3, p1⟩
 clear hK K
 have hcat := cat_list
 refine Till.take (i := 10) (o := ⟨some 19, _, _, _, _, _⟩) (v := ?vz10) (d := 30) rfl (by kernel_rfl) (by kernel_rfl) (by kernel_rfl) (by kernel_rfl) (fun _ _ _ h => h) (Or.inl ⟨by rfl, ?hyz10⟩) (by assumption) hSh (fun hSh2 => ?restz10)
 case hyz10 => (intro wq hSw; (try dsimp only at hSw); first | (go_simp; done) | (go_simp; with_reducible rfl) | (go_simp; rw [if_neg (by omega)]))
 clear hSh; rename Shut11 _ _ _ => hSh
 simp only [Act.put, List.setIfInBounds_toArray, List.set_cons_zero, List.set_cons_succ]
 refine Till.take (i := 11) (o := ⟨some 20, _, _, _, _, _⟩) (v := ?vz11) (d := 30) rfl (by kernel_rfl) (by kernel_rfl) (by kernel_rfl) (by kernel_rfl) (fun _ _ _ h => h) (Or.inl ⟨by rfl, ?hyz11⟩) (by assumption) hSh (fun hSh2 => ?restz11)
 case hyz11 => (intro wq hSw; (try dsimp only at hSw); first | (go_simp; done) | (go_simp; with_reducible rfl))
 clear hSh; rename Shut11 _ _ _ => hSh
 simp only [Act.put, List.setIfInBounds_toArray, List.set_cons_zero, List.set_cons_succ]
 refine Till.take (i := 12) (o := ⟨some 21, _, _, _, _, _⟩) (v := ?vz12) (d := 30) rfl (by kernel_rfl) (by kernel_rfl) (by kernel_rfl) (by kernel_rfl) (fun _ _ _ h => h) (Or.inl ⟨by rfl, ?hyz12⟩) (by assumption) hSh (fun hSh2 => ?restz12)
 case hyz12 => (intro wq hSw; (try dsimp only at hSw); first | (go_simp; done) | (go_simp; with_reducible rfl))
 clear hSh; rename Shut11 _ _ _ => hSh
 simp only [Act.put, List.setIfInBounds_toArray, List.set_cons_zero, List.set_cons_succ]
 refine Till.last (i := 13) (by kernel_rfl) rfl (by decide) (fun K hK => ?_)
 go_simp
 refine hK.out _ _ ?_
 clear hK K
 refine Till.done (by kernel_rfl) ?_ _
 go_wp2
 first | go_end0 | refine bodyPost_ret (results_none rfl _ _ _) rfl ?_
 exact ⟨rfl, (HBQ.out.below HB9.out).s3 _, (HGV.out.trans (below_row18 HB9.out _)).trans (grown_set _ _ _ _)⟩

end Go.Proofs.YtdoghjpjepolbaaGreatDoor
