/-
  Parts of one proof, one behind the other: Math2T, Math18E, DkB, LendT, Math18G, RegT.
-/
import Derived.Test.YtaioedcaopbgkaaP19
import Derived.Test.YtaioedcaopbgkaaP6
import Derived.Test.YtaioedcaopbgkaaP18
import Derived.Test.YtaioedcaopbgkaaP1
import Derived.Deep.RegionHeld
import Derived.RegionTactic

/-! Plain facts for FnTorn: frames one behind the other, whatever the last one lost. -/
namespace Go.Proofs.Ytaioedcaopbgkaa

def catF : List (List UInt8) → List UInt8
 | [] => []
 | t :: r => framedL t ++ catF r

theorem catF_len (ts : List (List UInt8)) : (catF ts).length = framesU ts := by
 induction ts with
 | nil => rfl
 | cons t r ih => simp only [catF, framesU, List.length_append, framedL_len, ih]

def shortF (ts : List (List UInt8)) : Prop := ∀ t ∈ ts, t.length ≤ 20000

/-- What is read are whole frames, and they are the text's beginning. -/
theorem framesGo_is (k : Nat) (l : List UInt8) : shortF (framesGo k l) ∧ l = catF (framesGo k l) ++ l.drop (framesU (framesGo k l)) := by
 induction k generalizing l with
 | zero => exact ⟨(fun t h => by cases h), by simp [framesGo, catF, framesU]⟩
 | succ k ih =>
  rcases hb : firstB l with _ | _
  ·
   rw [framesGo_no _ _ hb]; exact ⟨(fun t h => by cases h), by simp [catF, framesU]⟩
  ·
   rw [framesGo_yes k l hb]
   have hf := first_is l hb
   have hi := ih (l.drop (16 + (firstT l).length))
   refine ⟨?_, ?_⟩
   ·
    intro t ht
    rcases List.mem_cons.1 ht with e | ht
    ·
     rw [e]; exact hf.1
    ·
     exact hi.1 t ht
   ·
    conv => lhs; rw [hf.2.2]
    simp only [catF, framesU, List.append_assoc]
    congr 1
    conv => lhs; rw [hi.2]
    rw [List.drop_drop]

theorem frames_is (l : List UInt8) : shortF (framesL l) ∧ l.take (framesU (framesL l)) = catF (framesL l) ∧ framesU (framesL l) ≤ l.length := by
 have h := framesGo_is 400 l
 have e := congrArg List.length h.2
 rw [List.length_append, catF_len] at e
 refine ⟨h.1, ?_, by unfold framesL; omega⟩
 conv => lhs; arg 2; rw [h.2]
 exact List.take_left' (catF_len _)

theorem framesU_append (a b : List (List UInt8)) : framesU (a ++ b) = framesU a + framesU b := by
 induction a with
 | nil => simp [framesU]
 | cons t r ih => simp only [List.cons_append, framesU, ih]; omega

theorem framesU_take (fs : List (List UInt8)) (k : Nat) : framesU (fs.take k) ≤ framesU fs := by
 have h := framesU_append (fs.take k) (fs.drop k)
 rw [List.take_append_drop] at h
 omega

end Go.Proofs.Ytaioedcaopbgkaa

/-! Plain facts of chapter 18: what Reborn's loop starts with, goes by, and answers. -/
namespace Go.Proofs.Ytaioedcaopbgkaa

theorem new18_idle (ps : List Pk) : ∀ j, ((newV ps).1.1.getD j ta0).2.2.2.1 = 0 ∧ ((newV ps).1.1.getD j ta0).2.2.2.2.1 = 0 := by
 intro j
 rw [tasks18_prt]
 by_cases hj : j < (prtV ps).length
 ·
  have e : ((List.range (prtV ps).length).map (task18N ps)).getD j ta0 = task18N ps j := by simp [List.getD, hj]
  rw [e]
  exact ⟨rfl, rfl⟩
 ·
  rw [List.getD_eq_getElem?_getD, List.getElem?_eq_none (by simp; omega)]
  exact ⟨rfl, rfl⟩
theorem new18_len8 (ps : List Pk) : (newV ps).1.1.length ≤ 8 := by
 rcases hb : (newV ps).2 with _ | _
 ·
  rw [new18_no hb]; simp [dk0]
 ·
  have h := new18_desk ps
  rw [hb] at h
  exact (deskB_iff.1 h).n.2
theorem new18_needs (ps : List Pk) : ∀ p, p < (newV ps).1.1.length → ∀ q, q < ((newV ps).1.1.getD p ta0).2.1.length → 0 ≤ ((newV ps).1.1.getD p ta0).2.1.getD q 0 ∧ ((newV ps).1.1.getD p ta0).2.1.getD q 0 < (newV ps).1.1.length := by
 rcases hb : (newV ps).2 with _ | _
 ·
  intro p hp
  rw [new18_no hb] at hp
  simp [dk0] at hp
 ·
  have h := new18_desk ps
  rw [hb] at h
  intro p hp
  exact needs_of (deskB_iff.1 h) (p := p) hp
theorem step18_cases {ts ts' : List Ta} {last last' : Int} {f : List UInt8} (h : step18 ts last f = some (ts', last')) :
 (f = startT (last + 1) ∧ ts' = ts ∧ last' = last + 1) ∨ (∃ k key, okDone ts f k key ∧ ts' = ts.set k.toNat (done18 (ts.getD k.toNat ta0) key) ∧ last' = last) := by
 unfold step18 at h
 split at h
 ·
  rename_i hf
  injection h with h; injection h with h1 h2
  exact Or.inl ⟨hf, h1.symm, h2.symm⟩
 ·
  split at h
  ·
   rename_i hd
   injection h with h; injection h with h1 h2
   exact Or.inr ⟨_, _, hd, h1.symm, h2.symm⟩
  ·
   cases h
theorem AgainAt.yes {fs : List (List UInt8)} {ts0 ts ts' : List Ta} {last last' : Int} {i : Nat} (h : AgainAt fs ts0 ts last i) (hi : i < fs.length) (h4 : fs.length ≤ 400) (h8 : ts0.length ≤ 8) (hs : step18 ts last (fs.getD i []) = some (ts', last')) : AgainAt fs ts0 ts' last' (i + 1) := by
 have hln := h.ag.len
 rcases step18_cases hs with ⟨hf, rfl, rfl⟩ | ⟨k, key, hd, rfl, rfl⟩
 ·
  exact h.start hi h4 hf
 ·
  exact h.done hi h8 hd
/-- Where the journal's loop ends, so much is done again. -/
theorem reb_end {ps : List Pk} {jr : List UInt8} {ts : List Ta} {last : Int} {i : Nat} (hg : againGo (framesL jr) (newV ps).1.1 0 0 = (ts, last, framesU ((framesL jr).take i))) : rebD ps jr = (ts, last + 1, 0, wrote18 (framesL jr) i ++ startL (last + 1)) := by
 unfold rebD
 simp only [hg]
 rw [wrote18_pre]
theorem reb_yes {ps : List Pk} {jr : List UInt8} {d : Dk} (hd : rebD ps jr = d) (hb : deskB d = true) : rebV ps jr = (d, true) := by
 have hn : (newV ps).2 = true := by
  rcases hn : (newV ps).2 with _ | _
  ·
   have h1 := (againGo_len (framesL jr) (newV ps).1.1 0 0).1
   have h2 := (deskB_iff.1 hb).n.1
   rw [← hd] at h2
   rw [new18_no hn] at h1
   have h3 : (rebD ps jr).1.length = 0 := by
    unfold rebD
    simp only
    rw [new18_no hn]
    exact h1
   omega
  ·
   rfl
 unfold rebV
 rw [hd, if_pos ⟨hn, hb⟩]
theorem reb_no {ps : List Pk} {jr : List UInt8} {d : Dk} (hd : rebD ps jr = d) (hb : deskB d = false) : rebV ps jr = (dk0, false) := by
 unfold rebV
 rw [hd, if_neg (fun h => by rw [hb] at h; cases h.2)]
theorem reb_new {ps : List Pk} {jr : List UInt8} (hb : (newV ps).2 = false) : rebV ps jr = (dk0, false) := by
 unfold rebV
 rw [if_neg (fun h => by rw [hb] at h; cases h.1)]
/-- A frame of a journal is no longer than a frame may be. -/
theorem frame_short (jr : List UInt8) (i : Nat) : ((framesL jr).getD i []).length ≤ 20000 := by
 have h := (framesGo_is 400 jr).1
 by_cases hi : i < (framesL jr).length
 ·
  have hg : (framesL jr).getD i [] = (framesL jr)[i] := by simp [List.getD, hi]
  rw [hg]
  exact h _ (List.getElem_mem hi)
 ·
  rw [List.getD_eq_getElem?_getD, List.getElem?_eq_none (by omega)]
  simp

end Go.Proofs.Ytaioedcaopbgkaa

/-! How great the desks are that chapter 18's functions hand out. -/
namespace Go.Proofs.Ytaioedcaopbgkaa
open Go.RowKit

end Go.Proofs.Ytaioedcaopbgkaa

/-! The contract of chapter 18's specification: Lent. -/
namespace Go.Proofs.Ytaioedcaopbgkaa
open Go.RowKit

theorem lend_rest {d : Dk} {worker : Int} : (lend18 d worker).1.2 = d.2 ∧ (lend18 d worker).1.1.length = d.1.length := by
 unfold lend18
 split
 ·
  split
  ·
   exact ⟨rfl, by simp⟩
  ·
   exact ⟨rfl, rfl⟩
 ·
  exact ⟨rfl, rfl⟩

set_option maxHeartbeats 4000000 in
set_option maxRecDepth 100000 in
theorem specLent (a : Option Addr) (len cap : Nat) (ts : List Ta) (ep nw : Int) (jr : List UInt8) (n : Int) (w : World) (hin : TasksOk w a len cap ts) (hsh : ShortTa ts) (hlen : len ≤ 1048576) :
 Calls Try.prog 7 #[.agg #[.slice a len cap, .int .i64 ep, .int .i64 nw, .string ⟨jr.toArray⟩], .int .i64 n] w
  fun e w' => ∃ v, e = .returned (.tuple #[v, .int .i64 (lentV (ts, ep, nw, jr) n).2]) ∧ DkOut w w' v (lentV (ts, ep, nw, jr) n).1 := by
 obtain rfl : ts.length = len := hin.1
 obtain ⟨D, hD⟩ : ∃ D, w.heap.size = D := ⟨_, rfl⟩
 obtain ⟨W1, hW1⟩ : ∃ W, w.alloc (.cells #[.slice a ts.length cap, .int .i64 ep, .int .i64 nw, .string ⟨jr.toArray⟩] 26) = W := ⟨_, rfl⟩
 obtain ⟨W2, hW2⟩ : ∃ W, W1.alloc (.cells #[.slice none 0 0, .int .i64 0, .int .i64 0, .string ⟨#[]⟩] 26) = W := ⟨_, rfl⟩
 have hs1 : W1.heap.size = D + 1 := by rw [← hW1, ← hD]; simp
 have hs2 : W2.heap.size = D + 2 := by rw [← hW2]; simp [hs1]
 have hb1 : Below D w W1 := by rw [← hW1, ← hD]; exact (Below.refl _ _).alloc (Nat.le_refl _) _
 have hb12 : Below W1.heap.size W1 W2 := by rw [← hW2]; exact (Below.refl _ _).alloc (Nat.le_refl _) _
 have hb2 : Below D w W2 := hb1.trans (hb12.mono (by omega))
 have bD := B4.new w (.slice a ts.length cap) (.int .i64 ep) (.int .i64 nw) (.string ⟨jr.toArray⟩) 26
 rw [hW1, hD] at bD
 have bR := B4.new W1 (.slice none 0 0) (.int .i64 0) (.int .i64 0) (.string ⟨#[]⟩) 26
 rw [hW2, hs1] at bR
 have HD : Hid (∀ Z, Below W2.heap.size W2 Z → B4 Z D (.slice a ts.length cap) (.int .i64 ep) (.int .i64 nw) (.string ⟨jr.toArray⟩) ∧ B4 Z (D + 1) (.slice none 0 0) (.int .i64 0) (.int .i64 0) (.string ⟨#[]⟩) ∧ TasksOk Z a ts.length cap ts ∧ Below D w Z) := fun Z hz =>
  ⟨(bD.below hb12).below hz, bR.below hz, (hin.below (by rw [hD]; exact hb2)).below hz, hb2.trans (hz.mono (by omega))⟩
 have HK : Hid (_) := specDeskOk a ts.length cap ts ep nw jr W2 (hin.in.below (by rw [hD]; exact hb2)) hsh hlen
 have HCp : Hid (∀ Z, TasksOk Z a ts.length cap ts → _) := fun Z hz => specCopyD a ts.length cap ts ep nw jr Z hz hsh hlen
 have HV0 : Hid (deskB (ts, ep, nw, jr) = false → lentV (ts, ep, nw, jr) n = (dk0, -1)) := fun h => by unfold lentV; rw [h]; rfl
 have HV1 : Hid (deskB (ts, ep, nw, jr) = true → lentV (ts, ep, nw, jr) n = lend18 (ts, ep, nw, jr) n) := fun h => by unfold lentV; rw [if_pos h]
 have HLe : Hid (_) := fun (B base : Nat) (va : Option Addr) (vc : Nat) (xs : List TV) (Z : World) (h1 : B4 Z B (.slice va ts.length vc) (.int .i64 ep) (.int .i64 nw) (.string ⟨jr.toArray⟩)) (h2 : TksOwn Z base (.slice va ts.length vc) xs) (h3 : xs.map (·.1) = ts) (h4 : ApartR (xs.map tvT)) (h5 : ∀ k, TkBlocks (.slice va ts.length vc) xs k → k ≠ B) (h6 : base ≤ Z.heap.size) (h7 : deskB (ts, ep, nw, jr) = true) => specLend B base va vc xs ts ep nw jr n Z h1 h2 h3 h4 h5 h6 h7 hsh
 have HRs : Hid (_) := lend_rest (d := (ts, ep, nw, jr)) (worker := n)
 obtain ⟨d0, d1, d2, d3⟩ : W2.cell? ⟨D, 0, none⟩ = some (.slice a ts.length cap) ∧ W2.cell? ⟨D, 1, none⟩ = some (.int .i64 ep) ∧ W2.cell? ⟨D, 2, none⟩ = some (.int .i64 nw) ∧ W2.cell? ⟨D, 3, none⟩ = some (.string ⟨jr.toArray⟩) := by
  have h := (HD.out W2 (Below.refl _ _)).1
  exact ⟨h.c0, h.c1, h.c2, h.c3⟩
 generalize lentV (ts, ep, nw, jr) n = res at HV0 HV1 ⊢
 generalize lend18 (ts, ep, nw, jr) n = res2 at HV1 HLe HRs
 generalize deskB (ts, ep, nw, jr) = b1 at HK HV0 HV1 HLe
 clear hin hsh bD bR hb1 hb12 hb2
 rcases b1 with _ | _
 ·
  have HR : Hid (res = (dk0, -1)) := HV0.out rfl
  clear HV0 HV1 HLe HCp HRs
  go_enter Try.func7, Try.ntmps7
  go_wp2_with fail
  refine Calls.mono HK.out ?_
  rintro e w1 ⟨rfl, hb1⟩
  obtain ⟨_, br, _, hbD⟩ := HD.out w1 hb1
  have r0 := br.c0
  have r1 := br.c1
  have r2 := br.c2
  have r3 := br.c3
  have f0 := br.fr 0
  have f1 := br.fr 1
  have f2 := br.fr 2
  have f3 := br.fr 3
  have HBD : Hid (Below D w w1) := hbD
  clear hbD br hb1 d0 d1 d2 d3
  go_wp2
  obtain ⟨X, hX, y0, y1, y2, y3, hg⟩ := set4 (.slice none 0 0) (.int .i64 0) (.int .i64 0) (.string ⟨#[]⟩) r0 r1 r2 r3
  rw [hX]
  refine bodyPost_ret (v := .tuple #[.agg #[.slice none 0 0, .int .i64 0, .int .i64 0, .string ⟨#[]⟩], .int .i64 (-1)]) (by simp [results, Try.results7, go_sem, y0, y1, y2, y3]) rfl ?_
  rw [HR.out]
  exact ⟨_, rfl, DkOut.zero (by rw [hD]; exact HBD.out.grown hg (by have := HBD.out.size; omega) (fun k e => by injection e with e; omega))⟩
 ·
  have HR : Hid (res = res2) := HV1.out rfl
  clear HV0 HV1
  go_enter Try.func7, Try.ntmps7
  go_wp2_with fail
  refine Calls.mono HK.out ?_
  rintro e w1 ⟨rfl, hb1⟩
  have HB1 : Hid (Below W2.heap.size W2 w1) := hb1
  clear d0 d1 d2 d3 hb1 HK
  obtain ⟨bd, _, hok1, _⟩ := HD.out w1 HB1.out
  have d0 := bd.c0
  have d1 := bd.c1
  have d2 := bd.c2
  have d3 := bd.c3
  have HC1 : Hid (_) := HCp.out w1 hok1
  clear bd hok1 HCp
  go_wp2_with fail
  refine Calls.mono HC1.out ?_
  rintro e w2 ⟨va, vc, xs, rfl, hx, ho, hap, hb2⟩
  have hB2 := HB1.out.trans (hb2.mono HB1.out.size)
  obtain ⟨Q, hQ⟩ : ∃ Q, w2.heap.size = Q := ⟨_, rfl⟩
  obtain ⟨w3, hw3⟩ : ∃ W, w2.alloc (.cells #[.slice va ts.length vc, .int .i64 ep, .int .i64 nw, .string ⟨jr.toArray⟩] 26) = W := ⟨_, rfl⟩
  have bQ := B4.new w2 (.slice va ts.length vc) (.int .i64 ep) (.int .i64 nw) (.string ⟨jr.toArray⟩) 26
  have hb3 : Below w2.heap.size w2 w3 := by rw [← hw3]; exact (Below.refl _ _).alloc (Nat.le_refl _) _
  have hs3 : w3.heap.size = Q + 1 := by rw [← hw3, ← hQ]; simp
  rw [hw3, hQ] at bQ
  have hB3 : Below W2.heap.size W2 w3 := hB2.trans (hb3.mono hB2.size)
  have hw1 : D + 2 ≤ w1.heap.size := by have := HB1.out.size; omega
  have hQl : w1.heap.size ≤ Q := by rw [← hQ]; exact hb2.size
  have HO3 : Hid (TksOwn w3 w1.heap.size (.slice va ts.length vc) xs ∧ xs.map (·.1) = ts ∧ ApartR (xs.map tvT)) := ⟨ho.below hb3, hx, hap⟩
  have hO3 : ∀ k, (Value.slice va ts.length vc).ownBlock = some k ∨ (∃ x ∈ xs, (tvT x).ownBlock = some k) → k < Q := by
   intro k hk
   rw [← hQ]
   rcases hk with e | ⟨x, hx, e⟩
   ·
    exact (ho.row.lt k e).2
   ·
    exact ((ho.trees x hx).lt k e).2
  have HO3l : Hid (_) := hO3
  have HT : Hid (_) := HLe.out Q w1.heap.size va vc xs w3 bQ HO3.out.1 HO3.out.2.1 HO3.out.2.2 (fun k hk e => by
   have h := HO3l.out k hk
   omega) (by rw [hs3]; omega) (by first | rfl | trivial)
  have HB3 : Hid (Below W2.heap.size W2 w3) := hB3
  clear d0 d1 d2 d3 hb2 ho hap hx hb3 bQ hB3 hB2 hO3 HC1 HLe
  go_wp2_with fail
  refine Calls.mono HT.out ?_
  rintro e w4 ⟨rfl, xs4, hx4, ho4, hap4, bQ4, hb4, _⟩
  have HB4 : Hid (Below W2.heap.size W2 w4) := HB3.out.trans (hb4.mono HB1.out.size)
  obtain ⟨_, br, _, hbD⟩ := HD.out w4 HB4.out
  have q0 := bQ4.c0
  have q1 := bQ4.c1
  have q2 := bQ4.c2
  have q3 := bQ4.c3
  have r0 := br.c0
  have r1 := br.c1
  have r2 := br.c2
  have r3 := br.c3
  have f0 := br.fr 0
  have f1 := br.fr 1
  have f2 := br.fr 2
  have f3 := br.fr 3
  have HBD : Hid (Below D w w4) := hbD
  have HO4 : Hid (TksOwn w4 w1.heap.size (.slice va ts.length vc) xs4 ∧ xs4.map (·.1) = res2.1.1 ∧ ApartR (xs4.map tvT)) := ⟨ho4, hx4, hap4⟩
  clear hbD br bQ4 ho4 hx4 hap4 hb4 HT
  go_wp2
  obtain ⟨X, hX, y0, y1, y2, y3, hg⟩ := set4 (.slice va ts.length vc) (.int .i64 ep) (.int .i64 nw) (.string ⟨jr.toArray⟩) r0 r1 r2 r3
  rw [hX]
  refine bodyPost_ret (v := .tuple #[.agg #[.slice va ts.length vc, .int .i64 ep, .int .i64 nw, .string ⟨jr.toArray⟩], .int .i64 res2.2]) (by simp [results, Try.results7, go_sem, y0, y1, y2, y3]) rfl ?_
  rw [HR.out]
  have hk := HO4.out.1.kept hg (own_offR HO4.out.1.row (by omega)) (fun y hy => own_offR (HO4.out.1.trees y hy) (by omega))
  obtain ⟨hr1, hr2⟩ := HRs.out
  unfold DkOut
  rw [hr1, hr2]
  exact ⟨_, rfl, va, vc, xs4, rfl, HO4.out.2.1, hk.base (by omega), HO4.out.2.2, by rw [hD]; exact HBD.out.grown hg (by have := HBD.out.size; omega) (fun k e => by injection e with e; omega)⟩

end Go.Proofs.Ytaioedcaopbgkaa

/-! Plain facts of chapter 18: a right desk stays right; how great it is; a task that is lent. -/
namespace Go.Proofs.Ytaioedcaopbgkaa

theorem need18_len {own : Int} {ns : List Int} (h0 : 0 ≤ own) (h : ∀ i, i < ns.length → need18 own ns i) : (ns.length : Int) ≤ own := by
 have key : ∀ i, i < ns.length → (i : Int) ≤ ns.getD i 0 := by
  intro i
  induction i with
  | zero => intro hi; exact (h 0 hi).1
  | succ i ih =>
   intro hi
   have h1 := ih (by omega)
   have h2 := (h (i + 1) hi).2.2 (by omega)
   rw [Nat.add_sub_cancel] at h2
   omega
 by_cases hl : ns.length = 0
 ·
  omega
 ·
  have h1 := key (ns.length - 1) (by omega)
  have h2 := (h (ns.length - 1) (by omega)).2.1
  omega
theorem desk_short {d : Dk} (hd : deskB d = true) : ShortTa d.1 := by
 have hp := deskB_iff.1 hd
 have h8 := hp.n
 intro j
 by_cases hj : j < d.1.length
 ·
  obtain ⟨h1, h2, _⟩ := hp.one j hj
  refine ⟨by have := (name_letters h1).1.2; omega, ?_⟩
  unfold taskB at h2
  rw [Bool.and_eq_true] at h2
  unfold needsB at h2
  have h3 := need18_len (by omega) (of_decide_eq_true h2.1)
  omega
 ·
  rw [List.getD_eq_getElem?_getD, List.getElem?_eq_none (by omega)]
  simp [ta0]
theorem lend18_right {d : Dk} {worker : Int} (h : deskB d = true) : deskB (lend18 d worker).1 = true := by
 have := lent_ok (worker := worker) h
 unfold lentV at this
 rw [if_pos h] at this
 exact this
theorem ret18_right {d : Dk} {k e key : Int} (h : deskB d = true) : deskB (ret18 d k e key).1 = true := by
 by_cases hc : retCode d k e key = 0
 ·
  rw [ret18_ok hc]
  have hp := deskB_iff.1 h
  have h8 := hp.n
  unfold retCode at hc
  split at hc
  ·
   cases hc
  ·
   rename_i hb
   split at hc
   ·
    cases hc
   ·
    rename_i hj
    have hb1 : ¬ (k < 0 ∨ (d.1.length : Int) ≤ k) := fun e => hb (Or.inl e)
    have hky : key18 key = true := by
     rcases hk : key18 key with _ | _
     ·
      exact absurd (Or.inr hk) hb
     ·
      rfl
    have hs : stateB (done18 (d.1.getD k.toNat ta0) key) = true := by
     unfold done18 stateB
     simp [hky]
    exact deskB_iff.2 (desk_set (e := d.2.1) (n := d.2.2.1) (j := d.2.2.2 ++ lineR k key) hp (i := k.toNat) (by omega) (t := done18 (d.1.getD k.toNat ta0) key) rfl rfl hs hp.e hp.t (by rw [List.length_append]; omega))
 ·
  rw [ret18_no rfl hc]
  exact h
theorem tick_right {ts : List Ta} {ep nw n : Int} {jr : List UInt8} (h : deskB (ts, ep, nw, jr) = true) (hn : inB n 0 (1000000 - nw) = true) : deskB (ts, ep, nw + n, jr) = true := by
 have hp := deskB_iff.1 h
 have h0 := hp.t
 unfold inB at hn
 have hn := of_decide_eq_true hn
 simp only at h0
 exact deskB_iff.2 ⟨hp.n, hp.e, by show 0 ≤ nw + n ∧ nw + n ≤ 1000000; omega, hp.j, hp.one⟩
theorem reb_right {ps : List Pk} {jr : List UInt8} (h : (rebV ps jr).2 = true) : deskB (rebV ps jr).1 = true := by
 unfold rebV at h ⊢
 split
 ·
  rename_i hc; exact hc.2
 ·
  rename_i hc
  rw [if_neg hc] at h
  cases h

/-! A task that is lent. -/
/-- What is known of a desk whose task k is lent, and of its time. -/
structure Held18 (d : Dk) (k : Nat) (t : Ta) (now : Int) : Prop where
 ok : deskB d = true
 lt : k < d.1.length
 at' : d.1.getD k ta0 = t
 now' : d.2.2.1 = now
theorem lent_of {d : Dk} {worker j : Int} (h : deskB d = true) (hj : (lentV d worker).2 = j) (h0 : 0 ≤ j) : ∃ i : Nat, j = (i : Int) ∧ lendAt d = some i ∧ inB worker 0 3 = true ∧ (lentV d worker).1 = (d.1.set i (leased18 d worker (d.1.getD i ta0)), d.2) ∧ i < d.1.length ∧ can18 d i ∧ ∀ q, q < i → ¬ can18 d q := by
 unfold lentV at hj ⊢
 rw [if_pos h] at hj ⊢
 unfold lend18 at hj ⊢
 split at hj
 ·
  rename_i hw
  rw [if_pos hw]
  rcases hl : lendAt d with _ | i
  ·
   rw [hl] at hj; simp only at hj; omega
  ·
   rw [hl] at hj
   simp only at hj ⊢
   obtain ⟨_, h2, h3, h4⟩ := lendGo_some hl
   exact ⟨i, hj.symm, rfl, hw, rfl, by omega, h3, fun q hq => h4 q (Nat.zero_le _) hq⟩
 ·
  simp only at hj; omega
theorem lent_neg {d : Dk} {worker : Int} (h : deskB d = true) (hj : (lentV d worker).2 < 0) (hw : inB worker 0 3 = true) : ∀ q, q < d.1.length → ¬ can18 d q := by
 unfold lentV at hj
 rw [if_pos h] at hj
 unfold lend18 at hj
 rw [if_pos hw] at hj
 rcases hl : lendAt d with _ | i
 ·
  intro q hq
  exact lendGo_none hl q (Nat.zero_le _) (by omega)
 ·
  rw [hl] at hj
  simp only at hj
  omega
/-- To lend a task changes of the others nothing. -/
theorem free18_lent {ts : List Ta} {i : Nat} {t u : Ta} (hi : i < ts.length) (h1 : (ts.getD i ta0).2.2.1 ≠ 2) (h2 : t.2.2.1 = 1) : free18 (ts.set i t) u = free18 ts u := by
 unfold free18
 congr 1
 apply propext
 refine forall_congr' fun q => forall_congr' fun hq => ?_
 rw [getD_set18 _ _ _ _ hi]
 split
 ·
  rename_i e
  rw [e, h2]
  exact ⟨fun h => absurd h (by decide), fun h => absurd h h1⟩
 ·
  exact Iff.rfl
theorem can18_lent {d : Dk} {i q : Nat} {worker : Int} (hi : i < d.1.length) (hc : can18 d i) (hq : q ≠ i) : can18 (d.1.set i (leased18 d worker (d.1.getD i ta0)), d.2) q ↔ can18 d q := by
 unfold can18
 simp only
 rw [getD_set18 _ _ _ _ hi, if_neg hq, free18_lent hi hc.1 rfl]
theorem not_can_lent {d : Dk} {i : Nat} {worker : Int} (hi : i < d.1.length) (hn : d.2.2.1 + 10 ≤ 1000000) : ¬ can18 (d.1.set i (leased18 d worker (d.1.getD i ta0)), d.2) i := by
 rintro ⟨_, _, h3⟩
 simp only at h3
 rw [getD_set18 _ _ _ _ hi, if_pos rfl] at h3
 unfold leased18 at h3
 simp only at h3
 rw [if_pos hn] at h3
 exact h3 ⟨by trivial, by omega⟩

end Go.Proofs.Ytaioedcaopbgkaa

/-! A region that draws its order and stores, at its end, into a cell that it has read: what is held of the world is asked for behind every operation but those of E, which wait for all that is taken first. -/
namespace Go.Proofs.Ytaioedcaopbgkaa
open Go.RowKit

section
variable {P : Program} {ops : Array Oper} {Q : Exit → Act → World → Prop} {md : Region.Mode} {S : World → Prop} {E : List Nat}

/-- Whatever comes up next, and so on to the end; S holds behind each that is not of E. -/
def Till (P : Program) (md : Region.Mode) (ops : Array Oper) (Q : Exit → Act → World → Prop) (E : List Nat) (S : World → Prop) : Nat → Array Bool → Act → World → Prop
 | 0 => fun listed a w => Region.ready md ops listed = [] ∧ Q .normal a w
 | k + 1 => fun listed a w => (Region.ready md ops listed = [] → Q .normal a w) ∧
  ∀ i, i ∈ Region.ready md ops listed → wpOp P ops Q i (fun b v => (i ∉ E → S v) ∧ Till P md ops Q E S k (listed.setIfInBounds i true) b v) a w

theorem Till.any : ∀ (k : Nat) {listed : Array Bool} {a : Act} {w : World}, Till P md ops Q E S k listed a w → wpAny P md ops Q k listed a w
 | 0, _, _, _, h => h
 | k + 1, _, _, _, h => ⟨h.1, fun i hi => wpOp_mono (fun _ _ x => Till.any k x.2) (h.2 i hi)⟩
theorem Till.done {listed : Array Bool} {a : Act} {w : World} (hr : Region.ready md ops listed = []) (h : Q .normal a w) : ∀ k, Till P md ops Q E S k listed a w
 | 0 => ⟨hr, h⟩
 | _ + 1 => ⟨fun _ => h, fun i hi => by rw [hr] at hi; cases hi⟩

/-- What has come up has come behind all that it waits for. -/
def Shut11 (md : Region.Mode) (ops : Array Oper) (listed : Array Bool) : Prop := ∀ j o, ops[j]? = some o → listed.getD j false = true → ∀ e ∈ o.after, Region.binds md e = true → listed.getD e.on false = true
theorem Shut11.start (n : Nat) : Shut11 md ops (Array.replicate n false) := fun j o _ h => by
 rw [Array.getD_eq_getD_getElem?] at h
 simp only [Array.getElem?_replicate] at h
 split at h <;> cases h
theorem Shut11.set {listed : Array Bool} {i : Nat} (h : Shut11 md ops listed) (hi : i ∈ Region.ready md ops listed) : Shut11 md ops (listed.setIfInBounds i true) := fun j o ho hj e he hb => by
 refine getD_set_true ?_
 rcases Nat.decEq i j with hne | heq
 ·
  rw [getD_set_ne false hne] at hj
  exact h j o ho hj e he hb
 ·
  subst heq
  obtain ⟨_, p, hp, hall⟩ := mem_ready.1 hi
  rw [ho] at hp
  injection hp with hp
  subst hp
  exact hall e he hb
/-- m waits for i, by way of others. -/
def waitsB (md : Region.Mode) (ops : Array Oper) : Nat → Nat → Nat → Bool
 | 0, _, _ => false
 | k + 1, m, i => match ops[m]? with
  | some o => o.after.any (fun e => Region.binds md e && (e.on == i || waitsB md ops k e.on i))
  | none => false
theorem waits_listed {listed : Array Bool} (h : Shut11 md ops listed) {i : Nat} : ∀ (k m : Nat), (∀ o, ops[m]? = some o → ∀ e ∈ o.after, Region.binds md e = true → listed.getD e.on false = true) → waitsB md ops k m i = true → listed.getD i false = true
 | 0, _, _, hw => by cases hw
 | k + 1, m, hd, hw => by
  unfold waitsB at hw
  cases ho : ops[m]? with
  | none => rw [ho] at hw; cases hw
  | some o =>
   rw [ho] at hw
   simp only [Array.any_eq_true'] at hw
   obtain ⟨e, he, h2⟩ := hw
   rw [Bool.and_eq_true, Bool.or_eq_true] at h2
   have hl := hd o ho e he h2.1
   rcases h2.2 with h3 | h3
   ·
    rw [← beq_iff_eq.1 h3]; exact hl
   ·
    exact waits_listed h k e.on (fun p hp f hf hb => h e.on p hp hl f hf hb) h3

/-- One that may come up, and for which all of E wait, is taken first. -/
theorem Till.first {i : Nat} {o : Oper} {v : Value} {d : Nat} (ho : ops[i]? = some o) (hE : E.all (fun m => waitsB md ops d m i) = true) (hsel : ∀ (j : Nat) (p : Oper) cs b, ops[j]? = some p → p.op ≠ .select cs b)
 (hQ : ∀ c a w, Q (.panic c) (a.put o.dst v) w → Q (.panic c) a w) : ∀ (k : Nat) (listed : Array Bool) (a : Act) (w : World), Shut11 md ops listed →
  (∀ j p, ops[j]? = some p → j ≠ i → listed.getD j true = false → (∀ e ∈ p.after, Region.binds md e = true → e.on ≠ i) → o.apart ops p = true) →
  i ∈ Region.ready md ops listed → YieldsIf P ops S o v a → S w →
  Till P md ops Q E S k (listed.setIfInBounds i true) (a.put o.dst v) w → Till P md ops Q E S (k + 1) listed a w := by
 intro k
 induction k with
 | zero =>
  intro listed a w hsh hfree hr hy hS H
  refine ⟨fun h => (by rw [h] at hr; cases hr), fun j hj => ?_⟩
  rcases Nat.decEq j i with hne | heq
  ·
   have hji : j ∈ Region.ready md ops (listed.setIfInBounds i true) := ready_mono hj hne
   rw [H.1] at hji
   cases hji
  ·
   subst heq
   exact hy.wpOp ho hS ⟨fun _ => hS, H⟩
 | succ k ih =>
  intro listed a w hsh hfree hr hy hS H
  refine ⟨fun h => (by rw [h] at hr; cases hr), fun j hj => ?_⟩
  rcases Nat.decEq j i with hne | heq
  ·
   have hji : j ∈ Region.ready md ops (listed.setIfInBounds i true) := ready_mono hj hne
   obtain ⟨hun, p, hp, hall⟩ := mem_ready.1 hj
   have h0 : listed.getD i true = false := (mem_ready.1 hr).1
   have h0f : listed.getD i false = false := by
    rcases Nat.lt_or_ge i listed.size with hl | hl
    ·
     simp [hl] at h0 ⊢; exact h0
    ·
     simp [Array.getElem?_eq_none hl] at h0
   have hnot : ∀ e ∈ p.after, Region.binds md e = true → e.on ≠ i := fun e he hb hei => by
    have h1 := hall e he hb
    rw [hei, h0f] at h1
    cases h1
   have hjE : j ∉ E := fun hjE => by
    have h1 := waits_listed hsh d j (fun q hq e he hb => by rw [hp] at hq; injection hq with hq; subst hq; exact hall e he hb) (List.all_eq_true.1 hE j hjE)
    rw [h0f] at h1
    cases h1
   have h2 := wpOp_putIf hp (hfree j p hp hne hun hnot) (fun cs b => hsel i o cs b ho) (fun cs b => hsel j p cs b hp) hQ hy (H.2 j hji)
   have hfree' : ∀ q r, ops[q]? = some r → q ≠ i → (listed.setIfInBounds j true).getD q true = false → (∀ e ∈ r.after, Region.binds md e = true → e.on ≠ i) → o.apart ops r = true := fun q r hq hqi hqu hqn => by
    refine hfree q r hq hqi ?_ hqn
    rcases Nat.decEq j q with hjq | hjq
    ·
     rw [getD_set_ne true hjq] at hqu; exact hqu
    ·
     subst hjq; exact hun
   refine wpOp_mono (fun b u h3 => ⟨h3.2.1, ih (listed.setIfInBounds j true) b u (hsh.set hj) hfree' (ready_mono hr (Ne.symm hne)) h3.1 (h3.2.1 hjE) ?_⟩) h2
   rw [Array.setIfInBounds_comm _ _ hne]
   exact h3.2.2
  ·
   subst heq
   exact hy.wpOp ho hS ⟨fun _ => hS, H⟩

/-! The moves of a walk. -/
theorem Till.region {id : Nat} {a : Act} {w : World} (hm : P.follows .mixedOrders = true) (hS : S w.drew) (h : S w.drew → Shut11 .any ops (Array.replicate ops.size false) → Till P .any ops Q E S ops.size (Array.replicate ops.size false) a w.drew) : (Code.region id ops true).wp P Q a w :=
 wp_region_any hm (Till.any _ (h hS (Shut11.start _)))
theorem Till.take {i : Nat} {o : Oper} {v : Value} {d k : Nat} {listed : Array Bool} {a : Act} {w : World} (ho : ops[i]? = some o) (hs : Region.noSelect ops = true) (hf : Region.free md ops listed i = true) (hr : (Region.ready md ops listed).contains i = true) (hE : E.all (fun m => waitsB md ops d m i) = true)
 (hQ : ∀ c a w, Q (.panic c) (a.put o.dst v) w → Q (.panic c) a w) (hy : YieldsIf P ops S o v a) (hS : S w) (hsh : Shut11 md ops listed)
 (h : Shut11 md ops (listed.setIfInBounds i true) → Till P md ops Q E S k (listed.setIfInBounds i true) (a.put o.dst v) w) : Till P md ops Q E S (k + 1) listed a w :=
 Till.first ho hE (Region.noSelect_spec hs) hQ k listed a w hsh (Region.free_spec ho hf) (by simpa using hr) hy hS (h (hsh.set (by simpa using hr)))
theorem Till.one {i : Nat} {o : Oper} {k : Nat} {listed : Array Bool} {a : Act} {w : World} (hr : Region.ready md ops listed = [i]) (ho : ops[i]? = some o) (hsh : Shut11 md ops listed)
 (h : ∀ K' : Act → World → Prop, Shut (∀ b v, S v → (S v → Shut11 md ops (listed.setIfInBounds i true) → Till P md ops Q E S k (listed.setIfInBounds i true) b v) → K' b v) → if Region.wanted o (yielded ops a.tmps) = true then Oper.wp P o a w K' Q else K' (a.put o.dst undef) w) : Till P md ops Q E S (k + 1) listed a w := by
 have hi : i ∈ Region.ready md ops listed := by rw [hr]; exact List.mem_singleton_self i
 refine ⟨fun h0 => (by rw [h0] at hi; cases hi), fun j hj => ?_⟩
 rw [hr] at hj
 obtain rfl := List.mem_singleton.1 hj
 exact wpOp_step ho (fun K' hK => h K' (fun b v hS hW => hK b v ⟨fun _ => hS, hW hS (hsh.set hi)⟩))
theorem Till.last {i : Nat} {o : Oper} {k : Nat} {listed : Array Bool} {a : Act} {w : World} (hr : Region.ready md ops listed = [i]) (ho : ops[i]? = some o) (hiE : i ∈ E)
 (h : ∀ K' : Act → World → Prop, Shut (∀ b v, Till P md ops Q E S k (listed.setIfInBounds i true) b v → K' b v) → if Region.wanted o (yielded ops a.tmps) = true then Oper.wp P o a w K' Q else K' (a.put o.dst undef) w) : Till P md ops Q E S (k + 1) listed a w := by
 have hi : i ∈ Region.ready md ops listed := by rw [hr]; exact List.mem_singleton_self i
 refine ⟨fun h0 => (by rw [h0] at hi; cases hi), fun j hj => ?_⟩
 rw [hr] at hj
 obtain rfl := List.mem_singleton.1 hj
 exact wpOp_step ho (fun K' hK => h K' (fun b v hW => hK b v ⟨fun hn => absurd hiE hn, hW⟩))
end

end Go.Proofs.Ytaioedcaopbgkaa
