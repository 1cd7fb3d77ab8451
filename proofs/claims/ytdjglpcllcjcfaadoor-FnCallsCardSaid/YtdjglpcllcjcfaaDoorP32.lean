/-
  Parts of one proof, one behind the other: CheckS4, Math8L, LawO, Codes.
-/
import Derived.Test.YtdjglpcllcjcfaaDoorP31
import Derived.Test.YtdjglpcllcjcfaaDoorP3
import Derived.Test.YtdjglpcllcjcfaaDoorP4
import Derived.Test.YtdjglpcllcjcfaaDoorP5
import Derived.Test.YtdjglpcllcjcfaaDoorP6

/-! The contracts of chapter 9's specification: FaultOf, Exports. -/
namespace Go.Proofs.YtdjglpcllcjcfaaDoor
open Go.RowKit


theorem exp_take (fs : List Fn) {k : Nat} (hk : k < fs.length) : exports9 (fs.take (k + 1)) = exports9 (fs.take k) ++ [exp9 (fs.getD k fn0)] := by
  unfold exports9
  rw [List.take_succ_eq_append_getElem hk, List.map_append]
  simp [List.getD, hk]
theorem exportsV_len (p : Pk) : (exportsV p).length ≤ 8 := by
  unfold exportsV
  split
  · rename_i h
    have := (pkgB_parts h).2.2.2.1.2
    unfold exports9
    rw [List.length_map]
    exact this
  · simp
set_option maxHeartbeats 8000000 in
set_option maxRecDepth 100000 in
theorem specExports (nm : List UInt8) (ia : Option Addr) (il ic : Nat) (fa : Option Addr) (fl fc : Nat) (ims : List (List UInt8)) (fs : List Fn) (w : World) (hi : TextsIn w ia il ims) (hf : FuncsIn w fa fl fs) (hil : il ≤ 1048576) (hfl : fl ≤ 1048576) (hnl : nm.length ≤ 1048576) (his : ∀ i, (ims.getD i []).length ≤ 1048576) (hfs : ShortF fs) :
    Calls Tryd.prog 17 #[.agg #[.string ⟨nm.toArray⟩, .slice ia il ic, .slice fa fl fc]] w fun e w' => ∃ v, e = .returned v ∧ w'.ownsRow w.heap.size 9 1 v (exportsV (nm, ims, fs)).length (strV (exportsV (nm, ims, fs))) ∧ Below w.heap.size w w' := by
  obtain rfl : fs.length = fl := hf.1
  obtain ⟨bx, hbx⟩ := Box3.new w (.string ⟨nm.toArray⟩) (.slice ia il ic) (.slice fa fs.length fc) 33
  obtain ⟨W1, hW1⟩ : ∃ W1, w.alloc (.cells #[.string ⟨nm.toArray⟩, .slice ia il ic, .slice fa fs.length fc] 33) = W1 := ⟨_, rfl⟩
  have hs1 : W1.heap.size = w.heap.size + 1 := by rw [← hW1]; simp
  rw [hW1] at bx hbx
  have hO0 := World.ownsRow_lit (base := W1.heap.size) (e := 9) (size := 1) W1 #[] 0 (Nat.le_refl _) (by decide) rfl
  have hb2 : Below W1.heap.size W1 (W1.alloc (.cells #[] 9)) := (Below.refl _ _).alloc (Nat.le_refl _) _
  obtain ⟨W2, hW2⟩ : ∃ W2, W1.alloc (.cells #[] 9) = W2 := ⟨_, rfl⟩
  rw [hW2] at hO0 hb2
  have hbw : Below w.heap.size w W2 := hbx.trans (hb2.mono (by omega))
  have p0 := (bx.below hb2).c0
  have p1 := (bx.below hb2).c1
  have p2 := (bx.below hb2).c2
  have HPk : Hid (_) := specPackageOk nm ia il ic fa fs.length fc ims fs W2 (hi.below hbw) (hf.below hbw) hil hfl hnl his hfs
  have HZ : Hid (∀ Z, Below W1.heap.size W1 Z → Box3 Z w.heap.size (.string ⟨nm.toArray⟩) (.slice ia il ic) (.slice fa fs.length fc) ∧ FuncsIn Z fa fs.length fs ∧ Below w.heap.size w Z) := fun Z hz => ⟨bx.below hz, (hf.below hbx).below hz, hbx.trans (hz.mono hbx.size)⟩
  have HB2 : Hid (Below W1.heap.size W1 W2) := hb2
  have HO2 : Hid (W2.ownsRow W1.heap.size 9 1 (.slice (some ⟨W1.heap.size, 0, none⟩) 0 0) 0 (strV [])) := hO0
  clear bx hbx hO0 hb2 hbw hi hf
  rcases hp : pkgB (nm, ims, fs) with _ | _
  · have HE : Hid (exportsV (nm, ims, fs) = []) := by exact (by unfold exportsV; rw [if_neg (by rw [hp]; simp)] : exportsV (nm, ims, fs) = [])
    rw [hp] at HPk
    clear hp
    go_enter Tryd.func17, Tryd.ntmps17
    go_wp2_with fail
    refine Calls.mono HPk.out ?_
    rintro e w3 ⟨rfl, hb3⟩
    have HR : Hid (w3.ownsRow W1.heap.size 9 1 (.slice (some ⟨W1.heap.size, 0, none⟩) 0 0) 0 (strV []) ∧ Below w.heap.size w w3) := ⟨own_below HO2.out hb3, (HZ.out w3 (HB2.out.trans (hb3.mono HB2.out.size))).2.2⟩
    have HW1 : Hid (w.heap.size ≤ W1.heap.size) := by exact (by omega : w.heap.size ≤ W1.heap.size)
    clear hb3
    go_wp2
    go_ret
    exact ⟨_, rfl, by rw [HE.out]; have h1 := own_base HR.out.1 HW1.out; rw [hs1] at h1; exact h1, HR.out.2⟩
  · have HE : Hid (exportsV (nm, ims, fs) = exports9 fs) := by exact (by unfold exportsV; rw [if_pos hp] : exportsV (nm, ims, fs) = exports9 fs)
    have HSm : Hid (∀ k, k < fs.length → (fs.getD k fn0).1.length ≤ 8 ∧ 0 ≤ (fs.getD k fn0).2.1 ∧ (fs.getD k fn0).2.1 ≤ 3) := fun k hk => by
      have h1 := (pkgB_parts hp).2.2.2.2 (fs.getD k fn0) (by simp [List.getD, hk])
      unfold funcB inB at h1
      rw [Bool.and_eq_true, Bool.and_eq_true, decide_eq_true_eq] at h1
      exact ⟨(name_letters h1.1).1.2, h1.2.1.1, h1.2.1.2⟩
    have hf8 : fs.length ≤ 8 := (pkgB_parts hp).2.2.2.1.2
    rw [hp] at HPk
    clear hp
    go_enter Tryd.func17, Tryd.ntmps17
    go_wp2_with fail
    refine Calls.mono HPk.out ?_
    rintro e w3 ⟨rfl, hb3⟩
    have HO3 : Hid (w3.ownsRow W1.heap.size 9 1 (.slice (some ⟨W1.heap.size, 0, none⟩) 0 0) 0 (strV (exports9 (fs.take 0)))) := own_below HO2.out hb3
    have HB3 : Hid (Below W1.heap.size W1 w3) := HB2.out.trans (hb3.mono HB2.out.size)
    have hO3 := HO3.out
    rw [hs1] at hO3
    have HO4 : Hid (w3.ownsRow (w.heap.size + 1) 9 1 (.slice (some ⟨w.heap.size + 1, 0, none⟩) 0 0) 0 (strV (exports9 (fs.take 0)))) := hO3
    clear hb3 HB2 HO2 HPk p0 p1 p2 HO3 hO3
    go_wp2
    go_loopw [3, 4] (fun ov iv wr => ∃ (k : Nat) (oa : Option Addr) (oc : Nat), ov = .slice oa k oc ∧ iv = .int .i64 (k : Int) ∧ k ≤ fs.length ∧ Hid (wr.ownsRow (w.heap.size + 1) 9 1 (.slice oa k oc) k (strV (exports9 (fs.take k)))) ∧ Hid (Below W1.heap.size W1 wr)) (fun _ iv _ => fs.length - (intOf iv).toNat)
    case atStart => exact ⟨0, _, 0, rfl, rfl, by omega, HO4, HB3⟩
    case round =>
      obtain ⟨k, oa, oc, rfl, rfl, hk, HO, HB⟩ := hrel
      clear HO4 HB3
      obtain ⟨bx, hfi, hbw⟩ := HZ.out wr HB.out
      have p2 := bx.c2
      by_cases hlt : (k : Int) < (fs.length : Int)
      · have hk2 : k < fs.length := by omega
        obtain ⟨b, off, rfl, hbl, c0, c1, _⟩ := hfi.2 k hk2
        have het := exp_take fs hk2
        obtain ⟨hs8, hA0, hA3⟩ := HSm.out k hk2
        obtain ⟨f, hfe⟩ : ∃ f, fs.getD k fn0 = f := ⟨_, rfl⟩
        rw [hfe] at c0 c1 het hs8 hA0 hA3
        obtain ⟨x, A, tt⟩ := f
        simp only at c0 c1 hs8 hA0 hA3
        have HET : Hid (exports9 (fs.take (k + 1)) = exports9 (fs.take k) ++ [x ++ 47 :: intL A]) := by exact (by rw [het]; simp [exp9] : exports9 (fs.take (k + 1)) = exports9 (fs.take k) ++ [x ++ 47 :: intL A])
        have hil4 : (intL A).length ≤ 11 := intL_short A (by omega) (by omega)
        have e1 : ∀ W : World, (Op.stringOp .add ⟨x.toArray⟩ ⟨#[47]⟩).run Tryd.prog W = .ok (.string ⟨(x ++ [47]).toArray⟩) W := fun W => by
          have := run_string_add_lists (P := Tryd.prog) W x [47] (by omega) (by simp)
          simpa using this
        have e2 : ∀ W : World, (Op.stringOp .add ⟨(x ++ [47]).toArray⟩ ⟨(intL A).toArray⟩).run Tryd.prog W = .ok (.string ⟨(x ++ 47 :: intL A).toArray⟩) W := fun W => by
          have := run_string_add_lists (P := Tryd.prog) W (x ++ [47]) (intL A) (by simp; omega) (by omega)
          simpa using this
        have hbl2 : w.heap.size < wr.heap.size := bx.lt
        clear hfi hbw bx het hfe
        go_wp2_with fail
        go_region_law (first | (refine step_append_run (by rfl) (.tmp 17) (.tmp 33) 30 (by rfl) _ _ _ (by rfl) (by rfl) hr ?_) | (go_simp; go_at_call 40; refine (specInt A _ (by omega) (by omega)).mono ?_; rintro e w5 ⟨rfl, hb5⟩; have hb5' : Below wr.heap.size wr w5 := ⟨hb5.os, hb5.tape, hb5.output, hb5.size, hb5.block⟩; have p25 := (hb5'.cell (p := ⟨w.heap.size, 2, none⟩) hbl2).trans p2; have c05 := (hb5'.cell (p := ⟨b, off + k * 3, none⟩) hbl).trans c0; have c15 := (hb5'.cell (p := ⟨b, off + k * 3 + 1, none⟩) hbl).trans c1; have hO5 := own_below HO.out hb5'; have hB5 := HB.out.trans (hb5'.mono HB.out.size); have hbs5 : w.heap.size + 1 ≤ w5.heap.size := (by have := hB5.size; omega); obtain ⟨v', Y, hr, ho, hg⟩ := push_text (x ++ 47 :: intL A) hO5 hbs5 (by omega); rw [← HET.out] at ho; obtain ⟨g', c', rfl⟩ := own_some ho (by omega); have HOY : Hid (Y.ownsRow (w.heap.size + 1) 9 1 (.slice (some ⟨g', 0, none⟩) (k + 1) c') (k + 1) (strV (exports9 (fs.take (k + 1))))) := ho; have HBY : Hid (Below W1.heap.size W1 Y) := hB5.grown hg hB5.size (fun q e => (by have := (hO5.lt q e).1; omega)); clear ho hg hO5 hB5 hb5 hb5'; dsimp only))
        all_goals
          go_wp2
          go_roundw
          case rel => exact ⟨k + 1, _, c', rfl, by go_num, by omega, HOY, HBY⟩
          case measure => simp [intOf]; omega
      · have HR : Hid (wr.ownsRow w.heap.size 9 1 (.slice oa k oc) (exports9 fs).length (strV (exports9 fs))) := by
          have h1 := own_base HO.out (show w.heap.size ≤ w.heap.size + 1 by omega)
          rw [show fs.take k = fs from List.take_of_length_le (by omega)] at h1
          rw [show (exports9 fs).length = k by unfold exports9; rw [List.length_map]; omega]
          exact h1
        have HE2 : Hid (Below w.heap.size w wr) := hbw
        clear hfi hbw bx
        go_wp2
        go_ret
        exact ⟨_, rfl, by rw [HE.out]; exact HR.out, HE2.out⟩

end Go.Proofs.YtdjglpcllcjcfaaDoor

/-! Plain facts of chapter 8: what FnOrder and FnReaches test. -/
namespace Go.Proofs.YtdjglpcllcjcfaaDoor
open Go.RowKit

/-- A package is in the order just where what it needs stands ahead of it. -/
theorem order8_law {ps : List Pk} (h : projB ps = true) {p : Pk} (hp : p ∈ ps) : p.1 ∈ order8 ps ↔ ∀ m ∈ p.2.1, m ∈ names8 ps → m ∈ (order8 ps).takeWhile (fun x => decide (x ≠ p.1)) := by
  obtain ⟨ho, hn⟩ := order8_end h
  refine ⟨fun h1 => ho.need p hp h1, fun h1 => ?_⟩
  rcases Decidable.em (p.1 ∈ order8 ps) with h2 | h2
  · exact h2
  · rw [takeW_no h2] at h1
    exact absurd ⟨h2, h1⟩ (next8_none hn p hp)
theorem nodup_take8 {out : List (List UInt8)} (h : out.Nodup) {i : Nat} (hi : i < out.length) : ¬ out.getD i [] ∈ out.take i := by
  have e : out.getD i [] = out[i] := by simp [List.getD, hi]
  rw [e]
  intro hm
  obtain ⟨k, hk, he⟩ := List.mem_iff_getElem.1 hm
  rw [List.length_take] at hk
  rw [List.getElem_take] at he
  have := (List.getElem_inj h).1 he
  omega
theorem takeW_at {x : List UInt8} : ∀ (out : List (List UInt8)) (k : Nat), k ≤ out.length → (∀ i, i < k → out.getD i [] ≠ x) → (k = out.length ∨ out.getD k [] = x) → out.takeWhile (fun y => decide (y ≠ x)) = out.take k
  | [], k, hk, _, _ => by simp
  | a :: r, 0, _, _, he => by
    rcases he with he | he
    · simp at he
    · have : a = x := by simpa using he
      simp [this]
  | a :: r, k + 1, hk, h, he => by
    have h0 : a ≠ x := by simpa using h 0 (by omega)
    have ih := takeW_at (x := x) r k (by simpa using hk) (fun i hi => by simpa using h (i + 1) (by omega)) (by
      rcases he with he | he
      · left; simpa using he
      · right; simpa using he)
    rw [List.takeWhile_cons, if_pos (by simpa using h0), ih, List.take_succ_cons]

/-- What FnReaches looks for in the answer. -/
def Seed8 (ps : List Pk) (o : List (List UInt8)) (s x : List UInt8) : Prop := x = s ∨ ∃ p ∈ ps, p.1 ∈ o ∧ x ∈ p.2.1 ∧ x ∈ names8 ps
theorem seed8_law {ps : List Pk} {s : List UInt8} (h : s ∈ names8 ps) (x : List UInt8) : Seed8 ps (reach8 ps s) s x ↔ x ∈ reach8 ps s := by
  obtain ⟨hr, hs⟩ := reach8_end h
  constructor
  · rintro (rfl | ⟨p, hp, h1, h2, h3⟩)
    · exact hr.self
    · exact hs p hp h1 x h2 h3
  · intro hx
    rcases hr.why x hx with rfl | ⟨p, hp, h1, h2⟩
    · exact Or.inl rfl
    · exact Or.inr ⟨p, hp, h1, h2, hr.sub x hx⟩
theorem filter8_take (ts : List (List UInt8)) (f : List UInt8 → Bool) (k : Nat) (hk : k < ts.length) : (ts.take (k + 1)).filter f = (ts.take k).filter f ++ if f (ts.getD k []) = true then [ts.getD k []] else [] := by
  have e : ts.getD k [] = ts[k] := by simp [List.getD, hk]
  rw [List.take_succ_eq_append_getElem hk, List.filter_append, e]
  by_cases hf : f ts[k] = true
  · rw [if_pos hf]; simp [hf]
  · rw [if_neg hf]; simp [hf]

end Go.Proofs.YtdjglpcllcjcfaaDoor

/-! The laws' own helpers for chapter 8: has, rises. -/
namespace Go.Proofs.YtdjglpcllcjcfaaDoor
open Go.RowKit

set_option maxHeartbeats 1000000 in
set_option maxRecDepth 100000 in
theorem lawHas (a : Option Addr) (len cap : Nat) (ts : List (List UInt8)) (s : List UInt8) (w : World) (hin : TextsIn w a len ts) (hlen : len ≤ 4194304) :
    Calls Tryd.prog 10 #[.slice a len cap, .string ⟨s.toArray⟩] w fun e w' => e = .returned (.bool (decide (s ∈ ts))) ∧ w' = w := by
  obtain rfl : ts.length = len := hin.1
  have HI : Hid (TextsIn w a ts.length ts) := hin
  clear hin
  go_enter Tryd.func10, Tryd.ntmps10
  go_wp2
  go_loopw [5] (fun iv wr => ∃ k : Nat, iv = .int .i64 (k : Int) ∧ k ≤ ts.length ∧ Hid (∀ i, i < k → ts.getD i [] ≠ s) ∧ wr = w) (fun iv _ => ts.length - (intOf iv).toNat)
  case atStart => exact ⟨0, rfl, by omega, (fun i hi => by omega), rfl⟩
  case round =>
    obtain ⟨k, rfl, hk, HA, rfl⟩ := hrel
    by_cases hlt : (k : Int) < (ts.length : Int)
    · have hk2 : k < ts.length := by omega
      obtain ⟨b, off, rfl, hbl, c0⟩ := HI.out.2 k hk2
      have hmem := getD_mem8 hk2
      obtain ⟨x, hx⟩ : ∃ x, ts.getD k [] = x := ⟨_, rfl⟩
      rw [hx] at c0 hmem
      by_cases hxs : x = s
      · subst hxs
        have HR : Hid (decide (x ∈ ts) = true) := decide_eq_true hmem
        have hself : (x == x) = true := by simp
        clear HA hx hmem
        go_wp2
        go_ret
        exact ⟨by rw [HR.out]; rfl, rfl⟩
      · have HA2 : Hid (∀ i, i < k + 1 → ts.getD i [] ≠ s) := fun i hi => by
          rcases Nat.lt_or_ge i k with h | h
          · exact HA.out i h
          · obtain rfl : i = k := by omega
            rw [hx]; exact hxs
        have hne : (x == s) = false := by rw [beq_eq_false_iff_ne]; exact hxs
        clear HA hx hmem
        go_wp2
        go_roundw
        case rel => exact ⟨k + 1, by go_num, by omega, HA2, trivial⟩
        case measure => simp [intOf]; omega
    · have HR : Hid (decide (s ∈ ts) = false) := decide_eq_false (mem_take_step HA.out (by omega))
      go_wp2
      go_ret
      exact ⟨by rw [HR.out]; rfl, rfl⟩



end Go.Proofs.YtdjglpcllcjcfaaDoor

/-! A code that came in, as the laws' walks take it. -/
namespace Go.Proofs.YtdjglpcllcjcfaaDoor
open Go.RowKit

theorem code_nil (w : World) : Code w w.heap.size none 0 := fun j hj => by omega

theorem code_of (w : World) (x : Addr) (len : Nat) (zs : List Int) (h : ∀ i, i < zs.length → w.cell? (x.add i) = some (.int .u8 (zs.getD i 0))) (hl : len ≤ zs.length) (hw : ∀ n ∈ zs, (Lit.int .u8 n).wf = true) : Code w w.heap.size (some x) len := by
  intro j hj
  obtain ⟨b, off, spot⟩ := x
  have hc := h j (by omega)
  have hspot : spot = none := by simpa [Addr.add] using World.cell?_spot (h 0 (by omega))
  subst hspot
  have e : (⟨b, off, none⟩ : Addr).add j = ⟨b, off + j, none⟩ := by unfold Addr.add; split <;> simp_all
  rw [e] at hc
  have hb := bounds_u8 (hw (zs.getD j 0) (by rw [List.getD_eq_getElem?_getD, List.getElem?_eq_getElem (by omega)]; exact List.getElem_mem _))
  exact ⟨b, off, _, rfl, World.block_lt_of_cell? w ⟨b, off + j, none⟩ hc, hc, hb⟩

theorem Code.later {w w' : World} {a : Option Addr} {len : Nat} (h : Code w w.heap.size a len) (hb : Below w.heap.size w w') : Code w' w'.heap.size a len := by
  intro j hj
  obtain ⟨b, off, x, e1, e2, e3, e0⟩ := h j hj
  exact ⟨b, off, x, e1, Nat.lt_of_lt_of_le e2 hb.size, (hb.cell (p := ⟨b, off + j, none⟩) e2).trans e3, e0⟩

theorem Code.kept {w w' : World} {a : Option Addr} {len : Nat} (h : Code w w.heap.size a len) (hg : w.grownBy w' none) : Code w' w'.heap.size a len :=
  h.later ⟨hg.os, hg.tape, hg.output, hg.size, fun k hk => hg.block k hk (by simp)⟩

set_option maxHeartbeats 400000 in
set_option maxRecDepth 100000 in
theorem bigB (w : World) (a : Option Addr) (len cap : Nat) :
    Calls Tryd.prog 6 #[.slice a len cap] w fun e w' => e = .returned (.bool (decide (4096 < (len : Int)))) ∧ w' = w := by
  go_enter Tryd.func6, Tryd.ntmps6
  go_wp2
  go_ret
  exact ⟨rfl, rfl⟩

theorem code_some {w : World} {B : Nat} {a : Option Addr} {len : Nat} (h : Code w B a len) (hz : len ≠ 0) : ∃ b off, a = some ⟨b, off, none⟩ ∧ ∀ j, j < len → ∃ x : Int, w.cell? ⟨b, off + j, none⟩ = some (.int .u8 x) ∧ 0 ≤ x ∧ x ≤ 255 := by
  obtain ⟨b, off, x, rfl, _, _⟩ := h 0 (by omega)
  refine ⟨b, off, rfl, fun j hj => ?_⟩
  obtain ⟨b', off', x', e1, _, e3, e4⟩ := h j hj
  injection e1 with e1
  injection e1 with e5 e6
  subst e5 e6
  exact ⟨x', e3, e4⟩


end Go.Proofs.YtdjglpcllcjcfaaDoor
