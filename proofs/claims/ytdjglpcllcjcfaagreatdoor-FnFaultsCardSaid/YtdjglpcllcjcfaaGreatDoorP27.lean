/-
  Parts of one proof, one behind the other: Math9I, HeapI, PlcI, ProjJ.
-/
import Derived.Test.YtdjglpcllcjcfaaGreatDoorP26
import Derived.Test.YtdjglpcllcjcfaaGreatDoorP22
import Derived.Test.YtdjglpcllcjcfaaGreatDoorP21
import Derived.Test.YtdjglpcllcjcfaaGreatDoorP9
import Derived.Deep.RegionHeld3
import Derived.Lib.Hide
import Derived.Test.YtdjglpcllcjcfaaGreatDoorP18
import Derived.Test.YtdjglpcllcjcfaaGreatDoorP23
import Derived.Test.YtdjglpcllcjcfaaGreatDoorP14

/-! Plain facts of chapter 9's landed code: where a call goes, what it is told, what is wrong in a function, in a package, in a project. -/
namespace Go.Proofs.YtdjglpcllcjcfaaGreatDoor
open Go.RowKit

/-- The place of the package that a call from place f names: -1 where it is far. -/
def toV (ps : List Pk) (f : Nat) (q : List UInt8) : Int := if q = nmAt ps f then (f : Int) else if q ∈ imsAt ps f then at8 ps q else -1
theorem toV_ways {ps : List Pk} {f : Nat} (hf : f < ps.length) (q : List UInt8) :
    (toV ps f q = -1 ∧ farB ps (ps.getD f pk0) q = true) ∨ ∃ t, t < ps.length ∧ toV ps f q = (t : Int) ∧ farB ps (ps.getD f pk0) q = false ∧ ofPk ps (ps.getD f pk0) q = ps.getD t pk0 ∧ (q = (ps.getD f pk0).1 ↔ t = f) := by
  unfold toV
  by_cases h1 : q = nmAt ps f
  · rw [if_pos h1]
    refine Or.inr ⟨f, hf, rfl, decide_eq_false fun h => h.1 h1, if_pos h1, fun _ => rfl, fun _ => h1⟩
  · rw [if_neg h1]
    by_cases h2 : q ∈ imsAt ps f
    · rw [if_pos h2]
      rcases at8_is ps q with ⟨e, _⟩ | ⟨t, ht, e, hn, _⟩
      · exact Or.inl ⟨e, decide_eq_true ⟨h1, Or.inr (by omega)⟩⟩
      · refine Or.inr ⟨t, ht, e, decide_eq_false fun h => ?_, ?_, fun h => absurd h h1, fun h => ?_⟩
        · rcases h.2 with h3 | h3
          · exact h3 h2
          · omega
        · unfold ofPk
          rw [if_neg (show ¬ q = (ps.getD f pk0).1 from h1), e, Int.toNat_natCast]
        · subst h; exact absurd hn.symm h1
    · rw [if_neg h2]
      exact Or.inl ⟨rfl, decide_eq_true ⟨h1, Or.inl h2⟩⟩

/-- The functions that a call at place i of package f may be of, in package t. -/
def fsTo (ps : List Pk) (f t i : Nat) : List Fn := if t = f then (ps.getD t pk0).2.2.take i else (ps.getD t pk0).2.2
theorem call9_far {ps : List Pk} {f i : Nat} {n : Nd} (h : farB ps (ps.getD f pk0) n.2.2.1 = true) : call9 ps (ps.getD f pk0) (i : Int) n = 1 := by
  unfold call9; rw [if_pos h]
theorem atV_take (fs : List Fn) (i : Nat) (s : List UInt8) : (atV (fs.take i) s = -1 ∧ (atV fs s < 0 ∨ (i : Int) ≤ atV fs s)) ∨ (0 ≤ atV (fs.take i) s ∧ atV fs s = atV (fs.take i) s ∧ atV fs s < (i : Int)) := by
  have h := atGo_append s (fs.take i) (fs.drop i) 0
  rw [List.take_append_drop, List.length_take, Nat.zero_add] at h
  have hd := at7Go_is s (fs.drop i) (min i fs.length)
  have hl : (min i fs.length) ≤ i := Nat.min_le_left _ _
  rw [List.length_drop] at hd
  unfold atV
  rcases h with ⟨a, b⟩ | ⟨a, b, c⟩
  · refine Or.inl ⟨a, ?_⟩
    rcases hd with e | ⟨j, hj, e, _⟩
    · exact Or.inl (by omega)
    · exact Or.inr (by omega)
  · exact Or.inr ⟨a, c, by omega⟩
theorem call9_ways {ps : List Pk} {f i t : Nat} {n : Nd} (hfar : farB ps (ps.getD f pk0) n.2.2.1 = false) (hof : ofPk ps (ps.getD f pk0) n.2.2.1 = ps.getD t pk0) (hiff : n.2.2.1 = (ps.getD f pk0).1 ↔ t = f) :
    (atV (fsTo ps f t i) n.2.2.2 = -1 ∧ call9 ps (ps.getD f pk0) (i : Int) n = 2) ∨ ∃ c, c < (fsTo ps f t i).length ∧ atV (fsTo ps f t i) n.2.2.2 = (c : Int) ∧
      ((((fsTo ps f t i).getD c fn0).2.1 ≠ n.2.1 ∧ call9 ps (ps.getD f pk0) (i : Int) n = 3) ∨ (((fsTo ps f t i).getD c fn0).2.1 = n.2.1 ∧ call9 ps (ps.getD f pk0) (i : Int) n = 0)) := by
  unfold call9
  rw [if_neg (by rw [hfar]; decide), hof]
  have hcase : ∀ m : List Fn, m = fsTo ps f t i → (atV m n.2.2.2 = -1 ↔ (atV (ps.getD t pk0).2.2 n.2.2.2 < 0 ∨ (n.2.2.1 = (ps.getD f pk0).1 ∧ (i : Int) ≤ atV (ps.getD t pk0).2.2 n.2.2.2))) ∧ (0 ≤ atV m n.2.2.2 → atV (ps.getD t pk0).2.2 n.2.2.2 = atV m n.2.2.2 ∧ ∀ c : Nat, c < m.length → m.getD c fn0 = (ps.getD t pk0).2.2.getD c fn0) := fun m hm => by
    unfold fsTo at hm
    by_cases htf : t = f
    · rw [if_pos htf] at hm
      subst hm
      have h := atV_take (ps.getD t pk0).2.2 i n.2.2.2
      refine ⟨⟨fun e => ?_, fun e => ?_⟩, fun e => ⟨?_, fun c hc => ?_⟩⟩
      · rcases h with ⟨_, h | h⟩ | ⟨h, _, _⟩
        · exact Or.inl h
        · exact Or.inr ⟨hiff.2 htf, h⟩
        · omega
      · rcases h with ⟨h, _⟩ | ⟨h, h2, h3⟩
        · exact h
        · rcases e with e | ⟨_, e⟩ <;> omega
      · rcases h with ⟨h, _⟩ | ⟨_, h, _⟩
        · omega
        · exact h
      · rw [List.length_take] at hc
        rw [List.getD_eq_getElem?_getD, List.getElem?_take_of_lt (by omega), ← List.getD_eq_getElem?_getD]
    · rw [if_neg htf] at hm
      subst hm
      refine ⟨⟨fun e => Or.inl (by omega), fun e => ?_⟩, fun _ => ⟨rfl, fun _ _ => rfl⟩⟩
      rcases at7_is (ps.getD t pk0).2.2 n.2.2.2 with h | ⟨j, _, h, _⟩
      · exact h
      · rcases e with e | ⟨e, _⟩
        · omega
        · exact absurd (hiff.1 e) htf
  obtain ⟨h1, h2⟩ := hcase _ rfl
  generalize fsTo ps f t i = m at h1 h2 ⊢
  rcases at7_is m n.2.2.2 with e | ⟨c, hc, e, _⟩
  · exact Or.inl ⟨e, if_pos (h1.1 e)⟩
  · obtain ⟨h3, h4⟩ := h2 (by omega)
    refine Or.inr ⟨c, hc, e, ?_⟩
    rw [if_neg (fun h => by have := h1.2 h; omega), h3, e, Int.toNat_natCast, ← h4 c hc]
    by_cases h5 : (m.getD c fn0).2.1 = n.2.1
    · exact Or.inr ⟨h5, if_neg (fun h => h h5)⟩
    · exact Or.inl ⟨h5, if_pos h5⟩
theorem fsTo_len {ps : List Pk} {f t i : Nat} (h : t = f → i ≤ (ps.getD t pk0).2.2.length) : (fsTo ps f t i).length = if t = f then i else (ps.getD t pk0).2.2.length := by
  unfold fsTo
  by_cases e : t = f
  · rw [if_pos e, if_pos e, List.length_take, Nat.min_eq_left (h e)]
  · rw [if_neg e, if_neg e]

/-! A function. -/
theorem func9_ways (ps : List Pk) (p : Pk) (i : Nat) : ((∃ n ∈ (p.2.2.getD i fn0).2.2, arg9 (p.2.2.getD i fn0) n) ∧ func9 ps p i = 3) ∨
    ((∀ n ∈ (p.2.2.getD i fn0).2.2, ¬ arg9 (p.2.2.getD i fn0) n) ∧ (((∃ n ∈ (p.2.2.getD i fn0).2.2, bad9 ps p i n) ∧ func9 ps p i = 4) ∨ ((∀ n ∈ (p.2.2.getD i fn0).2.2, ¬ bad9 ps p i n) ∧ func9 ps p i = 0))) := by
  unfold func9
  generalize p.2.2.getD i fn0 = f
  have hgo : ∀ (t : List Nd) (c : Int), ((∃ n ∈ t, arg9 f n) ∧ fnGo ps p i f t c = 3) ∨ ((∀ n ∈ t, ¬ arg9 f n) ∧ (((∃ n ∈ t, bad9 ps p i n) ∧ fnGo ps p i f t c = 4) ∨ ((∀ n ∈ t, ¬ bad9 ps p i n) ∧ fnGo ps p i f t c = c))) := by
    intro t
    induction t with
    | nil => intro c; exact Or.inr ⟨(fun n h => by cases h), Or.inr ⟨(fun n h => by cases h), rfl⟩⟩
    | cons x r ih =>
      intro c
      rw [fnGo]
      by_cases ha : arg9 f x
      · rw [if_pos ha]
        exact Or.inl ⟨⟨x, List.mem_cons_self, ha⟩, rfl⟩
      · rw [if_neg ha]
        by_cases hb : bad9 ps p i x
        · rw [if_pos hb]
          rcases ih 4 with ⟨⟨n, hn, h⟩, e⟩ | ⟨h, ⟨_, e⟩ | ⟨_, e⟩⟩
          · exact Or.inl ⟨⟨n, List.mem_cons_of_mem _ hn, h⟩, e⟩
          · exact Or.inr ⟨fun n hn => by rcases List.mem_cons.1 hn with rfl | hn; exact ha; exact h n hn, Or.inl ⟨⟨x, List.mem_cons_self, hb⟩, e⟩⟩
          · exact Or.inr ⟨fun n hn => by rcases List.mem_cons.1 hn with rfl | hn; exact ha; exact h n hn, Or.inl ⟨⟨x, List.mem_cons_self, hb⟩, e⟩⟩
        · rw [if_neg hb]
          rcases ih c with ⟨⟨n, hn, h⟩, e⟩ | ⟨h, ⟨⟨n, hn, h2⟩, e⟩ | ⟨h2, e⟩⟩
          · exact Or.inl ⟨⟨n, List.mem_cons_of_mem _ hn, h⟩, e⟩
          · exact Or.inr ⟨fun n hn => by rcases List.mem_cons.1 hn with rfl | hn; exact ha; exact h n hn, Or.inl ⟨⟨n, List.mem_cons_of_mem _ hn, h2⟩, e⟩⟩
          · exact Or.inr ⟨fun n hn => by rcases List.mem_cons.1 hn with rfl | hn; exact ha; exact h n hn, Or.inr ⟨fun n hn => by rcases List.mem_cons.1 hn with rfl | hn; exact hb; exact h2 n hn, e⟩⟩
  exact hgo f.2.2 0

/-! A package. -/
theorem miss9_plc {ps : List Pk} {i : Nat} : miss9 ps (ps.getD i pk0) ↔ (plc ps (imsAt ps i)).length < (imsAt ps i).length := by
  have hgo : ∀ ms : List (List UInt8), (∃ m ∈ ms, at8 ps m < 0) ↔ (plc ps ms).length < ms.length := by
    intro ms
    induction ms with
    | nil => exact ⟨(fun ⟨m, h, _⟩ => by cases h), (fun h => absurd h (Nat.not_lt_zero _))⟩
    | cons x r ih =>
      have hle := plc_le ps r
      by_cases hx : 0 ≤ at8 ps x
      · have e : plc ps (x :: r) = (at8 ps x).toNat :: plc ps r := by simp [plc, hx]
        rw [e, List.length_cons, List.length_cons]
        refine ⟨fun ⟨m, hm, h⟩ => ?_, fun h => ?_⟩
        · rcases List.mem_cons.1 hm with rfl | hm
          · omega
          · have := ih.1 ⟨m, hm, h⟩; omega
        · obtain ⟨m, hm, h⟩ := ih.2 (by omega)
          exact ⟨m, List.mem_cons_of_mem _ hm, h⟩
      · have e : plc ps (x :: r) = plc ps r := by simp [plc, hx]
        rw [e, List.length_cons]
        exact ⟨fun _ => by omega, fun _ => ⟨x, List.mem_cons_self, by omega⟩⟩
  exact hgo _

/-! A project. -/
/-- The places in the order that FaultOf looks at them. -/
def all9 (out : List Nat) (n : Nat) : List Nat := out ++ (List.range n).filter (fun i => decide (¬ i ∈ out))
theorem all9_succ (out : List Nat) (n : Nat) : all9 out (n + 1) = if n ∈ out then all9 out n else all9 out n ++ [n] := by
  unfold all9
  rw [List.range_succ, List.filter_append]
  by_cases h : n ∈ out
  · rw [if_pos h]; simp [h]
  · rw [if_neg h]; simp [h]
theorem all9_lt {out : List Nat} {n : Nat} (h : ∀ x ∈ out, x < n) : ∀ x ∈ all9 out n, x < n := fun x hx => by
  rcases List.mem_append.1 hx with h1 | h1
  · exact h x h1
  · exact List.mem_range.1 (List.mem_filter.1 h1).1
theorem all9_len (out : List Nat) (n : Nat) : (all9 out n).length ≤ out.length + n := by
  unfold all9
  rw [List.length_append]
  have := List.length_filter_le (fun i => decide (¬ i ∈ out)) (List.range n)
  rw [List.length_range] at this
  omega
theorem names8_range (ps : List Pk) : names8 ps = (List.range ps.length).map (nmAt ps) := by
  refine List.ext_getElem (by simp [names8]) fun i h1 h2 => ?_
  have hi : i < ps.length := by simpa [names8] using h1
  rw [nmAt_el hi]
  simp
theorem all9_names {ps : List Pk} (hpj : projB ps = true) {out : List Nat} (ho : nmsAt ps out = order8 ps) (hol : ∀ x ∈ out, x < ps.length) : nmsAt ps (all9 out ps.length) = ord9 ps := by
  have hn : (names8 ps).Nodup := (projB_parts hpj).1.nodup
  unfold all9 ord9 nmsAt
  rw [List.map_append]
  have ho2 : List.map (nmAt ps) out = order8 ps := ho
  rw [ho2]
  refine congrArg _ ?_
  rw [names8_range, List.filter_map]
  refine congrArg _ (List.filter_congr fun i hi => ?_)
  rw [← ho2]
  exact decide_eq_decide.2 (not_congr (nm_in hn hol (List.mem_range.1 hi)).symm)
end Go.Proofs.YtdjglpcllcjcfaaGreatDoor

/-! The contracts of the landed heap of places: its methods. -/
namespace Go.Proofs.YtdjglpcllcjcfaaGreatDoor
open Go.RowKit

def natV (l : List Nat) : List Value := l.map (fun x : Nat => Value.int .i64 (x : Int))
theorem natV_len (l : List Nat) : (natV l).length = l.length := by simp [natV]
theorem natV_at (l : List Nat) (j : Nat) (h : j < l.length) : (natV l)[j]? = some (.int .i64 ((l.getD j 0 : Nat) : Int)) := by
  simp [natV, List.getD, List.getElem?_eq_getElem h]
theorem natV_snoc (l : List Nat) (x : Nat) : natV l ++ [.int .i64 (x : Int)] = natV (l ++ [x]) := by simp [natV]
theorem natV_set (l : List Nat) (i x : Nat) : (natV l).set i (.int .i64 (x : Int)) = natV (l.set i x) := by simp [natV, List.map_set]
theorem natV_take (l : List Nat) (m : Nat) : (natV l).take m = natV (l.take m) := by simp [natV, List.map_take]
theorem nat_cell {w : World} {B g cp n : Nat} {l : List Nat} (h : w.ownsRow B 3 1 (.slice (some ⟨g, 0, none⟩) n cp) n (natV l)) (hn : l.length = n) (j : Nat) (hj : j < n) : w.cell? ⟨g, j, none⟩ = some (.int .i64 ((l.getD j 0 : Nat) : Int)) := by
  rw [h.cellAt j (by omega), natV_at l j (by omega)]

theorem upLen (a : Option Addr) (n c : Nat) (w : World) : Calls Tryz.prog 84 #[.slice a n c] w fun e w' => e = .returned (.int .i64 (n : Int)) ∧ w' = w := by
  go_enter Tryz.func84, Tryz.ntmps84
  go_wp2
  go_ret
  exact ⟨rfl, rfl⟩
set_option maxHeartbeats 1000000 in
set_option maxRecDepth 100000 in
theorem upLess (B g cp n : Nat) (l : List Nat) (i j : Nat) (w : World) (h : w.ownsRow B 3 1 (.slice (some ⟨g, 0, none⟩) n cp) n (natV l)) (hn : l.length = n) (hi : i < n) (hj : j < n) :
    Calls Tryz.prog 167 #[.slice (some ⟨g, 0, none⟩) n cp, .int .i64 (i : Int), .int .i64 (j : Int)] w fun e w' => e = .returned (.bool (decide (l.getD i 0 < l.getD j 0))) ∧ Below w.heap.size w w' := by
  have c1 := nat_cell h hn i hi
  have c2 := nat_cell h hn j hj
  obtain ⟨x, hx⟩ : ∃ x, l.getD i 0 = x := ⟨_, rfl⟩
  obtain ⟨y, hy⟩ : ∃ y, l.getD j 0 = y := ⟨_, rfl⟩
  rw [hx] at c1 ⊢
  rw [hy] at c2 ⊢
  have hi2 : (i : Int) < (n : Int) := by omega
  have hj2 : (j : Int) < (n : Int) := by omega
  clear h hn hi hj hx hy
  go_enter Tryz.func167, Tryz.ntmps167
  go_wp2_with fail
  go_quiet (fail)
  go_wp2
  go_ret
  exact ⟨rfl, ⟨rfl, rfl, rfl, Nat.le_refl _, fun _ _ => rfl⟩⟩
set_option maxHeartbeats 2000000 in
set_option maxRecDepth 100000 in
theorem upSwap (B g cp n : Nat) (l : List Nat) (i j : Nat) (w : World) (h : w.ownsRow B 3 1 (.slice (some ⟨g, 0, none⟩) n cp) n (natV l)) (hn : l.length = n) (hi : i < n) (hj : j < n) :
    Calls Tryz.prog 170 #[.slice (some ⟨g, 0, none⟩) n cp, .int .i64 (i : Int), .int .i64 (j : Int)] w fun e w' => e = .returned (.tuple #[]) ∧ w'.ownsRow B 3 1 (.slice (some ⟨g, 0, none⟩) n cp) n (natV (sw l i j)) ∧ w.grownBy w' (some g) := by
  have c1 := nat_cell h hn i hi
  have c2 := nat_cell h hn j hj
  obtain ⟨s1, g1⟩ := h.stored i (.int .i64 ((l.getD j 0 : Nat) : Int))
  obtain ⟨s2, g2⟩ := s1.stored j (.int .i64 ((l.getD i 0 : Nat) : Int))
  have hg := g1.trans g2
  rw [natV_set, natV_set] at s2
  have HS : Hid (((w.setCell ⟨g, i, none⟩ (.int .i64 ((l.getD j 0 : Nat) : Int))).setCell ⟨g, j, none⟩ (.int .i64 ((l.getD i 0 : Nat) : Int))).ownsRow B 3 1 (.slice (some ⟨g, 0, none⟩) n cp) n (natV (sw l i j))) := s2
  have HG : Hid (w.grownBy ((w.setCell ⟨g, i, none⟩ (.int .i64 ((l.getD j 0 : Nat) : Int))).setCell ⟨g, j, none⟩ (.int .i64 ((l.getD i 0 : Nat) : Int))) (some g)) := hg
  obtain ⟨x, hx⟩ : ∃ x, l.getD i 0 = x := ⟨_, rfl⟩
  obtain ⟨y, hy⟩ : ∃ y, l.getD j 0 = y := ⟨_, rfl⟩
  rw [hx] at c1 HS HG
  rw [hy] at c2 HS HG
  have hi2 : (i : Int) < (n : Int) := by omega
  have hj2 : (j : Int) < (n : Int) := by omega
  have f1 := h.frozenAt i
  have f2 := s1.frozenAt j
  have d2 : (w.setCell ⟨g, i, none⟩ (.int .i64 ((l.getD j 0 : Nat) : Int))).cell? ⟨g, j, none⟩ = some (.int .i64 ((l.getD j 0 : Nat) : Int)) := by
    have s1' := s1
    rw [natV_set] at s1'
    rw [nat_cell s1' (by rw [List.length_set]; exact hn) j hj, getD_set (by omega)]
    split <;> rfl
  rw [hy] at f2 d2
  clear h hn hi hj hx hy s1 g1 s2 g2 hg
  go_enter Tryz.func170, Tryz.ntmps170
  go_wp2_with fail
  go_region
  go_wp2
  go_end0
  exact ⟨rfl, own_none HS.out ⟨rfl, rfl, rfl, Nat.le_refl _, fun _ _ _ => rfl⟩, HG.out.trans ⟨rfl, rfl, rfl, Nat.le_refl _, fun _ _ _ => rfl⟩⟩

theorem info3 : (Tryz.prog.info? 3).map (fun i => (i.zero, i.size, i.bytes)) = some (some (.int .i64 0), 1, 8) := by kernel_rfl
theorem push_nat {X : World} {B : Nat} {v : Value} {n : Nat} {l : List Nat} (T : TypeId) (hT : Tryz.prog.underlying T = some (.slice 3)) (x : Nat) (hv : X.ownsRow B 3 1 v n (natV l)) (hb : B ≤ X.heap.size) (hn : n ≤ 1048576) :
    ∃ v' Y, (Builtin.append_ #[T, T] T #[v, .slice (some ⟨X.heap.size, 0, none⟩) 1 1]).run Tryz.prog (X.alloc (.cells #[.int .i64 (x : Int)] 3)) = .ok v' Y ∧ Y.ownsRow B 3 1 v' (n + 1) (natV (l ++ [x])) ∧ X.grownBy Y v.ownBlock ∧ (v'.ownBlock = v.ownBlock ∨ v'.ownBlock = some (X.heap.size + 1)) := by
  obtain ⟨i0, hi, hz0, hz1, hz2⟩ := info_parts info3
  obtain ⟨v', Y, hrun, hown, hg, _, hat⟩ := run_append_own_at (P := Tryz.prog) (X.alloc (.cells #[.int .i64 (x : Int)] 3)) B T T 3 i0 _ 1 8 hT hi hz0 hz1 hz2 rfl (by decide) _ _ _ (hv.alloc _) ⟨X.heap.size, 0, none⟩ 1 1 (natV [x]) rfl (fun j u hu => cell_one_new X _ 3 j u hu) (fun u hu => by simp [natV] at hu; subst hu; rfl) (by unfold maxLen; omega) (by omega) (by simp; omega)
  exact ⟨v', Y, hrun, by rw [← natV_snoc]; exact hown, (World.grownBy_alloc X _ _).trans hg, by simpa using hat⟩

/-- A heap of places: the pointer's block, and the row. -/
structure HpIn (w : World) (B nb : Nat) (v : Value) (l : List Nat) : Prop where
  box : w.ownsRow B 117 1 (.slice (some ⟨nb, 0, none⟩) 1 1) 1 [v]
  row : w.ownsRow B 3 1 v l.length (natV l)
theorem HpIn.cell {w : World} {B nb : Nat} {v : Value} {l : List Nat} (h : HpIn w B nb v l) : w.cell? ⟨nb, 0, none⟩ = some v := by rw [h.box.cellAt 0 (by decide)]; rfl
theorem HpIn.ne {w : World} {B nb : Nat} {v : Value} {l : List Nat} (h : HpIn w B nb v l) : v.ownBlock ≠ some nb := by
  rcases own_types h.box h.row (by decide) with e | e
  · cases e
  · exact fun e2 => e e2.symm
theorem HpIn.lt {w : World} {B nb : Nat} {v : Value} {l : List Nat} (h : HpIn w B nb v l) : B ≤ nb ∧ nb < w.heap.size := h.box.lt nb rfl
theorem HpIn.idle {w w' : World} {B nb : Nat} {v : Value} {l : List Nat} (h : HpIn w B nb v l) (hg : w.grownBy w' none) : HpIn w' B nb v l := ⟨own_none h.box hg, own_none h.row hg⟩
theorem HpIn.below {w w' : World} {B nb : Nat} {v : Value} {l : List Nat} (h : HpIn w B nb v l) (hg : Below w.heap.size w w') : HpIn w' B nb v l := ⟨own_below h.box hg, own_below h.row hg⟩
theorem HpIn.wrote {w w' : World} {B nb : Nat} {v : Value} {l : List Nat} {S : Nat → Prop} (h : HpIn w B nb v l) (hg : Wrote w w' S) (hb : ¬ S nb) (hv : ∀ k, v.ownBlock = some k → ¬ S k) : HpIn w' B nb v l :=
  ⟨own_wrote h.box hg (fun k e => by injection e with e; rw [← e]; exact hb), own_wrote h.row hg hv⟩
/-- The row is written. -/
theorem HpIn.swapped {w w' : World} {B nb g n cp : Nat} {l l' : List Nat} (h : HpIn w B nb (.slice (some ⟨g, 0, none⟩) n cp) l) (hr : w'.ownsRow B 3 1 (.slice (some ⟨g, 0, none⟩) n cp) n (natV l')) (hl : l'.length = n) (hg : w.grownBy w' (some g)) : HpIn w' B nb (.slice (some ⟨g, 0, none⟩) n cp) l' :=
  ⟨h.box.kept hg (Or.inr (fun e => h.ne e.symm)), by rw [hl]; exact hr⟩
/-- Where a row that has grown lies. -/
def NewAt (w : World) (v v' : Value) : Prop := ∀ k, v'.ownBlock = some k → v.ownBlock = some k ∨ w.heap.size ≤ k

theorem asInt (x : Nat) (W : World) : (Instr.typeAssert (.iface 3 (.int .i64 (x : Int))) 20 3 false).run Tryz.prog W = .ok (.int .i64 (x : Int)) W := by kernel_rfl
set_option maxHeartbeats 2000000 in
set_option maxRecDepth 100000 in
theorem upPush (B nb : Nat) (v : Value) (l : List Nat) (x : Nat) (w : World) (h : HpIn w B nb v l) (hl : l.length ≤ 1000) :
    Calls Tryz.prog 169 #[.pointer (some ⟨nb, 0, none⟩), .iface 3 (.int .i64 (x : Int))] w fun e w' => e = .returned (.tuple #[]) ∧ ∃ v', HpIn w' B nb v' (l ++ [x]) ∧ Wrote w w' (fun k => k = nb ∨ v.ownBlock = some k) ∧ NewAt w v v' := by
  have hlt := h.lt
  obtain ⟨v', Y, hrun, hown, hg, hat⟩ := push_nat 117 Tryz.underlying117 x (h.idle (grown_drew w none)).row (by simp; omega) (by omega)
  have hne : some nb ≠ v.ownBlock := fun e => h.ne e.symm
  obtain ⟨g', c', rfl⟩ := own_some hown (by omega)
  have hboxY : Y.ownsRow B 117 1 (.slice (some ⟨nb, 0, none⟩) 1 1) 1 [v] := (h.idle (grown_drew w none)).box.kept hg (Or.inr hne)
  obtain ⟨hst, hgs⟩ := hboxY.stored 0 (.slice (some ⟨g', 0, none⟩) (l.length + 1) c')
  have HE : Hid (HpIn (Y.setCell ⟨nb, 0, none⟩ (.slice (some ⟨g', 0, none⟩) (l.length + 1) c')) B nb (.slice (some ⟨g', 0, none⟩) (l.length + 1) c') (l ++ [x])) := ⟨hst, by
    have := hown.kept hgs (own_types hown hboxY (by decide))
    rw [List.length_append, List.length_singleton]; exact this⟩
  have HW : Hid (Wrote w (Y.setCell ⟨nb, 0, none⟩ (.slice (some ⟨g', 0, none⟩) (l.length + 1) c')) (fun k => k = nb ∨ v.ownBlock = some k)) := ((Wrote.of_grown (grown_drew w none) (fun k e => by cases e)).trans (Wrote.of_grown hg (fun k e => Or.inr e))).trans (Wrote.of_grown hgs (fun k e => by injection e with e; exact Or.inl e.symm))
  have HN : Hid (NewAt w v (.slice (some ⟨g', 0, none⟩) (l.length + 1) c')) := fun k e => by
    rcases hat with h1 | h1
    · exact Or.inl (by rw [← h1]; exact e)
    · rw [h1] at e; injection e with e; right; rw [← e]; simp
  have c0 := h.cell
  have c1 : (w.alloc (.cells #[.int .i64 (x : Int)] 3)).cell? ⟨nb, 0, none⟩ = some v := by rw [(h.box.alloc _).cellAt 0 (by decide)]; rfl
  have cY : Y.cell? ⟨nb, 0, none⟩ = some v := by rw [hboxY.cellAt 0 (by decide)]; rfl
  have fY := hboxY.frozenAt 0
  have hta : ∀ W : World, (Instr.typeAssert (.iface 3 (.int .i64 (x : Int))) 20 3 false).run Tryz.prog W = .ok (.int .i64 (x : Int)) W := asInt x
  change (Builtin.append_ _ _ _).run Tryz.prog (w.alloc (.cells #[.int .i64 (x : Int)] 3)).drew = _ at hrun
  clear h hlt hown hg hat hne hboxY hst hgs
  go_enter Tryz.func169, Tryz.ntmps169
  go_wp2_with fail
  go_region_law (first | (refine step_append_run (by rfl) (.tmp 7) (.tmp 10) 117 (by rfl) _ _ _ (by rfl) (by rfl) hrun ?_))
  all_goals
    go_wp2
    go_end0
    exact ⟨rfl, _, HE.out, HW.out, HN.out⟩

end Go.Proofs.YtdjglpcllcjcfaaGreatDoor

/-! The contracts of the landed code of chapter 8: places of packages, names at places, ProjectOk; slices.Contains. -/
namespace Go.Proofs.YtdjglpcllcjcfaaGreatDoor
open Go.RowKit

/-- Numbers that can be read. -/
def NatsIn (w : World) (a : Option Addr) (n : Nat) (l : List Nat) : Prop := l.length = n ∧ ∀ j, j < n → ∃ b off, a = some ⟨b, off, none⟩ ∧ b < w.heap.size ∧ w.cell? ⟨b, off + j, none⟩ = some (.int .i64 ((l.getD j 0 : Nat) : Int))
theorem NatsIn.below {w w' : World} {a : Option Addr} {n : Nat} {l : List Nat} (h : NatsIn w a n l) (hb : Below w.heap.size w w') : NatsIn w' a n l :=
  ⟨h.1, fun j hj => by
    obtain ⟨b, off, e, hlt, c⟩ := h.2 j hj
    exact ⟨b, off, e, Nat.lt_of_lt_of_le hlt hb.size, (hb.cell (p := ⟨b, off + j, none⟩) hlt).trans c⟩⟩
theorem own_nats {w : World} {B n : Nat} {v : Value} {l : List Nat} (h : w.ownsRow B 3 1 v n (natV l)) (hn : l.length = n) : ∃ a c, v = .slice a n c ∧ NatsIn w a n l := by
  rcases own_forms h with ⟨rfl, rfl, _⟩ | ⟨g, c, rfl⟩
  · exact ⟨none, 0, rfl, hn, fun j hj => by omega⟩
  · exact ⟨_, c, rfl, hn, fun j hj => ⟨g, 0, rfl, (h.lt g rfl).2, by rw [Nat.zero_add]; exact nat_cell h hn j hj⟩⟩
theorem getD_mem_n {l : List Nat} {k : Nat} (hk : k < l.length) : l.getD k 0 ∈ l := by simp [List.getD, hk]
theorem not_mem_n {l : List Nat} {x : Nat} (h : ∀ i, i < l.length → l.getD i 0 ≠ x) : ¬ x ∈ l := fun hm => by
  obtain ⟨i, hi, e⟩ := List.mem_iff_getElem.1 hm
  exact h i hi (by simp [List.getD, hi, e])
theorem not_mem_s {l : List (List UInt8)} {x : List UInt8} (h : ∀ i, i < l.length → l.getD i [] ≠ x) : ¬ x ∈ l := fun hm => by
  obtain ⟨i, hi, e⟩ := List.mem_iff_getElem.1 hm
  exact h i hi (by simp [List.getD, hi, e])

set_option maxHeartbeats 1000000 in
set_option maxRecDepth 100000 in
theorem indexNat (a : Option Addr) (n c : Nat) (l : List Nat) (x : Nat) (w : World) (hin : NatsIn w a n l) (hn : n ≤ 1048576) :
    Calls Tryz.prog 117 #[.slice a n c, .int .i64 (x : Int)] w fun e w' => ∃ y : Int, e = .returned (.int .i64 y) ∧ Hid (0 ≤ y ↔ x ∈ l) ∧ w' = w := by
  obtain rfl : l.length = n := hin.1
  have HI : Hid (NatsIn w a l.length l) := hin
  clear hin
  go_enter Tryz.func117, Tryz.ntmps117
  go_wp2
  go_loopw [8] (fun iv wr => ∃ k : Nat, iv = .int .i64 (k : Int) ∧ k ≤ l.length ∧ Hid (∀ i, i < k → l.getD i 0 ≠ x) ∧ wr = w) (fun iv _ => l.length - (intOf iv).toNat)
  case atStart => exact ⟨0, rfl, by omega, (fun i hi => by omega), rfl⟩
  case round =>
    obtain ⟨k, rfl, hk, HA, hwr⟩ := hrel
    obtain rfl := hwr.symm
    by_cases hlt : (k : Int) < (l.length : Int)
    · have hk2 : k < l.length := by omega
      obtain ⟨b, off, rfl, hbl, c0⟩ := HI.out.2 k hk2
      have hmem := getD_mem_n hk2
      obtain ⟨y, hy⟩ : ∃ y, l.getD k 0 = y := ⟨_, rfl⟩
      rw [hy] at c0 hmem
      by_cases hxy : x = y
      · subst hxy
        have HM : Hid (0 ≤ (k : Int) ↔ x ∈ l) := ⟨fun _ => hmem, fun _ => by omega⟩
        clear HA hy hmem
        go_wp2
        go_ret
        exact ⟨_, rfl, HM, rfl⟩
      · have HA2 : Hid (∀ i, i < k + 1 → l.getD i 0 ≠ x) := fun i hi => by
          rcases Nat.lt_or_ge i k with h | h
          · exact HA.out i h
          · obtain rfl : i = k := by omega
            rw [hy]; exact fun e => hxy e.symm
        have hne : ¬ (x : Int) = (y : Int) := by omega
        have hne2 : ((x : Int) == (y : Int)) = false := beq_eq_false_iff_ne.2 hne
        clear HA hy hmem
        go_wp2
        go_roundw
        case rel => exact ⟨k + 1, by go_num, by omega, HA2, trivial⟩
        case measure => simp [intOf]; omega
    · have HM : Hid (0 ≤ (-1 : Int) ↔ x ∈ l) := ⟨fun h => by omega, fun h => absurd h (not_mem_n (fun i hi => HA.out i (by omega)))⟩
      go_wp2
      go_ret
      exact ⟨_, rfl, HM, rfl⟩
theorem containsNat (a : Option Addr) (n c : Nat) (l : List Nat) (x : Nat) (w : World) (hin : NatsIn w a n l) (hn : n ≤ 1048576) :
    Calls Tryz.prog 88 #[.slice a n c, .int .i64 (x : Int)] w fun e w' => e = .returned (.bool (decide (x ∈ l))) ∧ w' = w := by
  have hI := indexNat a n c l x w hin hn
  go_enter Tryz.func88, Tryz.ntmps88
  go_wp2_with fail
  refine hI.mono ?_
  rintro e w1 ⟨y, rfl, HM, hw⟩
  obtain rfl := hw.symm
  clear hI
  go_wp2
  go_ret
  exact ⟨by rw [decide_eq_decide.2 HM.out.symm]; rfl, rfl⟩

set_option maxHeartbeats 1000000 in
set_option maxRecDepth 100000 in
theorem indexStr (a : Option Addr) (n c : Nat) (l : List (List UInt8)) (x : List UInt8) (w : World) (hin : TextsIn w a n l) (hn : n ≤ 1048576) :
    Calls Tryz.prog 116 #[.slice a n c, .string ⟨x.toArray⟩] w fun e w' => ∃ y : Int, e = .returned (.int .i64 y) ∧ Hid (0 ≤ y ↔ x ∈ l) ∧ w' = w := by
  obtain rfl : l.length = n := hin.1
  have HI : Hid (TextsIn w a l.length l) := hin
  clear hin
  go_enter Tryz.func116, Tryz.ntmps116
  go_wp2
  go_loopw [8] (fun iv wr => ∃ k : Nat, iv = .int .i64 (k : Int) ∧ k ≤ l.length ∧ Hid (∀ i, i < k → l.getD i [] ≠ x) ∧ wr = w) (fun iv _ => l.length - (intOf iv).toNat)
  case atStart => exact ⟨0, rfl, by omega, (fun i hi => by omega), rfl⟩
  case round =>
    obtain ⟨k, rfl, hk, HA, hwr⟩ := hrel
    obtain rfl := hwr.symm
    by_cases hlt : (k : Int) < (l.length : Int)
    · have hk2 : k < l.length := by omega
      obtain ⟨b, off, rfl, hbl, c0⟩ := HI.out.2 k hk2
      have hmem : l.getD k [] ∈ l := by simp [List.getD, hk2]
      obtain ⟨y, hy⟩ : ∃ y, l.getD k [] = y := ⟨_, rfl⟩
      rw [hy] at c0 hmem
      by_cases hxy : x = y
      · subst hxy
        have HM : Hid (0 ≤ (k : Int) ↔ x ∈ l) := ⟨fun _ => hmem, fun _ => by omega⟩
        have hself : (x == x) = true := by simp
        clear HA hy hmem
        go_wp2
        go_ret
        exact ⟨_, rfl, HM, rfl⟩
      · have HA2 : Hid (∀ i, i < k + 1 → l.getD i [] ≠ x) := fun i hi => by
          rcases Nat.lt_or_ge i k with h | h
          · exact HA.out i h
          · obtain rfl : i = k := by omega
            rw [hy]; exact fun e => hxy e.symm
        have hne : (x == y) = false := beq_eq_false_iff_ne.2 hxy
        clear HA hy hmem
        go_wp2
        go_roundw
        case rel => exact ⟨k + 1, by go_num, by omega, HA2, trivial⟩
        case measure => simp [intOf]; omega
    · have HM : Hid (0 ≤ (-1 : Int) ↔ x ∈ l) := ⟨fun h => by omega, fun h => absurd h (not_mem_s (fun i hi => HA.out i (by omega)))⟩
      go_wp2
      go_ret
      exact ⟨_, rfl, HM, rfl⟩
theorem containsStr (a : Option Addr) (n c : Nat) (l : List (List UInt8)) (x : List UInt8) (w : World) (hin : TextsIn w a n l) (hn : n ≤ 1048576) :
    Calls Tryz.prog 86 #[.slice a n c, .string ⟨x.toArray⟩] w fun e w' => e = .returned (.bool (decide (x ∈ l))) ∧ w' = w := by
  have hI := indexStr a n c l x w hin hn
  go_enter Tryz.func86, Tryz.ntmps86
  go_wp2_with fail
  refine hI.mono ?_
  rintro e w1 ⟨y, rfl, HM, hw⟩
  obtain rfl := hw.symm
  clear hI
  go_wp2
  go_ret
  exact ⟨by rw [decide_eq_decide.2 HM.out.symm]; rfl, rfl⟩

set_option maxHeartbeats 2000000 in
set_option maxRecDepth 100000 in
theorem implPlacePk (a : Option Addr) (len cap : Nat) (ps : List Pk) (s : List UInt8) (w : World) (hin : PkgsIn w a len ps) (hlen : len ≤ 1048576) :
    Calls Tryz.prog 90 #[.slice a len cap, .string ⟨s.toArray⟩] w fun e w' => e = .returned (.int .i64 (at8 ps s)) ∧ Below w.heap.size w w' := by
  obtain rfl : ps.length = len := hin.1
  have HI : Hid (PkgsIn w a ps.length ps) := hin
  clear hin
  go_enter Tryz.func90, Tryz.ntmps90
  go_wp2
  go_loopw [9] (fun iv wr => ∃ j : Nat, iv = .int .i64 (j : Int) ∧ j ≤ ps.length ∧ Hid (at8 ps s = at8Go s (ps.drop j) j) ∧ Hid (Below w.heap.size w wr)) (fun iv _ => ps.length - (intOf iv).toNat)
  case atStart => exact ⟨0, rfl, by omega, (rfl : at8 ps s = at8Go s (ps.drop 0) 0), Below.refl _ _⟩
  case round =>
    obtain ⟨j, rfl, hj, HA, HB⟩ := hrel
    by_cases hlt : (j : Int) < (ps.length : Int)
    · obtain ⟨b, off, rfl, hbl, c0, ia, il, ic, fa, fl, fc, c1, c2, _, _⟩ := (HI.out.below HB.out).2 j (by omega)
      have hg := at8Go_drop (ps := ps) (k := j) (by omega) s
      obtain ⟨x, hx⟩ : ∃ x, (ps.getD j pk0).1 = x := ⟨_, rfl⟩
      rw [hx] at c0 hg
      obtain ⟨bx, hbx⟩ := Box3.new wr (.string ⟨x.toArray⟩) (.slice ia il ic) (.slice fa fl fc) 32
      obtain ⟨X, hX⟩ : ∃ X, wr.alloc (.cells #[.string ⟨x.toArray⟩, .slice ia il ic, .slice fa fl fc] 32) = X := ⟨_, rfl⟩
      rw [hX] at bx hbx
      have d0 := bx.c0
      have d1 := bx.c1
      have d2 := bx.c2
      have HB2 : Hid (Below w.heap.size w X) := HB.out.trans (hbx.mono HB.out.size)
      clear bx hbx
      by_cases hxs : x = s
      · subst hxs
        have HR : Hid (at8 ps x = (j : Int)) := by exact (by rw [HA.out, hg, if_pos rfl] : at8 ps x = (j : Int))
        have hself : (x == x) = true := by simp
        clear HA hg hx
        go_wp2
        go_ret
        exact ⟨by rw [HR.out]; rfl, HB2.out⟩
      · have HR : Hid (at8 ps s = at8Go s (ps.drop (j + 1)) (j + 1)) := by exact (by rw [HA.out, hg, if_neg hxs] : at8 ps s = at8Go s (ps.drop (j + 1)) (j + 1))
        have hne : (x == s) = false := by rw [beq_eq_false_iff_ne]; exact hxs
        clear HA hg hx
        go_wp2
        go_roundw
        case rel => exact ⟨j + 1, by go_num, by omega, HR, HB2⟩
        case measure => simp [intOf]; omega
    · have HR : Hid (at8 ps s = -1) := by exact (by rw [HA.out, List.drop_of_length_le (by omega)]; rfl : at8 ps s = -1)
      go_wp2
      go_ret
      exact ⟨by rw [HR.out]; rfl, HB.out⟩

set_option maxHeartbeats 2000000 in
set_option maxRecDepth 100000 in
theorem implPlacesOf (a : Option Addr) (len cap : Nat) (ps : List Pk) (i : Nat) (w : World) (hin : PkgsOk w a len cap ps) (hi : i < len) :
    Calls Tryz.prog 82 #[.slice a len cap, .int .i64 (i : Int)] w fun e w' => ∃ v, e = .returned v ∧ w'.ownsRow w.heap.size 3 1 v (plc ps (imsAt ps i)).length (natV (plc ps (imsAt ps i))) ∧ Below w.heap.size w w' := by
  have HI : Hid (PkgsOk w a len cap ps) := hin
  obtain ⟨b, off, rfl, hbl, c0, ia, il, ic, fa, fl, fc, c1, c2, hpk⟩ := hin.each i hi
  have hsm := hin.small
  have hil := hpk.il
  obtain ⟨ims, hims⟩ : ∃ ims, imsAt ps i = ims := ⟨_, rfl⟩
  have hti : TextsIn w ia il ims := by rw [← hims]; exact hpk.i
  rw [hims]
  obtain rfl : ims.length = il := hti.1
  have HT : Hid (TextsIn w ia ims.length ims) := hti
  have hi2 : (i : Int) < (len : Int) := by omega
  have c1a : (w.alloc (.cells #[] 3)).cell? ⟨b, off + i * 3 + 1, none⟩ = some (.slice ia ims.length ic) := (((Below.refl _ w).alloc (Nat.le_refl _) _).cell (p := ⟨b, off + i * 3 + 1, none⟩) hbl).trans c1
  have HO0 : Hid ((w.alloc (.cells #[] 3)).ownsRow w.heap.size 3 1 (.slice (some ⟨w.heap.size, 0, none⟩) 0 0) 0 (natV (plc ps (ims.take 0)))) := World.ownsRow_lit (base := w.heap.size) (e := 3) (size := 1) w #[] 0 (Nat.le_refl _) (by decide) rfl
  have HB0 : Hid (Below w.heap.size w (w.alloc (.cells #[] 3))) := (Below.refl _ _).alloc (Nat.le_refl _) _
  clear hin hpk hims hti c0 c2
  go_enter Tryz.func82, Tryz.ntmps82
  go_wp2
  go_loopw [5, 16] (fun pv iv wr => ∃ (k m : Nat) (pa : Option Addr) (pc : Nat), pv = .slice pa m pc ∧ iv = .int .i64 (k : Int) ∧ k ≤ ims.length ∧ m ≤ k ∧ Hid ((plc ps (ims.take k)).length = m) ∧ Hid (wr.ownsRow w.heap.size 3 1 (.slice pa m pc) m (natV (plc ps (ims.take k)))) ∧ Hid (Below w.heap.size w wr)) (fun _ iv _ => ims.length - (intOf iv).toNat)
  case atStart => exact ⟨0, 0, _, 0, rfl, rfl, by omega, by omega, rfl, HO0, HB0⟩
  case round =>
    obtain ⟨k, m, pa, pc, rfl, rfl, hk, hmk, HLm, HO, HB⟩ := hrel
    clear HO0 HB0
    by_cases hlt : (k : Int) < (ims.length : Int)
    · have hk2 : k < ims.length := by omega
      obtain ⟨b2, off2, rfl, _, d0⟩ := (HT.out.below HB.out).2 k hk2
      have hpt := plc_take ps ims hk2
      obtain ⟨x, hx⟩ : ∃ x, ims.getD k [] = x := ⟨_, rfl⟩
      rw [hx] at d0 hpt
      have HP : Hid (_) := implPlacePk (some ⟨b, off, none⟩) len cap ps x wr (HI.out.below HB.out).in (by omega)
      rcases at8_is ps x with ⟨ea, _⟩ | ⟨q, hq, ea, _, _⟩
      · rw [ea] at HP
        rw [ea, if_neg (by decide)] at hpt
        have HPT : Hid (plc ps (ims.take (k + 1)) = plc ps (ims.take k)) := hpt
        clear hpt hx ea
        go_wp2_with (go_at_call 90; refine Calls.mono HP.out ?_; rintro e w1 ⟨rfl, hb1⟩; have HB1 : Hid (Below w.heap.size w w1) := HB.out.trans (hb1.mono HB.out.size); have HO1 := own_below HO.out hb1; rw [← HPT.out] at HO1; clear hb1)
        go_roundw
        case rel => exact ⟨k + 1, m, pa, pc, rfl, by go_num, by omega, by omega, by exact (by rw [HPT.out]; exact HLm.out : (plc ps (ims.take (k + 1))).length = m), HO1, HB1⟩
        case measure => simp [intOf]; omega
      · rw [ea] at HP
        rw [ea, if_pos (by omega), Int.toNat_natCast] at hpt
        have HPT : Hid (plc ps (ims.take (k + 1)) = plc ps (ims.take k) ++ [q]) := hpt
        have hqn : ¬ (q : Int) = -1 := by omega
        have hqb : ((q : Int) != -1) = true := by rw [bne_iff_ne]; exact hqn
        have hqb2 : ((q : Int) == -1) = false := beq_eq_false_iff_ne.2 hqn
        clear hpt hx ea
        go_wp2_with fail
        refine Calls.mono HP.out ?_
        rintro e w1 ⟨rfl, hb1⟩
        have hB1 : Below w.heap.size w w1 := HB.out.trans (hb1.mono HB.out.size)
        have hO1 := own_below HO.out hb1
        obtain ⟨v', Y, hr, ho, hg, _⟩ := push_nat 79 Tryz.underlying79 q hO1 hB1.size (by omega)
        obtain ⟨g', c', rfl⟩ := own_some ho (by omega)
        rw [← HPT.out] at ho
        have HOY : Hid (Y.ownsRow w.heap.size 3 1 (.slice (some ⟨g', 0, none⟩) (m + 1) c') (m + 1) (natV (plc ps (ims.take (k + 1))))) := ho
        have HBY : Hid (Below w.heap.size w Y) := hB1.grown hg hB1.size (fun q e => (hO1.lt q e).1)
        clear hb1 hO1 hB1 ho hg HP
        go_wp2_with (at_builtin; refine wpList_append_run rfl (.tmp 25) (.tmp 27) 79 rfl _ _ _ rfl rfl hr ?_; clear hr)
        go_roundw
        case rel => exact ⟨k + 1, m + 1, _, c', rfl, by go_num, by omega, by omega, by exact (by rw [HPT.out, List.length_append, List.length_singleton, HLm.out] : (plc ps (ims.take (k + 1))).length = m + 1), HOY, HBY⟩
        case measure => simp [intOf]; omega
    · have HE : Hid (ims.take k = ims) := List.take_of_length_le (by omega)
      go_wp2
      go_ret
      exact ⟨_, rfl, by have h1 := HO.out; have h2 := HLm.out; rw [HE.out] at h1 h2; rw [h2]; exact h1, HB.out⟩

end Go.Proofs.YtdjglpcllcjcfaaGreatDoor

/-! The contracts of the landed code of chapter 8: ProjectOk, a package of a project by its name, names at places. -/
namespace Go.Proofs.YtdjglpcllcjcfaaGreatDoor
open Go.RowKit

/-- What ProjectOk holds ahead of place k. -/
structure PjSt (ps : List Pk) (k : Nat) (z : List UInt8) : Prop where
  ok : ∀ i, i < k → pj8 ps i
  last : (k = 0 ∧ z = []) ∨ (0 < k ∧ z = (ps.getD (k - 1) pk0).1)
theorem PjSt.pk {ps : List Pk} {k : Nat} (hk : k < ps.length) (h : pkgB (ps.getD k pk0) = false) : projB ps = false := projB_no hk (fun e => by have := e.1; rw [h] at this; cases this)
theorem PjSt.low {ps : List Pk} {k : Nat} {z : List UInt8} (s : PjSt ps k z) (hk : k < ps.length) (hp : pkgB (ps.getD k pk0) = true) (h : leT (ps.getD k pk0).1 z = true) : projB ps = false := by
  refine projB_no hk (fun e => ?_)
  rcases s.last with ⟨_, rfl⟩ | ⟨h0, rfl⟩
  · rw [leT_nil (pkgB_parts hp).1] at h; cases h
  · rw [e.2 h0] at h; cases h
theorem PjSt.step {ps : List Pk} {k : Nat} {z : List UInt8} (s : PjSt ps k z) (hp : pkgB (ps.getD k pk0) = true) (h : leT (ps.getD k pk0).1 z = false) : PjSt ps (k + 1) (ps.getD k pk0).1 := by
  refine ⟨fun i hi => ?_, Or.inr ⟨by omega, by simp⟩⟩
  rcases Nat.lt_or_ge i k with hl | hl
  · exact s.ok i hl
  · obtain rfl : i = k := by omega
    refine ⟨hp, fun h0 => ?_⟩
    rcases s.last with ⟨e, _⟩ | ⟨_, e⟩
    · omega
    · rw [← e]; exact h

set_option maxHeartbeats 4000000 in
set_option maxRecDepth 100000 in
theorem implProjectOk (a : Option Addr) (len cap : Nat) (ps : List Pk) (w : World) (h : PkgsOk w a len cap ps) :
    Calls Tryz.prog 47 #[.slice a len cap] w fun e w' => e = .returned (.bool (projB ps)) ∧ Below w.heap.size w w' := by
  obtain rfl : ps.length = len := h.hlen
  have hsm := h.small
  have HI : Hid (PkgsOk w a ps.length cap ps) := h
  clear h
  by_cases h1 : (ps.length : Int) < 1
  · have HR : Hid (projB ps = false) := by exact (by unfold projB; rw [inB_no _ _ _ (Or.inl h1), Bool.and_false] : projB ps = false)
    go_enter Tryz.func47, Tryz.ntmps47
    go_wp2
    go_ret
    exact ⟨by rw [HR.out]; rfl, Below.refl _ _⟩
  by_cases h8 : 8 < (ps.length : Int)
  · have HR : Hid (projB ps = false) := by exact (by unfold projB; rw [inB_no _ _ _ (Or.inr h8), Bool.and_false] : projB ps = false)
    go_enter Tryz.func47, Tryz.ntmps47
    go_wp2
    go_ret
    exact ⟨by rw [HR.out]; rfl, Below.refl _ _⟩
  go_enter Tryz.func47, Tryz.ntmps47
  go_wp2
  go_loopw [3, 16] (fun lv iv wr => ∃ (k : Nat) (z : List UInt8), lv = .string ⟨z.toArray⟩ ∧ iv = .int .i64 (k : Int) ∧ k ≤ ps.length ∧ Hid (PjSt ps k z) ∧ Hid (Below w.heap.size w wr)) (fun _ iv _ => ps.length - (intOf iv).toNat)
  case atStart => exact ⟨0, [], rfl, rfl, by omega, (⟨fun i hi => by omega, Or.inl ⟨rfl, rfl⟩⟩ : PjSt ps 0 []), Below.refl _ _⟩
  case round =>
    obtain ⟨k, z, rfl, rfl, hk, HZ, HB⟩ := hrel
    by_cases hlt : (k : Int) < (ps.length : Int)
    · have hk2 : k < ps.length := by omega
      obtain ⟨b, off, rfl, hbl, c0, ia, il, ic, fa, fl, fc, c1, c2, hpk⟩ := (HI.out.below HB.out).each k hk2
      obtain ⟨p, hp⟩ : ∃ p, ps.getD k pk0 = p := ⟨_, rfl⟩
      have HNo : Hid (pkgB p = false → projB ps = false) := fun e => PjSt.pk hk2 (by rw [hp]; exact e)
      have HLow : Hid (pkgB p = true → leT p.1 z = true → projB ps = false) := fun e1 e2 => HZ.out.low hk2 (by rw [hp]; exact e1) (by rw [hp]; exact e2)
      have HStep : Hid (pkgB p = true → leT p.1 z = false → PjSt ps (k + 1) p.1) := fun e1 e2 => by
        have := HZ.out.step (by rw [hp]; exact e1) (by rw [hp]; exact e2)
        rw [hp] at this
        exact this
      rw [hp] at c0 hpk
      clear hp HZ
      obtain ⟨x, ims, fs⟩ := p
      simp only at c0 hpk
      obtain ⟨bx, hbx⟩ := Box3.new wr (.string ⟨x.toArray⟩) (.slice ia il ic) (.slice fa fl fc) 32
      obtain ⟨X, hX⟩ : ∃ X, wr.alloc (.cells #[.string ⟨x.toArray⟩, .slice ia il ic, .slice fa fl fc] 32) = X := ⟨_, rfl⟩
      obtain ⟨E, hE⟩ : ∃ E, wr.heap.size = E := ⟨_, rfl⟩
      rw [hX] at bx hbx
      rw [hE] at bx
      have d0 := bx.c0
      have d1 := bx.c1
      have d2 := bx.c2
      have HBX : Hid (Box3 X E (.string ⟨x.toArray⟩) (.slice ia il ic) (.slice fa fl fc)) := bx
      have HC : Hid (_) := implPackageOk x ia il ic fa fl fc ims fs X (hpk.below hbx)
      have HB2 : Hid (Below w.heap.size w X) := HB.out.trans (hbx.mono HB.out.size)
      clear bx hbx hpk HB
      rcases hpb : pkgB (x, ims, fs) with _ | _
      · have HR : Hid (projB ps = false) := HNo.out hpb
        rw [hpb] at HC
        clear hpb
        go_wp2_with (go_at_call 28; refine Calls.mono HC.out ?_; rintro e w1 ⟨rfl, hb1⟩; have HB3 : Hid (Below w.heap.size w w1) := HB2.out.trans (hb1.mono HB2.out.size); clear hb1)
        go_ret
        exact ⟨by rw [HR.out]; rfl, HB3.out⟩
      · rcases hle : leT x z with _ | _
        · have HS2 : Hid (PjSt ps (k + 1) x) := HStep.out hpb hle
          rw [hpb] at HC
          unfold leT at hle
          clear hpb HNo HLow HStep
          go_wp2_with (go_at_call 28; refine Calls.mono HC.out ?_; rintro e w1 ⟨rfl, hb1⟩; have HB3 : Hid (Below w.heap.size w w1) := HB2.out.trans (hb1.mono HB2.out.size); have q0 := (HBX.out.below hb1).c0; clear hb1)
          go_roundw
          case rel => exact ⟨k + 1, x, rfl, by go_num, by omega, HS2, HB3⟩
          case measure => simp [intOf]; omega
        · have HR : Hid (projB ps = false) := HLow.out hpb hle
          rw [hpb] at HC
          unfold leT at hle
          clear hpb HNo HLow HStep
          go_wp2_with (go_at_call 28; refine Calls.mono HC.out ?_; rintro e w1 ⟨rfl, hb1⟩; have HB3 : Hid (Below w.heap.size w w1) := HB2.out.trans (hb1.mono HB2.out.size); have q0 := (HBX.out.below hb1).c0; clear hb1)
          go_ret
          exact ⟨by rw [HR.out]; rfl, HB3.out⟩
    · obtain rfl : k = ps.length := by omega
      have HR : Hid (projB ps = true) := by exact (by rw [projB_all HZ.out.ok]; unfold inB; exact decide_eq_true (by omega) : projB ps = true)
      go_wp2
      go_ret
      exact ⟨by rw [HR.out]; rfl, HB.out⟩

theorem implPlaceIn (a : Option Addr) (len cap : Nat) (ps : List Pk) (s : List UInt8) (w : World) (h : PkgsOk w a len cap ps) :
    Calls Tryz.prog 68 #[.slice a len cap, .string ⟨s.toArray⟩] w fun e w' => e = .returned (.int .i64 (if projB ps = true then at8 ps s else -1)) ∧ Below w.heap.size w w' := by
  have HP : Hid (_) := implProjectOk a len cap ps w h
  have HI : Hid (PkgsOk w a len cap ps) := h
  clear h
  rcases hp : projB ps with _ | _
  · rw [hp] at HP
    go_enter Tryz.func68, Tryz.ntmps68
    go_wp2_with (go_at_call 47; refine Calls.mono HP.out ?_; rintro e w1 ⟨rfl, hb1⟩)
    go_ret
    exact ⟨by simp, hb1⟩
  · rw [hp] at HP
    go_enter Tryz.func68, Tryz.ntmps68
    go_wp2_with fail
    refine Calls.mono HP.out ?_
    rintro e w1 ⟨rfl, hb1⟩
    have HI1 : Hid (PkgsOk w1 a len cap ps) := HI.out.below hb1
    go_wp2_with fail
    refine (implPlacePk a len cap ps s w1 HI1.out.in HI1.out.small).mono ?_
    rintro e w2 ⟨rfl, hb2⟩
    have HB : Hid (Below w.heap.size w w2) := hb1.trans (hb2.mono hb1.size)
    clear hb1 hb2
    go_wp2
    go_ret
    exact ⟨by simp, HB.out⟩


end Go.Proofs.YtdjglpcllcjcfaaGreatDoor
