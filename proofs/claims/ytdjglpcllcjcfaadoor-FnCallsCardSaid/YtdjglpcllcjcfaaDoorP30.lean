/-
  Parts of one proof, one behind the other: Math9I, HeapI, PlcI, ProjJ.
-/
import Derived.Test.YtdjglpcllcjcfaaDoorP29
import Derived.Test.YtdjglpcllcjcfaaDoorP23
import Derived.Test.YtdjglpcllcjcfaaDoorP22
import Derived.Test.YtdjglpcllcjcfaaDoorP11
import Derived.Deep.RegionHeld3
import Derived.Lib.Hide
import Derived.Test.YtdjglpcllcjcfaaDoorP15
import Derived.Test.YtdjglpcllcjcfaaDoorP26
import Derived.Test.YtdjglpcllcjcfaaDoorP7

/-! Plain facts of chapter 9's landed code: where a call goes, what it is told, what is wrong in a function, in a package, in a project. -/
namespace Go.Proofs.YtdjglpcllcjcfaaDoor
open Go.RowKit

/-- The place of the package that a call from place f names: -1 where it is far. -/
def toV (ps : List Pk) (f : Nat) (q : List UInt8) : Int := if q = nmAt ps f then (f : Int) else if q ∈ imsAt ps f then at8 ps q else -1
theorem toV_ways {ps : List Pk} {f : Nat} (hf : f < ps.length) (q : List UInt8) :
    (toV ps f q = -1 ∧ farB ps (ps.getD f pk0) q = true) ∨ ∃ t, t < ps.length ∧ toV ps f q = (t : Int) ∧ farB ps (ps.getD f pk0) q = false ∧ ofPk ps (ps.getD f pk0) q = ps.getD t pk0 ∧ (q = (ps.getD f pk0).1 ↔ t = f) := by
  unfold toV
  by_cases h1 : q = nmAt ps f
  · rw [if_pos h1]
    refine Or.inr ⟨f, hf, rfl, decide_eq_false fun h => h.1 h1, if_pos h1, fun _ => rfl, fun _ => h1⟩
  · rw [if_neg h1]
    by_cases h2 : q ∈ imsAt ps f
    · rw [if_pos h2]
      rcases at8_is ps q with ⟨e, _⟩ | ⟨t, ht, e, hn, _⟩
      · exact Or.inl ⟨e, decide_eq_true ⟨h1, Or.inr (by omega)⟩⟩
      · refine Or.inr ⟨t, ht, e, decide_eq_false fun h => ?_, ?_, fun h => absurd h h1, fun h => ?_⟩
        · rcases h.2 with h3 | h3
          · exact h3 h2
          · omega
        · unfold ofPk
          rw [if_neg (show ¬ q = (ps.getD f pk0).1 from h1), e, Int.toNat_natCast]
        · subst h; exact absurd hn.symm h1
    · rw [if_neg h2]
      exact Or.inl ⟨rfl, decide_eq_true ⟨h1, Or.inl h2⟩⟩

/-- The functions that a call at place i of package f may be of, in package t. -/
def fsTo (ps : List Pk) (f t i : Nat) : List Fn := if t = f then (ps.getD t pk0).2.2.take i else (ps.getD t pk0).2.2
theorem call9_far {ps : List Pk} {f i : Nat} {n : Nd} (h : farB ps (ps.getD f pk0) n.2.2.1 = true) : call9 ps (ps.getD f pk0) (i : Int) n = 1 := by
  unfold call9; rw [if_pos h]
theorem atV_take (fs : List Fn) (i : Nat) (s : List UInt8) : (atV (fs.take i) s = -1 ∧ (atV fs s < 0 ∨ (i : Int) ≤ atV fs s)) ∨ (0 ≤ atV (fs.take i) s ∧ atV fs s = atV (fs.take i) s ∧ atV fs s < (i : Int)) := by
  have h := atGo_append s (fs.take i) (fs.drop i) 0
  rw [List.take_append_drop, List.length_take, Nat.zero_add] at h
  have hd := at7Go_is s (fs.drop i) (min i fs.length)
  have hl : (min i fs.length) ≤ i := Nat.min_le_left _ _
  rw [List.length_drop] at hd
  unfold atV
  rcases h with ⟨a, b⟩ | ⟨a, b, c⟩
  · refine Or.inl ⟨a, ?_⟩
    rcases hd with e | ⟨j, hj, e, _⟩
    · exact Or.inl (by omega)
    · exact Or.inr (by omega)
  · exact Or.inr ⟨a, c, by omega⟩
theorem call9_ways {ps : List Pk} {f i t : Nat} {n : Nd} (hfar : farB ps (ps.getD f pk0) n.2.2.1 = false) (hof : ofPk ps (ps.getD f pk0) n.2.2.1 = ps.getD t pk0) (hiff : n.2.2.1 = (ps.getD f pk0).1 ↔ t = f) :
    (atV (fsTo ps f t i) n.2.2.2 = -1 ∧ call9 ps (ps.getD f pk0) (i : Int) n = 2) ∨ ∃ c, c < (fsTo ps f t i).length ∧ atV (fsTo ps f t i) n.2.2.2 = (c : Int) ∧
      ((((fsTo ps f t i).getD c fn0).2.1 ≠ n.2.1 ∧ call9 ps (ps.getD f pk0) (i : Int) n = 3) ∨ (((fsTo ps f t i).getD c fn0).2.1 = n.2.1 ∧ call9 ps (ps.getD f pk0) (i : Int) n = 0)) := by
  unfold call9
  rw [if_neg (by rw [hfar]; decide), hof]
  have hcase : ∀ m : List Fn, m = fsTo ps f t i → (atV m n.2.2.2 = -1 ↔ (atV (ps.getD t pk0).2.2 n.2.2.2 < 0 ∨ (n.2.2.1 = (ps.getD f pk0).1 ∧ (i : Int) ≤ atV (ps.getD t pk0).2.2 n.2.2.2))) ∧ (0 ≤ atV m n.2.2.2 → atV (ps.getD t pk0).2.2 n.2.2.2 = atV m n.2.2.2 ∧ ∀ c : Nat, c < m.length → m.getD c fn0 = (ps.getD t pk0).2.2.getD c fn0) := fun m hm => by
    unfold fsTo at hm
    by_cases htf : t = f
    · rw [if_pos htf] at hm
      subst hm
      have h := atV_take (ps.getD t pk0).2.2 i n.2.2.2
      refine ⟨⟨fun e => ?_, fun e => ?_⟩, fun e => ⟨?_, fun c hc => ?_⟩⟩
      · rcases h with ⟨_, h | h⟩ | ⟨h, _, _⟩
        · exact Or.inl h
        · exact Or.inr ⟨hiff.2 htf, h⟩
        · omega
      · rcases h with ⟨h, _⟩ | ⟨h, h2, h3⟩
        · exact h
        · rcases e with e | ⟨_, e⟩ <;> omega
      · rcases h with ⟨h, _⟩ | ⟨_, h, _⟩
        · omega
        · exact h
      · rw [List.length_take] at hc
        rw [List.getD_eq_getElem?_getD, List.getElem?_take_of_lt (by omega), ← List.getD_eq_getElem?_getD]
    · rw [if_neg htf] at hm
      subst hm
      refine ⟨⟨fun e => Or.inl (by omega), fun e => ?_⟩, fun _ => ⟨rfl, fun _ _ => rfl⟩⟩
      rcases at7_is (ps.getD t pk0).2.2 n.2.2.2 with h | ⟨j, _, h, _⟩
      · exact h
      · rcases e with e | ⟨e, _⟩
        · omega
        · exact absurd (hiff.1 e) htf
  obtain ⟨h1, h2⟩ := hcase _ rfl
  generalize fsTo ps f t i = m at h1 h2 ⊢
  rcases at7_is m n.2.2.2 with e | ⟨c, hc, e, _⟩
  · exact Or.inl ⟨e, if_pos (h1.1 e)⟩
  · obtain ⟨h3, h4⟩ := h2 (by omega)
    refine Or.inr ⟨c, hc, e, ?_⟩
    rw [if_neg (fun h => by have := h1.2 h; omega), h3, e, Int.toNat_natCast, ← h4 c hc]
    by_cases h5 : (m.getD c fn0).2.1 = n.2.1
    · exact Or.inr ⟨h5, if_neg (fun h => h h5)⟩
    · exact Or.inl ⟨h5, if_pos h5⟩
theorem fsTo_len {ps : List Pk} {f t i : Nat} (h : t = f → i ≤ (ps.getD t pk0).2.2.length) : (fsTo ps f t i).length = if t = f then i else (ps.getD t pk0).2.2.length := by
  unfold fsTo
  by_cases e : t = f
  · rw [if_pos e, if_pos e, List.length_take, Nat.min_eq_left (h e)]
  · rw [if_neg e, if_neg e]

/-! A function. -/
theorem func9_ways (ps : List Pk) (p : Pk) (i : Nat) : ((∃ n ∈ (p.2.2.getD i fn0).2.2, arg9 (p.2.2.getD i fn0) n) ∧ func9 ps p i = 3) ∨
    ((∀ n ∈ (p.2.2.getD i fn0).2.2, ¬ arg9 (p.2.2.getD i fn0) n) ∧ (((∃ n ∈ (p.2.2.getD i fn0).2.2, bad9 ps p i n) ∧ func9 ps p i = 4) ∨ ((∀ n ∈ (p.2.2.getD i fn0).2.2, ¬ bad9 ps p i n) ∧ func9 ps p i = 0))) := by
  unfold func9
  generalize p.2.2.getD i fn0 = f
  have hgo : ∀ (t : List Nd) (c : Int), ((∃ n ∈ t, arg9 f n) ∧ fnGo ps p i f t c = 3) ∨ ((∀ n ∈ t, ¬ arg9 f n) ∧ (((∃ n ∈ t, bad9 ps p i n) ∧ fnGo ps p i f t c = 4) ∨ ((∀ n ∈ t, ¬ bad9 ps p i n) ∧ fnGo ps p i f t c = c))) := by
    intro t
    induction t with
    | nil => intro c; exact Or.inr ⟨(fun n h => by cases h), Or.inr ⟨(fun n h => by cases h), rfl⟩⟩
    | cons x r ih =>
      intro c
      rw [fnGo]
      by_cases ha : arg9 f x
      · rw [if_pos ha]
        exact Or.inl ⟨⟨x, List.mem_cons_self, ha⟩, rfl⟩
      · rw [if_neg ha]
        by_cases hb : bad9 ps p i x
        · rw [if_pos hb]
          rcases ih 4 with ⟨⟨n, hn, h⟩, e⟩ | ⟨h, ⟨_, e⟩ | ⟨_, e⟩⟩
          · exact Or.inl ⟨⟨n, List.mem_cons_of_mem _ hn, h⟩, e⟩
          · exact Or.inr ⟨fun n hn => by rcases List.mem_cons.1 hn with rfl | hn; exact ha; exact h n hn, Or.inl ⟨⟨x, List.mem_cons_self, hb⟩, e⟩⟩
          · exact Or.inr ⟨fun n hn => by rcases List.mem_cons.1 hn with rfl | hn; exact ha; exact h n hn, Or.inl ⟨⟨x, List.mem_cons_self, hb⟩, e⟩⟩
        · rw [if_neg hb]
          rcases ih c with ⟨⟨n, hn, h⟩, e⟩ | ⟨h, ⟨⟨n, hn, h2⟩, e⟩ | ⟨h2, e⟩⟩
          · exact Or.inl ⟨⟨n, List.mem_cons_of_mem _ hn, h⟩, e⟩
          · exact Or.inr ⟨fun n hn => by rcases List.mem_cons.1 hn with rfl | hn; exact ha; exact h n hn, Or.inl ⟨⟨n, List.mem_cons_of_mem _ hn, h2⟩, e⟩⟩
          · exact Or.inr ⟨fun n hn => by rcases List.mem_cons.1 hn with rfl | hn; exact ha; exact h n hn, Or.inr ⟨fun n hn => by rcases List.mem_cons.1 hn with rfl | hn; exact hb; exact h2 n hn, e⟩⟩
  exact hgo f.2.2 0

/-! A package. -/
theorem miss9_plc {ps : List Pk} {i : Nat} : miss9 ps (ps.getD i pk0) ↔ (plc ps (imsAt ps i)).length < (imsAt ps i).length := by
  have hgo : ∀ ms : List (List UInt8), (∃ m ∈ ms, at8 ps m < 0) ↔ (plc ps ms).length < ms.length := by
    intro ms
    induction ms with
    | nil => exact ⟨(fun ⟨m, h, _⟩ => by cases h), (fun h => absurd h (Nat.not_lt_zero _))⟩
    | cons x r ih =>
      have hle := plc_le ps r
      by_cases hx : 0 ≤ at8 ps x
      · have e : plc ps (x :: r) = (at8 ps x).toNat :: plc ps r := by simp [plc, hx]
        rw [e, List.length_cons, List.length_cons]
        refine ⟨fun ⟨m, hm, h⟩ => ?_, fun h => ?_⟩
        · rcases List.mem_cons.1 hm with rfl | hm
          · omega
          · have := ih.1 ⟨m, hm, h⟩; omega
        · obtain ⟨m, hm, h⟩ := ih.2 (by omega)
          exact ⟨m, List.mem_cons_of_mem _ hm, h⟩
      · have e : plc ps (x :: r) = plc ps r := by simp [plc, hx]
        rw [e, List.length_cons]
        exact ⟨fun _ => by omega, fun _ => ⟨x, List.mem_cons_self, by omega⟩⟩
  exact hgo _

/-! A project. -/
/-- The places in the order that FaultOf looks at them. -/
def all9 (out : List Nat) (n : Nat) : List Nat := out ++ (List.range n).filter (fun i => decide (¬ i ∈ out))
theorem all9_succ (out : List Nat) (n : Nat) : all9 out (n + 1) = if n ∈ out then all9 out n else all9 out n ++ [n] := by
  unfold all9
  rw [List.range_succ, List.filter_append]
  by_cases h : n ∈ out
  · rw [if_pos h]; simp [h]
  · rw [if_neg h]; simp [h]
theorem all9_lt {out : List Nat} {n : Nat} (h : ∀ x ∈ out, x < n) : ∀ x ∈ all9 out n, x < n := fun x hx => by
  rcases List.mem_append.1 hx with h1 | h1
  · exact h x h1
  · exact List.mem_range.1 (List.mem_filter.1 h1).1
theorem all9_len (out : List Nat) (n : Nat) : (all9 out n).length ≤ out.length + n := by
  unfold all9
  rw [List.length_append]
  have := List.length_filter_le (fun i => decide (¬ i ∈ out)) (List.range n)
  rw [List.length_range] at this
  omega
theorem names8_range (ps : List Pk) : names8 ps = (List.range ps.length).map (nmAt ps) := by
  refine List.ext_getElem (by simp [names8]) fun i h1 h2 => ?_
  have hi : i < ps.length := by simpa [names8] using h1
  rw [nmAt_el hi]
  simp
theorem all9_names {ps : List Pk} (hpj : projB ps = true) {out : List Nat} (ho : nmsAt ps out = order8 ps) (hol : ∀ x ∈ out, x < ps.length) : nmsAt ps (all9 out ps.length) = ord9 ps := by
  have hn : (names8 ps).Nodup := (projB_parts hpj).1.nodup
  unfold all9 ord9 nmsAt
  rw [List.map_append]
  have ho2 : List.map (nmAt ps) out = order8 ps := ho
  rw [ho2]
  refine congrArg _ ?_
  rw [names8_range, List.filter_map]
  refine congrArg _ (List.filter_congr fun i hi => ?_)
  rw [← ho2]
  exact decide_eq_decide.2 (not_congr (nm_in hn hol (List.mem_range.1 hi)).symm)
end Go.Proofs.YtdjglpcllcjcfaaDoor

/-! The contracts of the landed heap of places: its methods. -/
namespace Go.Proofs.YtdjglpcllcjcfaaDoor
open Go.RowKit

def natV (l : List Nat) : List Value := l.map (fun x : Nat => Value.int .i64 (x : Int))
theorem natV_len (l : List Nat) : (natV l).length = l.length := by simp [natV]
theorem natV_at (l : List Nat) (j : Nat) (h : j < l.length) : (natV l)[j]? = some (.int .i64 ((l.getD j 0 : Nat) : Int)) := by
  simp [natV, List.getD, List.getElem?_eq_getElem h]
theorem natV_snoc (l : List Nat) (x : Nat) : natV l ++ [.int .i64 (x : Int)] = natV (l ++ [x]) := by simp [natV]
theorem natV_set (l : List Nat) (i x : Nat) : (natV l).set i (.int .i64 (x : Int)) = natV (l.set i x) := by simp [natV, List.map_set]
theorem natV_take (l : List Nat) (m : Nat) : (natV l).take m = natV (l.take m) := by simp [natV, List.map_take]
theorem nat_cell {w : World} {B g cp n : Nat} {l : List Nat} (h : w.ownsRow B 3 1 (.slice (some ⟨g, 0, none⟩) n cp) n (natV l)) (hn : l.length = n) (j : Nat) (hj : j < n) : w.cell? ⟨g, j, none⟩ = some (.int .i64 ((l.getD j 0 : Nat) : Int)) := by
  rw [h.cellAt j (by omega), natV_at l j (by omega)]


end Go.Proofs.YtdjglpcllcjcfaaDoor

/-! The contracts of the landed code of chapter 8: places of packages, names at places, ProjectOk; slices.Contains. -/
namespace Go.Proofs.YtdjglpcllcjcfaaDoor
open Go.RowKit

/-- Numbers that can be read. -/
def NatsIn (w : World) (a : Option Addr) (n : Nat) (l : List Nat) : Prop := l.length = n ∧ ∀ j, j < n → ∃ b off, a = some ⟨b, off, none⟩ ∧ b < w.heap.size ∧ w.cell? ⟨b, off + j, none⟩ = some (.int .i64 ((l.getD j 0 : Nat) : Int))
theorem NatsIn.below {w w' : World} {a : Option Addr} {n : Nat} {l : List Nat} (h : NatsIn w a n l) (hb : Below w.heap.size w w') : NatsIn w' a n l :=
  ⟨h.1, fun j hj => by
    obtain ⟨b, off, e, hlt, c⟩ := h.2 j hj
    exact ⟨b, off, e, Nat.lt_of_lt_of_le hlt hb.size, (hb.cell (p := ⟨b, off + j, none⟩) hlt).trans c⟩⟩
theorem own_nats {w : World} {B n : Nat} {v : Value} {l : List Nat} (h : w.ownsRow B 3 1 v n (natV l)) (hn : l.length = n) : ∃ a c, v = .slice a n c ∧ NatsIn w a n l := by
  rcases own_forms h with ⟨rfl, rfl, _⟩ | ⟨g, c, rfl⟩
  · exact ⟨none, 0, rfl, hn, fun j hj => by omega⟩
  · exact ⟨_, c, rfl, hn, fun j hj => ⟨g, 0, rfl, (h.lt g rfl).2, by rw [Nat.zero_add]; exact nat_cell h hn j hj⟩⟩
theorem getD_mem_n {l : List Nat} {k : Nat} (hk : k < l.length) : l.getD k 0 ∈ l := by simp [List.getD, hk]
theorem not_mem_n {l : List Nat} {x : Nat} (h : ∀ i, i < l.length → l.getD i 0 ≠ x) : ¬ x ∈ l := fun hm => by
  obtain ⟨i, hi, e⟩ := List.mem_iff_getElem.1 hm
  exact h i hi (by simp [List.getD, hi, e])
theorem not_mem_s {l : List (List UInt8)} {x : List UInt8} (h : ∀ i, i < l.length → l.getD i [] ≠ x) : ¬ x ∈ l := fun hm => by
  obtain ⟨i, hi, e⟩ := List.mem_iff_getElem.1 hm
  exact h i hi (by simp [List.getD, hi, e])


set_option maxHeartbeats 1000000 in
set_option maxRecDepth 100000 in
theorem indexStr (a : Option Addr) (n c : Nat) (l : List (List UInt8)) (x : List UInt8) (w : World) (hin : TextsIn w a n l) (hn : n ≤ 1048576) :
    Calls Tryd.prog 106 #[.slice a n c, .string ⟨x.toArray⟩] w fun e w' => ∃ y : Int, e = .returned (.int .i64 y) ∧ Hid (0 ≤ y ↔ x ∈ l) ∧ w' = w := by
  obtain rfl : l.length = n := hin.1
  have HI : Hid (TextsIn w a l.length l) := hin
  clear hin
  go_enter Tryd.func106, Tryd.ntmps106
  go_wp2
  go_loopw [8] (fun iv wr => ∃ k : Nat, iv = .int .i64 (k : Int) ∧ k ≤ l.length ∧ Hid (∀ i, i < k → l.getD i [] ≠ x) ∧ wr = w) (fun iv _ => l.length - (intOf iv).toNat)
  case atStart => exact ⟨0, rfl, by omega, (fun i hi => by omega), rfl⟩
  case round =>
    obtain ⟨k, rfl, hk, HA, hwr⟩ := hrel
    obtain rfl := hwr.symm
    by_cases hlt : (k : Int) < (l.length : Int)
    · have hk2 : k < l.length := by omega
      obtain ⟨b, off, rfl, hbl, c0⟩ := HI.out.2 k hk2
      have hmem : l.getD k [] ∈ l := by simp [List.getD, hk2]
      obtain ⟨y, hy⟩ : ∃ y, l.getD k [] = y := ⟨_, rfl⟩
      rw [hy] at c0 hmem
      by_cases hxy : x = y
      · subst hxy
        have HM : Hid (0 ≤ (k : Int) ↔ x ∈ l) := ⟨fun _ => hmem, fun _ => by omega⟩
        have hself : (x == x) = true := by simp
        clear HA hy hmem
        go_wp2
        go_ret
        exact ⟨_, rfl, HM, rfl⟩
      · have HA2 : Hid (∀ i, i < k + 1 → l.getD i [] ≠ x) := fun i hi => by
          rcases Nat.lt_or_ge i k with h | h
          · exact HA.out i h
          · obtain rfl : i = k := by omega
            rw [hy]; exact fun e => hxy e.symm
        have hne : (x == y) = false := beq_eq_false_iff_ne.2 hxy
        clear HA hy hmem
        go_wp2
        go_roundw
        case rel => exact ⟨k + 1, by go_num, by omega, HA2, trivial⟩
        case measure => simp [intOf]; omega
    · have HM : Hid (0 ≤ (-1 : Int) ↔ x ∈ l) := ⟨fun h => by omega, fun h => absurd h (not_mem_s (fun i hi => HA.out i (by omega)))⟩
      go_wp2
      go_ret
      exact ⟨_, rfl, HM, rfl⟩
theorem containsStr (a : Option Addr) (n c : Nat) (l : List (List UInt8)) (x : List UInt8) (w : World) (hin : TextsIn w a n l) (hn : n ≤ 1048576) :
    Calls Tryd.prog 95 #[.slice a n c, .string ⟨x.toArray⟩] w fun e w' => e = .returned (.bool (decide (x ∈ l))) ∧ w' = w := by
  have hI := indexStr a n c l x w hin hn
  go_enter Tryd.func95, Tryd.ntmps95
  go_wp2_with fail
  refine hI.mono ?_
  rintro e w1 ⟨y, rfl, HM, hw⟩
  obtain rfl := hw.symm
  clear hI
  go_wp2
  go_ret
  exact ⟨by rw [decide_eq_decide.2 HM.out.symm]; rfl, rfl⟩

set_option maxHeartbeats 2000000 in
set_option maxRecDepth 100000 in
theorem implPlacePk (a : Option Addr) (len cap : Nat) (ps : List Pk) (s : List UInt8) (w : World) (hin : PkgsIn w a len ps) (hlen : len ≤ 1048576) :
    Calls Tryd.prog 77 #[.slice a len cap, .string ⟨s.toArray⟩] w fun e w' => e = .returned (.int .i64 (at8 ps s)) ∧ Below w.heap.size w w' := by
  obtain rfl : ps.length = len := hin.1
  have HI : Hid (PkgsIn w a ps.length ps) := hin
  clear hin
  go_enter Tryd.func77, Tryd.ntmps77
  go_wp2
  go_loopw [9] (fun iv wr => ∃ j : Nat, iv = .int .i64 (j : Int) ∧ j ≤ ps.length ∧ Hid (at8 ps s = at8Go s (ps.drop j) j) ∧ Hid (Below w.heap.size w wr)) (fun iv _ => ps.length - (intOf iv).toNat)
  case atStart => exact ⟨0, rfl, by omega, (rfl : at8 ps s = at8Go s (ps.drop 0) 0), Below.refl _ _⟩
  case round =>
    obtain ⟨j, rfl, hj, HA, HB⟩ := hrel
    by_cases hlt : (j : Int) < (ps.length : Int)
    · obtain ⟨b, off, rfl, hbl, c0, ia, il, ic, fa, fl, fc, c1, c2, _, _⟩ := (HI.out.below HB.out).2 j (by omega)
      have hg := at8Go_drop (ps := ps) (k := j) (by omega) s
      obtain ⟨x, hx⟩ : ∃ x, (ps.getD j pk0).1 = x := ⟨_, rfl⟩
      rw [hx] at c0 hg
      obtain ⟨bx, hbx⟩ := Box3.new wr (.string ⟨x.toArray⟩) (.slice ia il ic) (.slice fa fl fc) 33
      obtain ⟨X, hX⟩ : ∃ X, wr.alloc (.cells #[.string ⟨x.toArray⟩, .slice ia il ic, .slice fa fl fc] 33) = X := ⟨_, rfl⟩
      rw [hX] at bx hbx
      have d0 := bx.c0
      have d1 := bx.c1
      have d2 := bx.c2
      have HB2 : Hid (Below w.heap.size w X) := HB.out.trans (hbx.mono HB.out.size)
      clear bx hbx
      by_cases hxs : x = s
      · subst hxs
        have HR : Hid (at8 ps x = (j : Int)) := by exact (by rw [HA.out, hg, if_pos rfl] : at8 ps x = (j : Int))
        have hself : (x == x) = true := by simp
        clear HA hg hx
        go_wp2
        go_ret
        exact ⟨by rw [HR.out]; rfl, HB2.out⟩
      · have HR : Hid (at8 ps s = at8Go s (ps.drop (j + 1)) (j + 1)) := by exact (by rw [HA.out, hg, if_neg hxs] : at8 ps s = at8Go s (ps.drop (j + 1)) (j + 1))
        have hne : (x == s) = false := by rw [beq_eq_false_iff_ne]; exact hxs
        clear HA hg hx
        go_wp2
        go_roundw
        case rel => exact ⟨j + 1, by go_num, by omega, HR, HB2⟩
        case measure => simp [intOf]; omega
    · have HR : Hid (at8 ps s = -1) := by exact (by rw [HA.out, List.drop_of_length_le (by omega)]; rfl : at8 ps s = -1)
      go_wp2
      go_ret
      exact ⟨by rw [HR.out]; rfl, HB.out⟩


end Go.Proofs.YtdjglpcllcjcfaaDoor

/-! The contracts of the landed code of chapter 8: ProjectOk, a package of a project by its name, names at places. -/
namespace Go.Proofs.YtdjglpcllcjcfaaDoor
open Go.RowKit

/-- What ProjectOk holds ahead of place k. -/
structure PjSt (ps : List Pk) (k : Nat) (z : List UInt8) : Prop where
  ok : ∀ i, i < k → pj8 ps i
  last : (k = 0 ∧ z = []) ∨ (0 < k ∧ z = (ps.getD (k - 1) pk0).1)
theorem PjSt.pk {ps : List Pk} {k : Nat} (hk : k < ps.length) (h : pkgB (ps.getD k pk0) = false) : projB ps = false := projB_no hk (fun e => by have := e.1; rw [h] at this; cases this)
theorem PjSt.low {ps : List Pk} {k : Nat} {z : List UInt8} (s : PjSt ps k z) (hk : k < ps.length) (hp : pkgB (ps.getD k pk0) = true) (h : leT (ps.getD k pk0).1 z = true) : projB ps = false := by
  refine projB_no hk (fun e => ?_)
  rcases s.last with ⟨_, rfl⟩ | ⟨h0, rfl⟩
  · rw [leT_nil (pkgB_parts hp).1] at h; cases h
  · rw [e.2 h0] at h; cases h
theorem PjSt.step {ps : List Pk} {k : Nat} {z : List UInt8} (s : PjSt ps k z) (hp : pkgB (ps.getD k pk0) = true) (h : leT (ps.getD k pk0).1 z = false) : PjSt ps (k + 1) (ps.getD k pk0).1 := by
  refine ⟨fun i hi => ?_, Or.inr ⟨by omega, by simp⟩⟩
  rcases Nat.lt_or_ge i k with hl | hl
  · exact s.ok i hl
  · obtain rfl : i = k := by omega
    refine ⟨hp, fun h0 => ?_⟩
    rcases s.last with ⟨e, _⟩ | ⟨_, e⟩
    · omega
    · rw [← e]; exact h

set_option maxHeartbeats 4000000 in
set_option maxRecDepth 100000 in
theorem implProjectOk (a : Option Addr) (len cap : Nat) (ps : List Pk) (w : World) (h : PkgsOk w a len cap ps) :
    Calls Tryd.prog 76 #[.slice a len cap] w fun e w' => e = .returned (.bool (projB ps)) ∧ Below w.heap.size w w' := by
  obtain rfl : ps.length = len := h.hlen
  have hsm := h.small
  have HI : Hid (PkgsOk w a ps.length cap ps) := h
  clear h
  by_cases h1 : (ps.length : Int) < 1
  · have HR : Hid (projB ps = false) := by exact (by unfold projB; rw [inB_no _ _ _ (Or.inl h1), Bool.and_false] : projB ps = false)
    go_enter Tryd.func76, Tryd.ntmps76
    go_wp2
    go_ret
    exact ⟨by rw [HR.out]; rfl, Below.refl _ _⟩
  by_cases h8 : 8 < (ps.length : Int)
  · have HR : Hid (projB ps = false) := by exact (by unfold projB; rw [inB_no _ _ _ (Or.inr h8), Bool.and_false] : projB ps = false)
    go_enter Tryd.func76, Tryd.ntmps76
    go_wp2
    go_ret
    exact ⟨by rw [HR.out]; rfl, Below.refl _ _⟩
  go_enter Tryd.func76, Tryd.ntmps76
  go_wp2
  go_loopw [3, 16] (fun lv iv wr => ∃ (k : Nat) (z : List UInt8), lv = .string ⟨z.toArray⟩ ∧ iv = .int .i64 (k : Int) ∧ k ≤ ps.length ∧ Hid (PjSt ps k z) ∧ Hid (Below w.heap.size w wr)) (fun _ iv _ => ps.length - (intOf iv).toNat)
  case atStart => exact ⟨0, [], rfl, rfl, by omega, (⟨fun i hi => by omega, Or.inl ⟨rfl, rfl⟩⟩ : PjSt ps 0 []), Below.refl _ _⟩
  case round =>
    obtain ⟨k, z, rfl, rfl, hk, HZ, HB⟩ := hrel
    by_cases hlt : (k : Int) < (ps.length : Int)
    · have hk2 : k < ps.length := by omega
      obtain ⟨b, off, rfl, hbl, c0, ia, il, ic, fa, fl, fc, c1, c2, hpk⟩ := (HI.out.below HB.out).each k hk2
      obtain ⟨p, hp⟩ : ∃ p, ps.getD k pk0 = p := ⟨_, rfl⟩
      have HNo : Hid (pkgB p = false → projB ps = false) := fun e => PjSt.pk hk2 (by rw [hp]; exact e)
      have HLow : Hid (pkgB p = true → leT p.1 z = true → projB ps = false) := fun e1 e2 => HZ.out.low hk2 (by rw [hp]; exact e1) (by rw [hp]; exact e2)
      have HStep : Hid (pkgB p = true → leT p.1 z = false → PjSt ps (k + 1) p.1) := fun e1 e2 => by
        have := HZ.out.step (by rw [hp]; exact e1) (by rw [hp]; exact e2)
        rw [hp] at this
        exact this
      rw [hp] at c0 hpk
      clear hp HZ
      obtain ⟨x, ims, fs⟩ := p
      simp only at c0 hpk
      obtain ⟨bx, hbx⟩ := Box3.new wr (.string ⟨x.toArray⟩) (.slice ia il ic) (.slice fa fl fc) 33
      obtain ⟨X, hX⟩ : ∃ X, wr.alloc (.cells #[.string ⟨x.toArray⟩, .slice ia il ic, .slice fa fl fc] 33) = X := ⟨_, rfl⟩
      obtain ⟨E, hE⟩ : ∃ E, wr.heap.size = E := ⟨_, rfl⟩
      rw [hX] at bx hbx
      rw [hE] at bx
      have d0 := bx.c0
      have d1 := bx.c1
      have d2 := bx.c2
      have HBX : Hid (Box3 X E (.string ⟨x.toArray⟩) (.slice ia il ic) (.slice fa fl fc)) := bx
      have HC : Hid (_) := implPackageOk x ia il ic fa fl fc ims fs X (hpk.below hbx)
      have HB2 : Hid (Below w.heap.size w X) := HB.out.trans (hbx.mono HB.out.size)
      clear bx hbx hpk HB
      rcases hpb : pkgB (x, ims, fs) with _ | _
      · have HR : Hid (projB ps = false) := HNo.out hpb
        rw [hpb] at HC
        clear hpb
        go_wp2_with (go_at_call 43; refine Calls.mono HC.out ?_; rintro e w1 ⟨rfl, hb1⟩; have HB3 : Hid (Below w.heap.size w w1) := HB2.out.trans (hb1.mono HB2.out.size); clear hb1)
        go_ret
        exact ⟨by rw [HR.out]; rfl, HB3.out⟩
      · rcases hle : leT x z with _ | _
        · have HS2 : Hid (PjSt ps (k + 1) x) := HStep.out hpb hle
          rw [hpb] at HC
          unfold leT at hle
          clear hpb HNo HLow HStep
          go_wp2_with (go_at_call 43; refine Calls.mono HC.out ?_; rintro e w1 ⟨rfl, hb1⟩; have HB3 : Hid (Below w.heap.size w w1) := HB2.out.trans (hb1.mono HB2.out.size); have q0 := (HBX.out.below hb1).c0; clear hb1)
          go_roundw
          case rel => exact ⟨k + 1, x, rfl, by go_num, by omega, HS2, HB3⟩
          case measure => simp [intOf]; omega
        · have HR : Hid (projB ps = false) := HLow.out hpb hle
          rw [hpb] at HC
          unfold leT at hle
          clear hpb HNo HLow HStep
          go_wp2_with (go_at_call 43; refine Calls.mono HC.out ?_; rintro e w1 ⟨rfl, hb1⟩; have HB3 : Hid (Below w.heap.size w w1) := HB2.out.trans (hb1.mono HB2.out.size); have q0 := (HBX.out.below hb1).c0; clear hb1)
          go_ret
          exact ⟨by rw [HR.out]; rfl, HB3.out⟩
    · obtain rfl : k = ps.length := by omega
      have HR : Hid (projB ps = true) := by exact (by rw [projB_all HZ.out.ok]; unfold inB; exact decide_eq_true (by omega) : projB ps = true)
      go_wp2
      go_ret
      exact ⟨by rw [HR.out]; rfl, HB.out⟩

theorem implPlaceIn (a : Option Addr) (len cap : Nat) (ps : List Pk) (s : List UInt8) (w : World) (h : PkgsOk w a len cap ps) :
    Calls Tryd.prog 54 #[.slice a len cap, .string ⟨s.toArray⟩] w fun e w' => e = .returned (.int .i64 (if projB ps = true then at8 ps s else -1)) ∧ Below w.heap.size w w' := by
  have HP : Hid (_) := implProjectOk a len cap ps w h
  have HI : Hid (PkgsOk w a len cap ps) := h
  clear h
  rcases hp : projB ps with _ | _
  · rw [hp] at HP
    go_enter Tryd.func54, Tryd.ntmps54
    go_wp2_with (go_at_call 76; refine Calls.mono HP.out ?_; rintro e w1 ⟨rfl, hb1⟩)
    go_ret
    exact ⟨by simp, hb1⟩
  · rw [hp] at HP
    go_enter Tryd.func54, Tryd.ntmps54
    go_wp2_with fail
    refine Calls.mono HP.out ?_
    rintro e w1 ⟨rfl, hb1⟩
    have HI1 : Hid (PkgsOk w1 a len cap ps) := HI.out.below hb1
    go_wp2_with fail
    refine (implPlacePk a len cap ps s w1 HI1.out.in HI1.out.small).mono ?_
    rintro e w2 ⟨rfl, hb2⟩
    have HB : Hid (Below w.heap.size w w2) := hb1.trans (hb2.mono hb1.size)
    clear hb1 hb2
    go_wp2
    go_ret
    exact ⟨by simp, HB.out⟩


end Go.Proofs.YtdjglpcllcjcfaaDoor
