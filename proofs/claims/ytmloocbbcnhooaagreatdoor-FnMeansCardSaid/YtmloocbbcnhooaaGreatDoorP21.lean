/-
  Parts of one proof, one behind the other: Math9I, ProjJ, CallI, ErrJ.
-/
import Derived.Test.YtmloocbbcnhooaaGreatDoorP20
import Derived.Test.YtmloocbbcnhooaaGreatDoorP5
import Derived.Test.YtmloocbbcnhooaaGreatDoorP16
import Derived.Test.YtmloocbbcnhooaaGreatDoorP17
import Derived.Test.YtmloocbbcnhooaaGreatDoorP11
import Derived.Test.YtmloocbbcnhooaaGreatDoorP15
import Derived.Deep.RegionWith
import Derived.Deep.Quiet
import Derived.Test.YtmloocbbcnhooaaGreatDoorP10

/-! Plain facts of chapter 9's landed code: where a call goes, what it is told, what is wrong in a function, in a package, in a project. -/
namespace Go.Proofs.YtmloocbbcnhooaaGreatDoor
open Go.RowKit

/-- The place of the package that a call from place f names: -1 where it is far. -/
def toV (ps : List Pk) (f : Nat) (q : List UInt8) : Int := if q = nmAt ps f then (f : Int) else if q ∈ imsAt ps f then at8 ps q else -1
theorem toV_ways {ps : List Pk} {f : Nat} (hf : f < ps.length) (q : List UInt8) :
    (toV ps f q = -1 ∧ farB ps (ps.getD f pk0) q = true) ∨ ∃ t, t < ps.length ∧ toV ps f q = (t : Int) ∧ farB ps (ps.getD f pk0) q = false ∧ ofPk ps (ps.getD f pk0) q = ps.getD t pk0 ∧ (q = (ps.getD f pk0).1 ↔ t = f) := by
  unfold toV
  by_cases h1 : q = nmAt ps f
  · rw [if_pos h1]
    refine Or.inr ⟨f, hf, rfl, decide_eq_false fun h => h.1 h1, if_pos h1, fun _ => rfl, fun _ => h1⟩
  · rw [if_neg h1]
    by_cases h2 : q ∈ imsAt ps f
    · rw [if_pos h2]
      rcases at8_is ps q with ⟨e, _⟩ | ⟨t, ht, e, hn, _⟩
      · exact Or.inl ⟨e, decide_eq_true ⟨h1, Or.inr (by omega)⟩⟩
      · refine Or.inr ⟨t, ht, e, decide_eq_false fun h => ?_, ?_, fun h => absurd h h1, fun h => ?_⟩
        · rcases h.2 with h3 | h3
          · exact h3 h2
          · omega
        · unfold ofPk
          rw [if_neg (show ¬ q = (ps.getD f pk0).1 from h1), e, Int.toNat_natCast]
        · subst h; exact absurd hn.symm h1
    · rw [if_neg h2]
      exact Or.inl ⟨rfl, decide_eq_true ⟨h1, Or.inl h2⟩⟩

/-- The functions that a call at place i of package f may be of, in package t. -/
def fsTo (ps : List Pk) (f t i : Nat) : List Fn := if t = f then (ps.getD t pk0).2.2.take i else (ps.getD t pk0).2.2
theorem call9_far {ps : List Pk} {f i : Nat} {n : Nd} (h : farB ps (ps.getD f pk0) n.2.2.1 = true) : call9 ps (ps.getD f pk0) (i : Int) n = 1 := by
  unfold call9; rw [if_pos h]
theorem atV_take (fs : List Fn) (i : Nat) (s : List UInt8) : (atV (fs.take i) s = -1 ∧ (atV fs s < 0 ∨ (i : Int) ≤ atV fs s)) ∨ (0 ≤ atV (fs.take i) s ∧ atV fs s = atV (fs.take i) s ∧ atV fs s < (i : Int)) := by
  have h := atGo_append s (fs.take i) (fs.drop i) 0
  rw [List.take_append_drop, List.length_take, Nat.zero_add] at h
  have hd := at7Go_is s (fs.drop i) (min i fs.length)
  have hl : (min i fs.length) ≤ i := Nat.min_le_left _ _
  rw [List.length_drop] at hd
  unfold atV
  rcases h with ⟨a, b⟩ | ⟨a, b, c⟩
  · refine Or.inl ⟨a, ?_⟩
    rcases hd with e | ⟨j, hj, e, _⟩
    · exact Or.inl (by omega)
    · exact Or.inr (by omega)
  · exact Or.inr ⟨a, c, by omega⟩
theorem call9_ways {ps : List Pk} {f i t : Nat} {n : Nd} (hfar : farB ps (ps.getD f pk0) n.2.2.1 = false) (hof : ofPk ps (ps.getD f pk0) n.2.2.1 = ps.getD t pk0) (hiff : n.2.2.1 = (ps.getD f pk0).1 ↔ t = f) :
    (atV (fsTo ps f t i) n.2.2.2 = -1 ∧ call9 ps (ps.getD f pk0) (i : Int) n = 2) ∨ ∃ c, c < (fsTo ps f t i).length ∧ atV (fsTo ps f t i) n.2.2.2 = (c : Int) ∧
      ((((fsTo ps f t i).getD c fn0).2.1 ≠ n.2.1 ∧ call9 ps (ps.getD f pk0) (i : Int) n = 3) ∨ (((fsTo ps f t i).getD c fn0).2.1 = n.2.1 ∧ call9 ps (ps.getD f pk0) (i : Int) n = 0)) := by
  unfold call9
  rw [if_neg (by rw [hfar]; decide), hof]
  have hcase : ∀ m : List Fn, m = fsTo ps f t i → (atV m n.2.2.2 = -1 ↔ (atV (ps.getD t pk0).2.2 n.2.2.2 < 0 ∨ (n.2.2.1 = (ps.getD f pk0).1 ∧ (i : Int) ≤ atV (ps.getD t pk0).2.2 n.2.2.2))) ∧ (0 ≤ atV m n.2.2.2 → atV (ps.getD t pk0).2.2 n.2.2.2 = atV m n.2.2.2 ∧ ∀ c : Nat, c < m.length → m.getD c fn0 = (ps.getD t pk0).2.2.getD c fn0) := fun m hm => by
    unfold fsTo at hm
    by_cases htf : t = f
    · rw [if_pos htf] at hm
      subst hm
      have h := atV_take (ps.getD t pk0).2.2 i n.2.2.2
      refine ⟨⟨fun e => ?_, fun e => ?_⟩, fun e => ⟨?_, fun c hc => ?_⟩⟩
      · rcases h with ⟨_, h | h⟩ | ⟨h, _, _⟩
        · exact Or.inl h
        · exact Or.inr ⟨hiff.2 htf, h⟩
        · omega
      · rcases h with ⟨h, _⟩ | ⟨h, h2, h3⟩
        · exact h
        · rcases e with e | ⟨_, e⟩ <;> omega
      · rcases h with ⟨h, _⟩ | ⟨_, h, _⟩
        · omega
        · exact h
      · rw [List.length_take] at hc
        rw [List.getD_eq_getElem?_getD, List.getElem?_take_of_lt (by omega), ← List.getD_eq_getElem?_getD]
    · rw [if_neg htf] at hm
      subst hm
      refine ⟨⟨fun e => Or.inl (by omega), fun e => ?_⟩, fun _ => ⟨rfl, fun _ _ => rfl⟩⟩
      rcases at7_is (ps.getD t pk0).2.2 n.2.2.2 with h | ⟨j, _, h, _⟩
      · exact h
      · rcases e with e | ⟨e, _⟩
        · omega
        · exact absurd (hiff.1 e) htf
  obtain ⟨h1, h2⟩ := hcase _ rfl
  generalize fsTo ps f t i = m at h1 h2 ⊢
  rcases at7_is m n.2.2.2 with e | ⟨c, hc, e, _⟩
  · exact Or.inl ⟨e, if_pos (h1.1 e)⟩
  · obtain ⟨h3, h4⟩ := h2 (by omega)
    refine Or.inr ⟨c, hc, e, ?_⟩
    rw [if_neg (fun h => by have := h1.2 h; omega), h3, e, Int.toNat_natCast, ← h4 c hc]
    by_cases h5 : (m.getD c fn0).2.1 = n.2.1
    · exact Or.inr ⟨h5, if_neg (fun h => h h5)⟩
    · exact Or.inl ⟨h5, if_pos h5⟩
theorem fsTo_len {ps : List Pk} {f t i : Nat} (h : t = f → i ≤ (ps.getD t pk0).2.2.length) : (fsTo ps f t i).length = if t = f then i else (ps.getD t pk0).2.2.length := by
  unfold fsTo
  by_cases e : t = f
  · rw [if_pos e, if_pos e, List.length_take, Nat.min_eq_left (h e)]
  · rw [if_neg e, if_neg e]

/-! A function. -/
theorem func9_ways (ps : List Pk) (p : Pk) (i : Nat) : ((∃ n ∈ (p.2.2.getD i fn0).2.2, arg9 (p.2.2.getD i fn0) n) ∧ func9 ps p i = 3) ∨
    ((∀ n ∈ (p.2.2.getD i fn0).2.2, ¬ arg9 (p.2.2.getD i fn0) n) ∧ (((∃ n ∈ (p.2.2.getD i fn0).2.2, bad9 ps p i n) ∧ func9 ps p i = 4) ∨ ((∀ n ∈ (p.2.2.getD i fn0).2.2, ¬ bad9 ps p i n) ∧ func9 ps p i = 0))) := by
  unfold func9
  generalize p.2.2.getD i fn0 = f
  have hgo : ∀ (t : List Nd) (c : Int), ((∃ n ∈ t, arg9 f n) ∧ fnGo ps p i f t c = 3) ∨ ((∀ n ∈ t, ¬ arg9 f n) ∧ (((∃ n ∈ t, bad9 ps p i n) ∧ fnGo ps p i f t c = 4) ∨ ((∀ n ∈ t, ¬ bad9 ps p i n) ∧ fnGo ps p i f t c = c))) := by
    intro t
    induction t with
    | nil => intro c; exact Or.inr ⟨(fun n h => by cases h), Or.inr ⟨(fun n h => by cases h), rfl⟩⟩
    | cons x r ih =>
      intro c
      rw [fnGo]
      by_cases ha : arg9 f x
      · rw [if_pos ha]
        exact Or.inl ⟨⟨x, List.mem_cons_self, ha⟩, rfl⟩
      · rw [if_neg ha]
        by_cases hb : bad9 ps p i x
        · rw [if_pos hb]
          rcases ih 4 with ⟨⟨n, hn, h⟩, e⟩ | ⟨h, ⟨_, e⟩ | ⟨_, e⟩⟩
          · exact Or.inl ⟨⟨n, List.mem_cons_of_mem _ hn, h⟩, e⟩
          · exact Or.inr ⟨fun n hn => by rcases List.mem_cons.1 hn with rfl | hn; exact ha; exact h n hn, Or.inl ⟨⟨x, List.mem_cons_self, hb⟩, e⟩⟩
          · exact Or.inr ⟨fun n hn => by rcases List.mem_cons.1 hn with rfl | hn; exact ha; exact h n hn, Or.inl ⟨⟨x, List.mem_cons_self, hb⟩, e⟩⟩
        · rw [if_neg hb]
          rcases ih c with ⟨⟨n, hn, h⟩, e⟩ | ⟨h, ⟨⟨n, hn, h2⟩, e⟩ | ⟨h2, e⟩⟩
          · exact Or.inl ⟨⟨n, List.mem_cons_of_mem _ hn, h⟩, e⟩
          · exact Or.inr ⟨fun n hn => by rcases List.mem_cons.1 hn with rfl | hn; exact ha; exact h n hn, Or.inl ⟨⟨n, List.mem_cons_of_mem _ hn, h2⟩, e⟩⟩
          · exact Or.inr ⟨fun n hn => by rcases List.mem_cons.1 hn with rfl | hn; exact ha; exact h n hn, Or.inr ⟨fun n hn => by rcases List.mem_cons.1 hn with rfl | hn; exact hb; exact h2 n hn, e⟩⟩
  exact hgo f.2.2 0

/-! A package. -/
theorem miss9_plc {ps : List Pk} {i : Nat} : miss9 ps (ps.getD i pk0) ↔ (plc ps (imsAt ps i)).length < (imsAt ps i).length := by
  have hgo : ∀ ms : List (List UInt8), (∃ m ∈ ms, at8 ps m < 0) ↔ (plc ps ms).length < ms.length := by
    intro ms
    induction ms with
    | nil => exact ⟨(fun ⟨m, h, _⟩ => by cases h), (fun h => absurd h (Nat.not_lt_zero _))⟩
    | cons x r ih =>
      have hle := plc_le ps r
      by_cases hx : 0 ≤ at8 ps x
      · have e : plc ps (x :: r) = (at8 ps x).toNat :: plc ps r := by simp [plc, hx]
        rw [e, List.length_cons, List.length_cons]
        refine ⟨fun ⟨m, hm, h⟩ => ?_, fun h => ?_⟩
        · rcases List.mem_cons.1 hm with rfl | hm
          · omega
          · have := ih.1 ⟨m, hm, h⟩; omega
        · obtain ⟨m, hm, h⟩ := ih.2 (by omega)
          exact ⟨m, List.mem_cons_of_mem _ hm, h⟩
      · have e : plc ps (x :: r) = plc ps r := by simp [plc, hx]
        rw [e, List.length_cons]
        exact ⟨fun _ => by omega, fun _ => ⟨x, List.mem_cons_self, by omega⟩⟩
  exact hgo _

/-! A project. -/
/-- The places in the order that FaultOf looks at them. -/
def all9 (out : List Nat) (n : Nat) : List Nat := out ++ (List.range n).filter (fun i => decide (¬ i ∈ out))
theorem all9_succ (out : List Nat) (n : Nat) : all9 out (n + 1) = if n ∈ out then all9 out n else all9 out n ++ [n] := by
  unfold all9
  rw [List.range_succ, List.filter_append]
  by_cases h : n ∈ out
  · rw [if_pos h]; simp [h]
  · rw [if_neg h]; simp [h]
theorem all9_lt {out : List Nat} {n : Nat} (h : ∀ x ∈ out, x < n) : ∀ x ∈ all9 out n, x < n := fun x hx => by
  rcases List.mem_append.1 hx with h1 | h1
  · exact h x h1
  · exact List.mem_range.1 (List.mem_filter.1 h1).1
theorem all9_len (out : List Nat) (n : Nat) : (all9 out n).length ≤ out.length + n := by
  unfold all9
  rw [List.length_append]
  have := List.length_filter_le (fun i => decide (¬ i ∈ out)) (List.range n)
  rw [List.length_range] at this
  omega
theorem names8_range (ps : List Pk) : names8 ps = (List.range ps.length).map (nmAt ps) := by
  refine List.ext_getElem (by simp [names8]) fun i h1 h2 => ?_
  have hi : i < ps.length := by simpa [names8] using h1
  rw [nmAt_el hi]
  simp
theorem all9_names {ps : List Pk} (hpj : projB ps = true) {out : List Nat} (ho : nmsAt ps out = order8 ps) (hol : ∀ x ∈ out, x < ps.length) : nmsAt ps (all9 out ps.length) = ord9 ps := by
  have hn : (names8 ps).Nodup := (projB_parts hpj).1.nodup
  unfold all9 ord9 nmsAt
  rw [List.map_append]
  have ho2 : List.map (nmAt ps) out = order8 ps := ho
  rw [ho2]
  refine congrArg _ ?_
  rw [names8_range, List.filter_map]
  refine congrArg _ (List.filter_congr fun i hi => ?_)
  rw [← ho2]
  exact decide_eq_decide.2 (not_congr (nm_in hn hol (List.mem_range.1 hi)).symm)
end Go.Proofs.YtmloocbbcnhooaaGreatDoor

/-! The contracts of the landed code of chapter 8: ProjectOk, a package of a project by its name, names at places. -/
namespace Go.Proofs.YtmloocbbcnhooaaGreatDoor
open Go.RowKit

/-- What ProjectOk holds ahead of place k. -/
structure PjSt (ps : List Pk) (k : Nat) (z : List UInt8) : Prop where
  ok : ∀ i, i < k → pj8 ps i
  last : (k = 0 ∧ z = []) ∨ (0 < k ∧ z = (ps.getD (k - 1) pk0).1)
theorem PjSt.pk {ps : List Pk} {k : Nat} (hk : k < ps.length) (h : pkgB (ps.getD k pk0) = false) : projB ps = false := projB_no hk (fun e => by have := e.1; rw [h] at this; cases this)
theorem PjSt.low {ps : List Pk} {k : Nat} {z : List UInt8} (s : PjSt ps k z) (hk : k < ps.length) (hp : pkgB (ps.getD k pk0) = true) (h : leT (ps.getD k pk0).1 z = true) : projB ps = false := by
  refine projB_no hk (fun e => ?_)
  rcases s.last with ⟨_, rfl⟩ | ⟨h0, rfl⟩
  · rw [leT_nil (pkgB_parts hp).1] at h; cases h
  · rw [e.2 h0] at h; cases h
theorem PjSt.step {ps : List Pk} {k : Nat} {z : List UInt8} (s : PjSt ps k z) (hp : pkgB (ps.getD k pk0) = true) (h : leT (ps.getD k pk0).1 z = false) : PjSt ps (k + 1) (ps.getD k pk0).1 := by
  refine ⟨fun i hi => ?_, Or.inr ⟨by omega, by simp⟩⟩
  rcases Nat.lt_or_ge i k with hl | hl
  · exact s.ok i hl
  · obtain rfl : i = k := by omega
    refine ⟨hp, fun h0 => ?_⟩
    rcases s.last with ⟨e, _⟩ | ⟨_, e⟩
    · omega
    · rw [← e]; exact h

set_option maxHeartbeats 4000000 in
set_option maxRecDepth 100000 in
theorem implProjectOk (a : Option Addr) (len cap : Nat) (ps : List Pk) (w : World) (h : PkgsOk w a len cap ps) :
    Calls Tryz.prog 98 #[.slice a len cap] w fun e w' => e = .returned (.bool (projB ps)) ∧ Below w.heap.size w w' := by
  obtain rfl : ps.length = len := h.hlen
  have hsm := h.small
  have HI : Hid (PkgsOk w a ps.length cap ps) := h
  clear h
  by_cases h1 : (ps.length : Int) < 1
  · have HR : Hid (projB ps = false) := by exact (by unfold projB; rw [inB_no _ _ _ (Or.inl h1), Bool.and_false] : projB ps = false)
    go_enter Tryz.func98, Tryz.ntmps98
    go_wp2
    go_ret
    exact ⟨by rw [HR.out]; rfl, Below.refl _ _⟩
  by_cases h8 : 8 < (ps.length : Int)
  · have HR : Hid (projB ps = false) := by exact (by unfold projB; rw [inB_no _ _ _ (Or.inr h8), Bool.and_false] : projB ps = false)
    go_enter Tryz.func98, Tryz.ntmps98
    go_wp2
    go_ret
    exact ⟨by rw [HR.out]; rfl, Below.refl _ _⟩
  go_enter Tryz.func98, Tryz.ntmps98
  go_wp2
  go_loopw [3, 16] (fun lv iv wr => ∃ (k : Nat) (z : List UInt8), lv = .string ⟨z.toArray⟩ ∧ iv = .int .i64 (k : Int) ∧ k ≤ ps.length ∧ Hid (PjSt ps k z) ∧ Hid (Below w.heap.size w wr)) (fun _ iv _ => ps.length - (intOf iv).toNat)
  case atStart => exact ⟨0, [], rfl, rfl, by omega, (⟨fun i hi => by omega, Or.inl ⟨rfl, rfl⟩⟩ : PjSt ps 0 []), Below.refl _ _⟩
  case round =>
    obtain ⟨k, z, rfl, rfl, hk, HZ, HB⟩ := hrel
    by_cases hlt : (k : Int) < (ps.length : Int)
    · have hk2 : k < ps.length := by omega
      obtain ⟨b, off, rfl, hbl, c0, ia, il, ic, fa, fl, fc, c1, c2, hpk⟩ := (HI.out.below HB.out).each k hk2
      obtain ⟨p, hp⟩ : ∃ p, ps.getD k pk0 = p := ⟨_, rfl⟩
      have HNo : Hid (pkgB p = false → projB ps = false) := fun e => PjSt.pk hk2 (by rw [hp]; exact e)
      have HLow : Hid (pkgB p = true → leT p.1 z = true → projB ps = false) := fun e1 e2 => HZ.out.low hk2 (by rw [hp]; exact e1) (by rw [hp]; exact e2)
      have HStep : Hid (pkgB p = true → leT p.1 z = false → PjSt ps (k + 1) p.1) := fun e1 e2 => by
        have := HZ.out.step (by rw [hp]; exact e1) (by rw [hp]; exact e2)
        rw [hp] at this
        exact this
      rw [hp] at c0 hpk
      clear hp HZ
      obtain ⟨x, ims, fs⟩ := p
      simp only at c0 hpk
      obtain ⟨bx, hbx⟩ := Box3.new wr (.string ⟨x.toArray⟩) (.slice ia il ic) (.slice fa fl fc) 36
      obtain ⟨X, hX⟩ : ∃ X, wr.alloc (.cells #[.string ⟨x.toArray⟩, .slice ia il ic, .slice fa fl fc] 36) = X := ⟨_, rfl⟩
      obtain ⟨E, hE⟩ : ∃ E, wr.heap.size = E := ⟨_, rfl⟩
      rw [hX] at bx hbx
      rw [hE] at bx
      have d0 := bx.c0
      have d1 := bx.c1
      have d2 := bx.c2
      have HBX : Hid (Box3 X E (.string ⟨x.toArray⟩) (.slice ia il ic) (.slice fa fl fc)) := bx
      have HC : Hid (_) := implPackageOk x ia il ic fa fl fc ims fs X (hpk.below hbx)
      have HB2 : Hid (Below w.heap.size w X) := HB.out.trans (hbx.mono HB.out.size)
      clear bx hbx hpk HB
      rcases hpb : pkgB (x, ims, fs) with _ | _
      · have HR : Hid (projB ps = false) := HNo.out hpb
        rw [hpb] at HC
        clear hpb
        go_wp2_with (go_at_call 117; refine Calls.mono HC.out ?_; rintro e w1 ⟨rfl, hb1⟩; have HB3 : Hid (Below w.heap.size w w1) := HB2.out.trans (hb1.mono HB2.out.size); clear hb1)
        go_ret
        exact ⟨by rw [HR.out]; rfl, HB3.out⟩
      · rcases hle : leT x z with _ | _
        · have HS2 : Hid (PjSt ps (k + 1) x) := HStep.out hpb hle
          rw [hpb] at HC
          unfold leT at hle
          clear hpb HNo HLow HStep
          go_wp2_with (go_at_call 117; refine Calls.mono HC.out ?_; rintro e w1 ⟨rfl, hb1⟩; have HB3 : Hid (Below w.heap.size w w1) := HB2.out.trans (hb1.mono HB2.out.size); have q0 := (HBX.out.below hb1).c0; clear hb1)
          go_roundw
          case rel => exact ⟨k + 1, x, rfl, by go_num, by omega, HS2, HB3⟩
          case measure => simp [intOf]; omega
        · have HR : Hid (projB ps = false) := HLow.out hpb hle
          rw [hpb] at HC
          unfold leT at hle
          clear hpb HNo HLow HStep
          go_wp2_with (go_at_call 117; refine Calls.mono HC.out ?_; rintro e w1 ⟨rfl, hb1⟩; have HB3 : Hid (Below w.heap.size w w1) := HB2.out.trans (hb1.mono HB2.out.size); have q0 := (HBX.out.below hb1).c0; clear hb1)
          go_ret
          exact ⟨by rw [HR.out]; rfl, HB3.out⟩
    · obtain rfl : k = ps.length := by omega
      have HR : Hid (projB ps = true) := by exact (by rw [projB_all HZ.out.ok]; unfold inB; exact decide_eq_true (by omega) : projB ps = true)
      go_wp2
      go_ret
      exact ⟨by rw [HR.out]; rfl, HB.out⟩



end Go.Proofs.YtmloocbbcnhooaaGreatDoor

/-! The contracts of chapter 9's landed code: where a call goes, what is wrong with it, CallCode. -/
namespace Go.Proofs.YtmloocbbcnhooaaGreatDoor
open Go.RowKit

/-- What callWrong hands back: nothing, or the error of that code. -/
def cwV (e : Nat → Addr) (c : Int) : Value := if c = 0 then .nilIface else sentV (e c.toNat)

set_option maxHeartbeats 2000000 in
set_option maxRecDepth 100000 in
theorem implPlaceCalled (a : Option Addr) (len cap : Nat) (ps : List Pk) (f : Nat) (q : List UInt8) (w : World) (h : PkgsOk w a len cap ps) (hf : f < len) :
    Calls Tryz.prog 146 #[.slice a len cap, .int .i64 (f : Int), .string ⟨q.toArray⟩] w fun e w' => e = .returned (.int .i64 (toV ps f q)) ∧ Below w.heap.size w w' := by
  obtain ⟨b, off, rfl, hbl, c0, ia, il, ic, fa, fl, fc, c1, c2, hpk⟩ := h.each f hf
  have hsm := h.small
  have hf2 : (f : Int) < (len : Int) := by omega
  have hilb := hpk.il
  have HP : Hid (_) := implPlacePk (some ⟨b, off, none⟩) len cap ps q w h.in h.small
  have HC : Hid (_) := containsStr ia il ic (imsAt ps f) q w hpk.i hpk.il
  obtain ⟨ov, hov⟩ : ∃ ov, toV ps f q = ov := ⟨_, rfl⟩
  have HV : Hid (toV ps f q = ov) := hov
  rw [hov]
  unfold toV at hov
  obtain ⟨x, hx⟩ : ∃ x, (ps.getD f pk0).1 = x := ⟨_, rfl⟩
  have hx2 : nmAt ps f = x := hx
  rw [hx] at c0
  rw [hx2] at hov
  clear hx hx2 hpk c2 h
  by_cases h1 : q = x
  · rw [if_pos h1] at hov
    have hb1 : (q == x) = true := by rw [h1]; simp
    subst hov
    go_enter Tryz.func146, Tryz.ntmps146
    go_wp2
    go_ret
    exact ⟨rfl, Below.refl _ _⟩
  · rw [if_neg h1] at hov
    have hb1 : (q == x) = false := by rw [beq_eq_false_iff_ne]; exact h1
    by_cases h2 : q ∈ imsAt ps f
    · rw [if_pos h2] at hov
      rw [decide_eq_true h2] at HC
      rw [hov] at HP
      clear hov h2 HV
      go_enter Tryz.func146, Tryz.ntmps146
      go_wp2_with fail
      refine Calls.mono HC.out ?_
      rintro e w1 ⟨rfl, hw1⟩
      obtain rfl := hw1.symm
      go_wp2_with fail
      refine Calls.mono HP.out ?_
      rintro e w2 ⟨rfl, hb2⟩
      go_wp2
      go_ret
      exact ⟨rfl, hb2⟩
    · rw [if_neg h2] at hov
      rw [decide_eq_false h2] at HC
      subst hov
      clear h2 HV
      go_enter Tryz.func146, Tryz.ntmps146
      go_wp2_with fail
      refine Calls.mono HC.out ?_
      rintro e w1 ⟨rfl, hw1⟩
      obtain rfl := hw1.symm
      go_wp2
      go_ret
      exact ⟨rfl, Below.refl _ _⟩

set_option maxHeartbeats 4000000 in
set_option maxRecDepth 100000 in
theorem implCallWrong (a : Option Addr) (len cap : Nat) (ps : List Pk) (f i : Nat) (n : Nd) (er : Nat → Addr) (w : World) (h : PkgsOk w a len cap ps) (hE : Err4 w er) (hf : f < len) (hi : i ≤ (ps.getD f pk0).2.2.length) :
    Calls Tryz.prog 139 #[.slice a len cap, .int .i64 (f : Int), .int .i64 (i : Int), nodeVal n] w fun e w' => e = .returned (cwV er (call9 ps (ps.getD f pk0) (i : Int) n)) ∧ Below w.heap.size w w' := by
  obtain rfl : ps.length = len := h.hlen
  obtain ⟨k, A, x, fn⟩ := n
  have hw := toV_ways hf x
  have hway : ∀ t, farB ps (ps.getD f pk0) x = false → ofPk ps (ps.getD f pk0) x = ps.getD t pk0 → (x = (ps.getD f pk0).1 ↔ t = f) → _ := fun t h1 h2 h3 => call9_ways (i := i) (n := (k, A, x, fn)) h1 h2 h3
  have hfar : farB ps (ps.getD f pk0) x = true → _ := fun h1 => call9_far (i := i) (n := (k, A, x, fn)) h1
  simp only at hway hfar
  obtain ⟨cv, hcv⟩ : ∃ cv, call9 ps (ps.getD f pk0) (i : Int) (k, A, x, fn) = cv := ⟨_, rfl⟩
  rw [hcv] at hfar hway ⊢
  unfold nodeVal
  simp only
  obtain ⟨⟨n0, n1, n2, n3⟩, hb0⟩ := node_new w (.int .i64 k) (.int .i64 A) (.string ⟨x.toArray⟩) (.string ⟨fn.toArray⟩) 39
  obtain ⟨W, hW⟩ : ∃ W, w.alloc (.cells #[.int .i64 k, .int .i64 A, .string ⟨x.toArray⟩, .string ⟨fn.toArray⟩] 39) = W := ⟨_, rfl⟩
  rw [hW] at n0 n1 n2 n3 hb0
  have hsW : w.heap.size < W.heap.size := by rw [← hW]; simp
  obtain ⟨D, hD⟩ : ∃ D, w.heap.size = D := ⟨_, rfl⟩
  rw [hD] at n0 n1 n2 n3 hsW
  have HZ : Hid (∀ Z, Below W.heap.size W Z → (Z.cell? ⟨D, 0, none⟩ = some (.int .i64 k) ∧ Z.cell? ⟨D, 1, none⟩ = some (.int .i64 A) ∧ Z.cell? ⟨D, 2, none⟩ = some (.string ⟨x.toArray⟩) ∧ Z.cell? ⟨D, 3, none⟩ = some (.string ⟨fn.toArray⟩)) ∧ PkgsOk Z a ps.length cap ps ∧ Err4 Z er ∧ Below w.heap.size w Z) := fun Z hz => ⟨⟨(hz.cell (p := ⟨D, 0, none⟩) hsW).trans n0, (hz.cell (p := ⟨D, 1, none⟩) hsW).trans n1, (hz.cell (p := ⟨D, 2, none⟩) hsW).trans n2, (hz.cell (p := ⟨D, 3, none⟩) hsW).trans n3⟩, (h.below hb0).below hz, (hE.below hb0).below hz, hb0.trans (hz.mono hb0.size)⟩
  have HT : Hid (_) := implPlaceCalled a ps.length cap ps f x W (HZ.out W (Below.refl _ _)).2.1 hf
  have hsm := h.small
  have HI : Hid (i ≤ (ps.getD f pk0).2.2.length) := hi
  clear h hE hb0 hcv hi
  go_enter Tryz.func139, Tryz.ntmps139
  go_wp2_with fail
  refine Calls.mono HT.out ?_
  rintro e w1 ⟨rfl, hb1⟩
  clear HT n0 n1 n2 n3
  obtain ⟨⟨n0, n1, n2, n3⟩, hok, hE, HB⟩ := HZ.out w1 hb1
  rcases hw with ⟨et, hfr⟩ | ⟨t, ht, et, hfr, hof, hiff⟩
  · rw [et]
    obtain rfl := hfar hfr
    have g1 := hE.far
    have HB2 : Hid (_) := HB
    clear hok hE HB hway hfar
    go_wp2
    go_ret
    exact ⟨rfl, HB2.out⟩
  · rw [et]
    have hw2 := hway t hfr hof hiff
    have hln := fsTo_len (ps := ps) (f := f) (t := t) (i := i) (fun e => by rw [e]; exact HI.out)
    obtain ⟨b, off, rfl, hbl, c0, ia, il, ic, fa, fl, fc, c1, c2, hpk⟩ := hok.each t ht
    have ht2 : (t : Int) < (ps.length : Int) := by omega
    have htn : ¬ (t : Int) = -1 := by omega
    have htb : ((t : Int) == -1) = false := beq_eq_false_iff_ne.2 htn
    have hfll := hpk.fl
    have hfcc := hpk.fc.2
    have hflen : (ps.getD t pk0).2.2.length = fl := hpk.f.1
    have hFI : ∀ m : Nat, m = (if t = f then i else fl) → FuncsIn w1 fa m (fsTo ps f t i) := fun m hm => by
      unfold fsTo
      by_cases e : t = f
      · rw [if_pos e] at hm ⊢
        subst hm
        exact hpk.f.take (by have := HI.out; rw [← e, hflen] at this; exact this)
      · rw [if_neg e] at hm ⊢
        subst hm
        exact hpk.f
    have hml : (if t = f then i else fl) ≤ fl := by
      by_cases e : t = f
      · rw [if_pos e]; have := HI.out; rw [← e, hflen] at this; exact this
      · rw [if_neg e]; exact Nat.le_refl _
    generalize fsTo ps f t i = m at hw2 hln hFI
    have gf := hE.func
    have gc := hE.count
    have HE : Hid (Err4 w1 er) := hE
    have HB1 : Hid (Below W.heap.size W w1) := hb1
    have HP : Hid (FuncsIn w1 fa (if t = f then i else fl) m) := hFI _ rfl
    have HW : Hid (_) := hw2
    clear hway hfar hok hpk hE HB hb1 hiff hof hfr hw2 hFI c0 c1 hflen
    by_cases htf : t = f
    · subst htf
      rw [if_pos rfl] at HP hml
      have hself : ((t : Int) == (t : Int)) = true := by simp
      have hic : (i : Int) ≤ (fc : Int) := by omega
      have hic2 : i ≤ fc := by omega
      have HC : Hid (∀ cp, _) := fun cp => implPlaceOf fa i cp m fn w1 HP.out (by omega)
      clear hln
      go_wp2_with fail
      refine Calls.mono (HC.out _) ?_
      rintro e w2 ⟨rfl, hb2⟩
      have hP2 : FuncsIn w2 fa i m := HP.out.below hb2
      replace hb2 := HB1.out.trans (hb2.mono HB1.out.size)
      clear n0 n1 n2 n3 gf gc c2
      obtain ⟨⟨n0, n1, n2, n3⟩, hok, hE, HB⟩ := HZ.out w2 hb2
      have HB2 : Hid (_) := HB
      have gf := hE.func
      have gc := hE.count
      have hl2 : m.length = i := hP2.1
      rcases HW.out with ⟨ea, rfl⟩ | ⟨c, hc, ea, hw3⟩
      · rw [ea]
        clear hok hE HB HC HW hP2 HE hl2
        go_wp2
        go_ret
        exact ⟨rfl, HB2.out⟩
      · rw [ea]
        obtain ⟨b2, o2, rfl, hb2l, r0, r1, ta, tl, tc, r2, _, _⟩ := hP2.2 c (by omega)
        have hcn : ((c : Int) == -1) = false := beq_eq_false_iff_ne.2 (by omega)
        have hcl : (c : Int) < (i : Int) := by omega
        obtain ⟨ag, hag⟩ : ∃ ag, (m.getD c fn0).2.1 = ag := ⟨_, rfl⟩
        rw [hag] at hw3 r1
        clear hok hE HB HC HW hP2 HE hl2 HP ea hag r0 r2
        rcases hw3 with ⟨hA, rfl⟩ | ⟨rfl, rfl⟩
        · have hAb : (ag != A) = true := by rw [bne_iff_ne]; exact hA
          go_wp2_with fail
          go_quiet (fail)
          go_wp2
          go_ret
          exact ⟨rfl, HB2.out.trans ⟨rfl, rfl, rfl, Nat.le_refl _, fun _ _ => rfl⟩⟩
        · have hAb : (ag != ag) = false := by simp
          go_wp2_with fail
          go_quiet (fail)
          go_wp2
          go_ret
          exact ⟨rfl, HB2.out.trans ⟨rfl, rfl, rfl, Nat.le_refl _, fun _ _ => rfl⟩⟩
    · rw [if_neg htf] at HP hml
      have hne : ((t : Int) == (f : Int)) = false := beq_eq_false_iff_ne.2 (by omega)
      have HC : Hid (∀ cp, _) := fun cp => implPlaceOf fa fl cp m fn w1 HP.out (by omega)
      clear hln
      go_wp2_with fail
      refine Calls.mono (HC.out _) ?_
      rintro e w2 ⟨rfl, hb2⟩
      have hP2 : FuncsIn w2 fa fl m := HP.out.below hb2
      replace hb2 := HB1.out.trans (hb2.mono HB1.out.size)
      clear n0 n1 n2 n3 gf gc c2
      obtain ⟨⟨n0, n1, n2, n3⟩, hok, hE, HB⟩ := HZ.out w2 hb2
      have HB2 : Hid (_) := HB
      have gf := hE.func
      have gc := hE.count
      have hl2 : m.length = fl := hP2.1
      rcases HW.out with ⟨ea, rfl⟩ | ⟨c, hc, ea, hw3⟩
      · rw [ea]
        clear hok hE HB HC HW hP2 HE hl2
        go_wp2
        go_ret
        exact ⟨rfl, HB2.out⟩
      · rw [ea]
        obtain ⟨b2, o2, rfl, hb2l, r0, r1, ta, tl, tc, r2, _, _⟩ := hP2.2 c (by omega)
        have hcn : ((c : Int) == -1) = false := beq_eq_false_iff_ne.2 (by omega)
        have hcl : (c : Int) < (fl : Int) := by omega
        obtain ⟨ag, hag⟩ : ∃ ag, (m.getD c fn0).2.1 = ag := ⟨_, rfl⟩
        rw [hag] at hw3 r1
        clear hok hE HB HC HW hP2 HE hl2 HP ea hag r0 r2
        rcases hw3 with ⟨hA, rfl⟩ | ⟨rfl, rfl⟩
        · have hAb : (ag != A) = true := by rw [bne_iff_ne]; exact hA
          go_wp2_with fail
          go_quiet (fail)
          go_wp2
          go_ret
          exact ⟨rfl, HB2.out.trans ⟨rfl, rfl, rfl, Nat.le_refl _, fun _ _ => rfl⟩⟩
        · have hAb : (ag != ag) = false := by simp
          go_wp2_with fail
          go_quiet (fail)
          go_wp2
          go_ret
          exact ⟨rfl, HB2.out.trans ⟨rfl, rfl, rfl, Nat.le_refl _, fun _ _ => rfl⟩⟩

set_option maxHeartbeats 4000000 in
set_option maxRecDepth 100000 in
theorem implCodeOfCall (c : Int) (er : Nat → Addr) (w : World) (hE : Err4 w er) (hc : -1 ≤ c ∧ c ≤ 3) :
    Calls Tryz.prog 104 #[cwV er c] w fun e w' => e = .returned (.int .i64 c) ∧ w' = w := by
  have gt := hE.told
  have g1 := hE.far
  have g2 := hE.func
  have g3 := hE.count
  unfold sentV at gt g1 g2 g3
  have h0 := hE.at0
  have h1 := hE.at1
  have h2 := hE.at2
  have h3 := hE.at3
  obtain ⟨d01, d02, d03, d12, d13, d23⟩ := hE.ne
  clear hE
  rcases (show c = 0 ∨ c = -1 ∨ c = 1 ∨ c = 2 ∨ c = 3 by omega) with rfl | rfl | rfl | rfl | rfl
  · have hv : cwV er 0 = .nilIface := rfl
    rw [hv]
    go_enter Tryz.func104, Tryz.ntmps104
    go_wp2
    go_ret
    exact ⟨rfl, rfl⟩
  · have hv : cwV er (-1) = .iface 227 (.pointer (some (er 0))) := rfl
    rw [hv]
    go_enter Tryz.func104, Tryz.ntmps104
    go_wp2_with fail
    refine Calls.mono (is_other (er 0) (er 1) w d01 h0 h1) ?_
    rintro e w1 ⟨rfl, hw⟩
    obtain rfl := hw.symm
    clear hw
    go_wp2_with fail
    refine Calls.mono (is_other (er 0) (er 2) w d02 h0 h2) ?_
    rintro e w2 ⟨rfl, hw⟩
    obtain rfl := hw.symm
    clear hw
    go_wp2_with fail
    refine Calls.mono (is_other (er 0) (er 3) w d03 h0 h3) ?_
    rintro e w3 ⟨rfl, hw⟩
    obtain rfl := hw.symm
    clear hw
    go_wp2
    go_ret
    exact ⟨rfl, rfl⟩
  · have hv : cwV er (1) = .iface 227 (.pointer (some (er 1))) := rfl
    rw [hv]
    go_enter Tryz.func104, Tryz.ntmps104
    go_wp2_with fail
    refine Calls.mono (is_same (er 1) w) ?_
    rintro e w1 ⟨rfl, hw⟩
    obtain rfl := hw.symm
    clear hw
    go_wp2
    go_ret
    exact ⟨rfl, rfl⟩
  · have hv : cwV er (2) = .iface 227 (.pointer (some (er 2))) := rfl
    rw [hv]
    go_enter Tryz.func104, Tryz.ntmps104
    go_wp2_with fail
    refine Calls.mono (is_other (er 2) (er 1) w d12.symm h2 h1) ?_
    rintro e w1 ⟨rfl, hw⟩
    obtain rfl := hw.symm
    clear hw
    go_wp2_with fail
    refine Calls.mono (is_same (er 2) w) ?_
    rintro e w2 ⟨rfl, hw⟩
    obtain rfl := hw.symm
    clear hw
    go_wp2
    go_ret
    exact ⟨rfl, rfl⟩
  · have hv : cwV er (3) = .iface 227 (.pointer (some (er 3))) := rfl
    rw [hv]
    go_enter Tryz.func104, Tryz.ntmps104
    go_wp2_with fail
    refine Calls.mono (is_other (er 3) (er 1) w d13.symm h3 h1) ?_
    rintro e w1 ⟨rfl, hw⟩
    obtain rfl := hw.symm
    clear hw
    go_wp2_with fail
    refine Calls.mono (is_other (er 3) (er 2) w d23.symm h3 h2) ?_
    rintro e w2 ⟨rfl, hw⟩
    obtain rfl := hw.symm
    clear hw
    go_wp2_with fail
    refine Calls.mono (is_same (er 3) w) ?_
    rintro e w3 ⟨rfl, hw⟩
    obtain rfl := hw.symm
    clear hw
    go_wp2
    go_ret
    exact ⟨rfl, rfl⟩

end Go.Proofs.YtmloocbbcnhooaaGreatDoor

/-! An error that is wrapped by the program's own type: errors.Is and errors.As of it (Go's own text walked). -/
namespace Go.Proofs.YtmloocbbcnhooaaGreatDoor
open Go.RowKit Go.Extern.Stop Go.Stop Go.Extern

/-- An error that tells where: package, function, and what. -/
def wrapV (p f : List UInt8) (a : Addr) : Value := .iface 131 (.agg #[.string ⟨p.toArray⟩, .string ⟨f.toArray⟩, sentV a])

/-- All eight: 0 not told, 1 far, 2 func, 3 count, 4 import, 5 ring, 6 arg, 7 main; and errors.errorType. -/
structure Err8 (w : World) (e : Nat → Addr) : Prop where
  four : Err4 w e
  imp : w.cell? ⟨2, 0, none⟩ = some (sentV (e 4))
  ring : w.cell? ⟨3, 0, none⟩ = some (sentV (e 5))
  arg : w.cell? ⟨4, 0, none⟩ = some (sentV (e 6))
  main : w.cell? ⟨1, 0, none⟩ = some (sentV (e 7))
  at_ : ∀ i, i < 8 → SentAt w (e i)
  ne : ∀ i j, i < 8 → j < 8 → i ≠ j → e i ≠ e j
  ety : w.cell? ⟨5, 0, none⟩ = some (.iface 180 (.agg #[.pointer (some ⟨9, 127, none⟩)]))
theorem Err8.below {w w' : World} {e : Nat → Addr} (h : Err8 w e) (hb : Below w.heap.size w w') : Err8 w' e :=
  ⟨h.four.below hb, sent_below h.imp hb, sent_below h.ring hb, sent_below h.arg hb, sent_below h.main hb, fun i hi => (h.at_ i hi).below hb, h.ne, sent_below h.ety hb⟩

/-! ### Closed facts. -/
theorem noIsW (v : Value) (xT : TypeId) (w : World) : (Instr.typeAssert (.iface 131 v) xT 203 true).run Tryz.prog w = .ok (.tuple #[.nilIface, .bool false]) w := run_typeAssert_lacksB Tryz.underlying203 (by kernel_rfl) (by kernel_rfl) v xT w
theorem hasUnwrapW (v : Value) (xT : TypeId) (w : World) : (Instr.typeAssert (.iface 131 v) xT 187 true).run Tryz.prog w = .ok (.tuple #[.iface 131 v, .bool true]) w := run_typeAssert_hasB Tryz.underlying187 (by kernel_rfl) v xT w
theorem methodUnwrapW (v : Value) (w : World) : (Go.method 359 131 v "Unwrap").run Tryz.prog w = .ok (168, v) w := by kernel_rfl

set_option maxHeartbeats 4000000 in
set_option maxRecDepth 100000 in
theorem is_wrap_same (p f : List UInt8) (a : Addr) (w : World) :
    Calls Tryz.prog 103 #[.iface 131 (.agg #[.string ⟨p.toArray⟩, .string ⟨f.toArray⟩, .iface 227 (.pointer (some a))]), .iface 227 (.pointer (some a))] w fun e w' => e = .returned (.bool true) ∧ Below w.heap.size w w' := by
  obtain ⟨i, hi, hcmp⟩ := Option.map_eq_some_iff.1 isComp
  obtain ⟨j, hj, hjs⟩ := Option.map_eq_some_iff.1 isSize
  have h8 := @run_callFunc_extern Tryz.prog 126 _ Extern.ReflectliteType.typeOf Tryz.func126 (by kernel_rfl) (by kernel_rfl) (by kernel_rfl) (by kernel_rfl)
  have h32 := @run_callFunc_extern Tryz.prog 179 _ cmpE Tryz.func179 (by kernel_rfl) (by kernel_rfl) (by kernel_rfl) (by kernel_rfl)
  have tT := isTypeOf
  have cT := isComparable
  have mR := isMethodComparable
  have nW := noIsW
  have uW := hasUnwrapW
  have mU := methodUnwrapW
  have heq : ∀ W : World, _ := fun W => run_eql_iface_ptr_same (P := Tryz.prog) W a Tryz.underlying127 Tryz.underlying227 hi hcmp hj
  have hty : ∀ W : World, _ := fun W => run_eql_iface_types (P := Tryz.prog) 131 227 (.agg #[.string ⟨p.toArray⟩, .string ⟨f.toArray⟩, .iface 227 (.pointer (some a))]) (.pointer (some a)) Tryz.underlying127 (by decide) W
  have hbn : Below w.heap.size w (w.alloc (.cells #[.string ⟨p.toArray⟩, .string ⟨f.toArray⟩, .iface 227 (.pointer (some a))] 131)) := (Below.refl _ _).alloc (Nat.le_refl _) _
  go_enter Tryz.func103, Tryz.ntmps103
  go_wp2
  refine wp_loop_rounds 2 ?_
  rw [rounds_succ]
  go_wp2
  rw [rounds_succ]
  go_wp2
  go_ret
  exact ⟨rfl, hbn⟩

set_option maxHeartbeats 4000000 in
set_option maxRecDepth 100000 in
theorem is_wrap_other (p f : List UInt8) (a b : Addr) (w : World) (hne : a ≠ b) (hsa : SentAt w a) (hsb : SentAt w b) :
    Calls Tryz.prog 103 #[.iface 131 (.agg #[.string ⟨p.toArray⟩, .string ⟨f.toArray⟩, .iface 227 (.pointer (some a))]), .iface 227 (.pointer (some b))] w fun e w' => e = .returned (.bool false) ∧ Below w.heap.size w w' := by
  have hbn : Below w.heap.size w (w.alloc (.cells #[.string ⟨p.toArray⟩, .string ⟨f.toArray⟩, .iface 227 (.pointer (some a))] 131)) := (Below.refl _ _).alloc (Nat.le_refl _) _
  obtain ⟨ca, ta, ha⟩ := hsa.below hbn
  obtain ⟨cb, tb, hb⟩ := hsb.below hbn
  obtain ⟨i, hi, hcmp⟩ := Option.map_eq_some_iff.1 isComp
  obtain ⟨j, hj, hjs⟩ := Option.map_eq_some_iff.1 isSize
  have h8 := @run_callFunc_extern Tryz.prog 126 _ Extern.ReflectliteType.typeOf Tryz.func126 (by kernel_rfl) (by kernel_rfl) (by kernel_rfl) (by kernel_rfl)
  have h32 := @run_callFunc_extern Tryz.prog 179 _ cmpE Tryz.func179 (by kernel_rfl) (by kernel_rfl) (by kernel_rfl) (by kernel_rfl)
  have tT := isTypeOf
  have cT := isComparable
  have mR := isMethodComparable
  have nE := noIsE
  have uE := noUnwrapE
  have vE := noUnwrapsE
  have nW := noIsW
  have uW := hasUnwrapW
  have mU := methodUnwrapW
  have heq := run_eql_iface_ptr_other (P := Tryz.prog) (w.alloc (.cells #[.string ⟨p.toArray⟩, .string ⟨f.toArray⟩, .iface 227 (.pointer (some a))] 131)) Tryz.underlying127 Tryz.underlying227 hi hcmp hj (by rw [hjs]; decide) hne ha hb
  have hty : ∀ W : World, _ := fun W => run_eql_iface_types (P := Tryz.prog) 131 227 (.agg #[.string ⟨p.toArray⟩, .string ⟨f.toArray⟩, .iface 227 (.pointer (some a))]) (.pointer (some b)) Tryz.underlying127 (by decide) W
  clear ha hb
  go_enter Tryz.func103, Tryz.ntmps103
  go_wp2
  refine wp_loop_rounds 2 ?_
  rw [rounds_succ]
  go_wp2
  rw [rounds_succ]
  go_wp2
  go_ret
  exact ⟨rfl, hbn⟩

end Go.Proofs.YtmloocbbcnhooaaGreatDoor
