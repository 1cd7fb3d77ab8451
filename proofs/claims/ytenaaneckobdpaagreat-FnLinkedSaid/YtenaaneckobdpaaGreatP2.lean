/-
  Parts of one proof, one behind the other: WordS, TextS, TextS2, TextS3, Turned, TextS4, TextS5, TreeS, TreeS2, Math3C, Draw, Draw2, ChunkS.
-/
import Derived.Test.YtenaaneckobdpaaGreatP1
import Derived.Test.YtenaaneckobdpaaGreatRows
import Derived.WalkKit
import Derived.WalkLawsBesides
import Derived.Laws.IdiomStrings
import Derived.Laws.Concat
import Derived.OpenShut
import Derived.Handy
import Derived.Laws.OwnMore
import Derived.Maps.AppendAt
import Derived.Maps.Range
import Derived.Lib.AppendStr
namespace Go.Proofs.YtenaaneckobdpaaGreat
open Go.RowKit
set_option maxHeartbeats 400000 in
set_option maxRecDepth 100000 in
theorem zeT (n : Int) (w : World) : Calls Tryz.prog 101 #[.int .i64 n] w fun e w' => e = .returned (.bool (inB n (-2147483648) 2147483647)) ∧ w' = w := by
 go_enter Tryz.func101, Tryz.ntmps101
 go_wp2_with (go_at_call 34; refine (zcf _ _ _ _).mono ?_; rintro e w' ⟨rfl, rfl⟩)
 go_ret
 exact ⟨rfl, rfl⟩
set_option maxHeartbeats 400000 in
set_option maxRecDepth 100000 in
theorem ze9 (n : Int) (w : World) : Calls Tryz.prog 129 #[.int .i64 n] w fun e w' => e = .returned (.int .i64 (zcI n)) ∧ w' = w := by
 go_enter Tryz.func129, Tryz.ntmps129
 go_wp2
 go_ret
 exact ⟨ret_int (wrapWW n), rfl⟩
set_option maxHeartbeats 1000000 in
set_option maxRecDepth 100000 in
theorem zbB (kind a b : Int) (w : World) (ha : -2147483648 ≤ a ∧ a ≤ 2147483647) (hb : -2147483648 ≤ b ∧ b ≤ 2147483647) :
 Calls Tryz.prog 106 #[.int .i64 kind, .int .i64 a, .int .i64 b] w fun e w' => e = .returned (.tuple #[.int .i64 (zbO kind a b), .bool (zce kind a b)]) ∧ w' = w := by
 obtain ⟨h3, h4, h5, h6, h0⟩ := done_in kind a b ⟨ha, hb⟩
 obtain ⟨hm1, hm2⟩ := mul_bd a b ha hb
 obtain ⟨ha1, ha2⟩ := ha
 obtain ⟨hb1, hb2⟩ := hb
 by_cases k3 : kind = 3
 ·
  have HO : Hid (zbO kind a b = zcI (a + b) ∧ zce kind a b = true) := h3 k3
  clear h3 h4 h5 h6 h0
  subst k3
  go_enter Tryz.func106, Tryz.ntmps106
  go_wp2_with (go_at_call 129; refine (ze9 _ _).mono ?_; rintro e w' ⟨rfl, rfl⟩)
  go_ret2
  exact ⟨by rw [HO.out.1, HO.out.2]; rfl, rfl⟩
 ·
  have d3 : (kind == 3) = false := beq_eq_false_iff_ne.2 k3
  by_cases k4 : kind = 4
  ·
   have HO : Hid (zbO kind a b = zcI (a - b) ∧ zce kind a b = true) := h4 k4
   clear h3 h4 h5 h6 h0 d3 k3
   subst k4
   go_enter Tryz.func106, Tryz.ntmps106
   go_wp2_with (go_at_call 129; refine (ze9 _ _).mono ?_; rintro e w' ⟨rfl, rfl⟩)
   go_ret2
   exact ⟨by rw [HO.out.1, HO.out.2]; rfl, rfl⟩
  ·
   have d4 : (kind == 4) = false := beq_eq_false_iff_ne.2 k4
   by_cases k5 : kind = 5
   ·
    have HO : Hid (zbO kind a b = zcI (a * b) ∧ zce kind a b = true) := h5 k5
    clear h3 h4 h5 h6 h0 d3 k3 d4 k4
    subst k5
    go_enter Tryz.func106, Tryz.ntmps106
    go_wp2_with (go_at_call 129; refine (ze9 _ _).mono ?_; rintro e w' ⟨rfl, rfl⟩)
    go_ret2
    exact ⟨by rw [HO.out.1, HO.out.2]; rfl, rfl⟩
   ·
    have d5 : (kind == 5) = false := beq_eq_false_iff_ne.2 k5
    by_cases k6 : kind = 6
    ·
     by_cases kb : b = 0
     ·
      have HO : Hid (zbO kind a b = 0 ∧ zce kind a b = false) := h0 k3 k4 k5 (fun h => h.2 kb)
      clear h3 h4 h5 h6 h0 d3 k3 d4 k4 d5 k5
      subst k6 kb
      go_enter Tryz.func106, Tryz.ntmps106
      go_wp2
      go_ret2
      exact ⟨by rw [HO.out.1, HO.out.2]; rfl, rfl⟩
     ·
      have HO : Hid (zbO kind a b = zcI (a.tdiv b) ∧ zce kind a b = true) := h6 k6 kb
      have db : (b != 0) = true := bne_iff_ne.2 kb
      have hq := tdiv_bd a b ⟨ha1, ha2⟩
      obtain ⟨hq1, hq2⟩ := hq
      clear h3 h4 h5 h6 h0 d3 k3 d4 k4 d5 k5
      subst k6
      go_enter Tryz.func106, Tryz.ntmps106
      go_wp2_with (go_at_call 129; refine (ze9 _ _).mono ?_; rintro e w' ⟨rfl, rfl⟩)
      go_ret2
      exact ⟨by rw [HO.out.1, HO.out.2]; rfl, rfl⟩
    ·
     have HO : Hid (zbO kind a b = 0 ∧ zce kind a b = false) := h0 k3 k4 k5 (fun h => k6 h.1)
     have d6 : (kind == 6) = false := beq_eq_false_iff_ne.2 k6
     clear h3 h4 h5 h6 h0 k3 k4 k5 k6
     go_enter Tryz.func106, Tryz.ntmps106
     go_wp2
     go_ret2
     exact ⟨by rw [HO.out.1, HO.out.2]; rfl, rfl⟩
set_option maxHeartbeats 2000000 in
set_option maxRecDepth 100000 in
theorem zei (l : List UInt8) (b : UInt8) (c : Int) (w : World) (hc : c = (b.toNat : Int)) (hl : l.length ≤ 1048576) :
 Calls Tryz.prog 67 #[.string ⟨l.toArray⟩, .int .u8 c] w fun e w' => ∃ g cp, e = .returned (.slice (some ⟨g, 0, none⟩) (zaD b l).length cp) ∧ w'.ownsRow w.heap.size 9 1 (.slice (some ⟨g, 0, none⟩) (zaD b l).length cp) (zaD b l).length (strV (zaD b l)) ∧ Below w.heap.size w w' := by
 obtain ⟨i0, hi, hz0, hz1, hz2⟩ := info_parts zjS
 have hext := zi0
 have hown0 := (World.ownsRow_lit (base := w.heap.size) (e := 9) (size := 1) w #[] 0 (Nat.le_refl _) (by decide) rfl)
 have HC : Hid (c = (b.toNat : Int)) := hc
 clear hc
 go_enter Tryz.func67, Tryz.ntmps67
 go_wp2
 go_loopw [5, 6, 7] (fun v fr ix wr => ∃ (o : List (List UInt8)) (f i g cp : Nat), v = .slice (some ⟨g, 0, none⟩) o.length cp ∧ fr = .int .i64 f ∧ ix = .int .i64 i ∧ o.length ≤ i ∧ i ≤ l.length + 1 ∧ Hid ((i ≤ l.length ∧ f ≤ i ∧ o ++ zas b ((l.drop f).take (i - f)) (l.drop i) = zaD b l) ∨ (i = l.length + 1 ∧ o = zaD b l)) ∧ wr.ownsRow w.heap.size 9 1 v o.length (strV o) ∧ Below w.heap.size w wr) (fun _ _ ix _ => l.length + 1 - (intOf ix).toNat)
 case atStart => exact ⟨[], 0, 0, w.heap.size, 0, rfl, rfl, rfl, by simp, by omega, (Or.inl ⟨by omega, by omega, by simp [zaD]⟩ : _ ∨ _), hown0, (Below.refl _ _).alloc (Nat.le_refl _) _⟩
 case round =>
  obtain ⟨o, f, i, g, cp, rfl, rfl, rfl, hoi, hil, HG, hown, hb⟩ := hrel
  clear hown0
  by_cases hlt : (i : Int) ≤ (l.length : Int)
  ·
   obtain ⟨_, hfi, hg⟩ : i ≤ l.length ∧ f ≤ i ∧ o ++ zas b ((l.drop f).take (i - f)) (l.drop i) = zaD b l := by
    rcases HG.out with h | h
    ·
     exact h
    ·
     omega
   have HE : Hid (o ++ zas b ((l.drop f).take (i - f)) (l.drop i) = zaD b l) := hg
   clear hg HG
   have hfi1 : (f : Int) ≤ (i : Int) := by omega
   have hf0 : (0 : Int) ≤ (f : Int) := by omega
   by_cases hend : i = l.length
   ·
    subst hend
    have HF : Hid (o ++ [(l.drop f).take (l.length - f)] = zaD b l) := ziU b l o _ HE.out
    have htk : List.take (l.length - f) (List.drop f l) = List.drop f l := List.take_of_length_le (by rw [List.length_drop]; omega)
    rw [htk] at HF
    clear HE
    go_wp2_with (at_builtin; refine wpList_append_own _ rfl _ _ 31 rfl w.heap.size 9 i0 (.string ⟨#[]⟩) 1 16 Tryz.underlying31 hi hz0 hz1 hz2 rfl (by decide) _ _ _ rfl (hown.alloc _) ⟨wr.heap.size, 0, none⟩ 1 1 [.string ⟨(l.drop f).toArray⟩] rfl rfl ?c1 ?c2 ?c3 ?c4 ?c5 ?_)
    first | (case c1 => exact cell_one_new _ _ _) | skip
    first | (case c2 => first | rfl | (intro u hu; simp at hu; subst hu; rfl)) | skip
    first | (case c3 => unfold maxLen; omega) | skip
    first | (case c4 => omega) | skip
    first | (case c5 => have := hb.size; simp; try omega) | skip
    intro v' w3 hown3 hgrow3 hnil3
    have hown4 := zjq hown3
    have hv' : v' ≠ .slice none 0 0 := hnil3
    obtain ⟨g', cp', hv⟩ := zg4 hown4 hv'
    have hb3 : Below w.heap.size w w3 := (hb.alloc hb.size _).grown hgrow3 (by have := hb.size; simp; omega) (fun k e => (hown.lt k e).1)
    clear hown3 hgrow3 hnil3 hown hb hv'
    go_wp2
    go_roundw
    case rel => exact ⟨o ++ [l.drop f], l.length + 1, l.length + 1, g', cp', hv, by go_num, by go_num, by rw [List.length_append, List.length_singleton]; omega, by omega, (Or.inr ⟨rfl, HF.out⟩ : _ ∨ _), hown4, hb3⟩
    case measure => simp [intOf]
   ·
    have de : ((i : Int) == (l.length : Int)) = false := beq_eq_false_iff_ne.2 (by omega)
    have hil2 : i < l.length := by omega
    have hil3 : (i : Int) < (l.length : Int) := by omega
    obtain ⟨x, hx⟩ : ∃ x, l[i] = x := ⟨_, rfl⟩
    by_cases hxb : x = b
    ·
     have HF : Hid ((o ++ [(l.drop f).take (i - f)]) ++ zas b [] (l.drop (i + 1)) = zaD b l) := ziT b l o _ i hil2 (by rw [hx]; exact hxb) HE.out
     have dx : ((((⟨l.toArray⟩ : ByteArray)[i]'(by show i < l.toArray.size; simpa using hil2)).toNat : Int) == c) = true := by show ((l[i].toNat : Int) == c) = true; rw [hx, hxb, HC.out]; simp
     clear HE hx hxb hend
     go_wp2_with (at_builtin; refine wpList_append_own _ rfl _ _ 31 rfl w.heap.size 9 i0 (.string ⟨#[]⟩) 1 16 Tryz.underlying31 hi hz0 hz1 hz2 rfl (by decide) _ _ _ rfl (hown.alloc _) ⟨wr.heap.size, 0, none⟩ 1 1 [.string ⟨((l.drop f).take (i - f)).toArray⟩] rfl rfl ?c1 ?c2 ?c3 ?c4 ?c5 ?_)
     first | (case c1 => exact cell_one_new _ _ _) | skip
     first | (case c2 => first | rfl | (intro u hu; simp at hu; subst hu; rfl)) | skip
     first | (case c3 => unfold maxLen; omega) | skip
     first | (case c4 => omega) | skip
     first | (case c5 => have := hb.size; simp; try omega) | skip
     intro v' w3 hown3 hgrow3 hnil3
     have hown4 := zjq hown3
     have hv' : v' ≠ .slice none 0 0 := hnil3
     obtain ⟨g', cp', hv⟩ := zg4 hown4 hv'
     have hb3 : Below w.heap.size w w3 := (hb.alloc hb.size _).grown hgrow3 (by have := hb.size; simp; omega) (fun k e => (hown.lt k e).1)
     clear hown3 hgrow3 hnil3 hown hb hv'
     go_wp2
     go_roundw
     case rel => exact ⟨o ++ [(l.drop f).take (i - f)], i + 1, i + 1, g', cp', hv, by go_num, by go_num, by rw [List.length_append, List.length_singleton]; omega, by omega, (Or.inl ⟨by omega, by omega, by rw [Nat.sub_self, List.take_zero]; exact HF.out⟩ : _ ∨ _), hown4, hb3⟩
     case measure => simp [intOf]; omega
    ·
     have HF : Hid (o ++ zas b ((l.drop f).take (i + 1 - f)) (l.drop (i + 1)) = zaD b l) := by
      have := zic b l o _ i hil2 (by rw [hx]; exact hxb) HE.out
      rw [cut_snoc l f i hfi hil2]
      exact this
     have dx : ((((⟨l.toArray⟩ : ByteArray)[i]'(by show i < l.toArray.size; simpa using hil2)).toNat : Int) == c) = false := by show ((l[i].toNat : Int) == c) = false; rw [hx, HC.out]; exact beq_eq_false_iff_ne.2 (fun e => hxb (UInt8.toNat_inj.1 (by omega)))
     clear HE hx hxb hend
     go_wp2
     go_roundw
     case rel => exact ⟨o, f, i + 1, g, cp, rfl, rfl, by go_num, by omega, by omega, (Or.inl ⟨by omega, by omega, HF.out⟩ : _ ∨ _), hown, hb⟩
     case measure => simp [intOf]; omega
  ·
   have HF : Hid (o = zaD b l) := by
    rcases HG.out with h | h
    ·
     omega
    ·
     exact h.2
   go_wp2
   go_ret
   exact ⟨g, cp, by rw [← HF.out]; rfl, by rw [← HF.out]; exact hown, hb⟩
set_option maxHeartbeats 1000000 in
set_option maxRecDepth 100000 in
theorem zbR (l : List UInt8) (w : World) (hl : l.length ≤ 1048576) :
 Calls Tryz.prog 65 #[.string ⟨l.toArray⟩] w fun e w' => e = .returned (.bool (zaz l)) ∧ w' = w := by
 go_enter Tryz.func65, Tryz.ntmps65
 go_wp2
 go_loop [3] (fun ix => ∃ k : Nat, k ≤ l.length ∧ ix = .int .i64 k ∧ Hid (∀ j (hj : j < l.length), j < k → 97 ≤ l[j].toNat ∧ l[j].toNat ≤ 122)) (fun ix => l.length - (intOf ix).toNat)
 case atStart => exact ⟨0, Nat.zero_le _, rfl, (fun j _ h => by omega : ∀ j (hj : j < l.length), j < 0 → _)⟩
 case round =>
  obtain ⟨k, hk, rfl, HK⟩ := hrel
  by_cases hkl : (k : Int) < (l.length : Int)
  ·
   have hk2 : k < l.length := by omega
   obtain ⟨x, hx⟩ : ∃ x : UInt8, l[k] = x := ⟨_, rfl⟩
   have hxb : (⟨l.toArray⟩ : ByteArray)[k]'(by show k < l.toArray.size; simpa using hk2) = x := hx
   by_cases h1 : (x.toNat : Int) < 97
   ·
    have HF : Hid (zaz l = false) := zeb l k hk2 (by rw [hx]; omega)
    clear hx
    go_wp2
    go_ret
    exact ⟨by rw [HF.out]; rfl, rfl⟩
   ·
    by_cases h2 : 122 < (x.toNat : Int)
    ·
     have HF : Hid (zaz l = false) := zeb l k hk2 (by rw [hx]; omega)
     clear hx
     go_wp2
     go_ret
     exact ⟨by rw [HF.out]; rfl, rfl⟩
    ·
     have HS : Hid (∀ j (hj : j < l.length), j < k + 1 → 97 ≤ l[j].toNat ∧ l[j].toNat ≤ 122) := fun j hj hjk => by
      by_cases e : j = k
      ·
       subst e; rw [hx]; omega
      ·
       exact HK.out j hj (by omega)
     clear hx
     go_wp2
     go_round
     case rel => exact ⟨k + 1, by omega, by go_num, HS⟩
     case measure => simp [intOf]; omega
  ·
   have HF : Hid (zaz l = inB (l.length : Int) 1 8) := zga l (fun j hj => HK.out j hj (by omega))
   go_wp2_with (go_at_call 34; refine (zcf _ _ _ _).mono ?_; rintro e w' ⟨rfl, rfl⟩)
   go_ret
   exact ⟨by rw [HF.out]; rfl, rfl⟩




def zdc (n : Nd) : Value := .agg #[.int .i64 n.1, .int .i64 n.2.1, .string ⟨n.2.2.1.toArray⟩, .string ⟨n.2.2.2.toArray⟩]
theorem zes (k a : Int) (p f : List UInt8) (hk : k ≠ 8) (h : p ≠ [] ∨ f ≠ []) : zbu (k, a, p, f) = false := zhS (fun hp => by
 unfold zcd at hp
 simp only at hp
 rcases hp with ⟨_, _, h1, h2⟩ | ⟨_, _, h1, h2⟩ | ⟨_, _, h1, h2⟩ | ⟨h1, _⟩
 ·
  rcases h with h | h; exact h h1; exact h h2
 ·
  rcases h with h | h; exact h h1; exact h h2
 ·
  rcases h with h | h; exact h h1; exact h h2
 ·
  exact hk h1)
theorem zjy (a : Int) : zbu (1, a, [], []) = inB a (-2147483648) 2147483647 := by
 unfold zbu inB
 exact decide_eq_decide.2 (by unfold zcd; simp)
theorem zjz (a : Int) : zbu (2, a, [], []) = inB a 0 2 := by
 unfold zbu inB
 exact decide_eq_decide.2 (by unfold zcd; simp)
theorem nodeB_op (k a : Int) (h : 3 ≤ k ∧ k ≤ 7) : zbu (k, a, [], []) = (a == 0) := by
 rw [Bool.eq_iff_iff, zaW, beq_iff_eq]
 unfold zcd
 simp
 omega
theorem ziq (a : Int) (p f : List UInt8) : zbu (8, a, p, f) = (inB a 0 3 && (zaz p && zaz f)) := by
 rw [Bool.eq_iff_iff, zaW]
 unfold zcd inB
 simp
theorem zh2 (k a : Int) (p f : List UInt8) (h : k < 1 ∨ 8 < k) : zbu (k, a, p, f) = false := zhS (fun hp => by
 unfold zcd at hp
 simp only at hp
 omega)
set_option maxHeartbeats 2000000 in
set_option maxRecDepth 100000 in
theorem zie (n : Nd) (w : World) (hp : n.2.2.1.length ≤ 1048576) (hf : n.2.2.2.length ≤ 1048576) :
 Calls Tryz.prog 136 #[zdc n] w fun e w' => e = .returned (.bool (zbu n)) ∧ Below w.heap.size w w' := by
 obtain ⟨k, a, p, f⟩ := n
 simp only at hp hf
 unfold zdc
 simp only
 by_cases h8 : k = 8
 ·
  subst h8
  have HN := ziq a p f
  rw [HN]
  clear HN
  rcases hia : inB a 0 3 with _ | _
  ·
   have HA : Hid (inB a 0 3 = false) := hia
   clear hia
   go_enter Tryz.func136, Tryz.ntmps136
   go_wp2_with fail
   refine (zcf _ _ _ _).mono ?_
   rintro e w1 ⟨rfl, rfl⟩
   rw [HA.out]
   go_wp2
   go_ret
   exact ⟨rfl, (Below.refl _ w).alloc (Nat.le_refl _) _⟩
  ·
   have HA : Hid (inB a 0 3 = true) := hia
   clear hia
   rcases hnp : zaz p with _ | _
   ·
    have HP : Hid (zaz p = false) := hnp
    clear hnp
    go_enter Tryz.func136, Tryz.ntmps136
    go_wp2_with fail
    refine (zcf _ _ _ _).mono ?_
    rintro e w1 ⟨rfl, rfl⟩
    rw [HA.out]
    go_wp2_with fail
    refine (zbR p _ hp).mono ?_
    rintro e w1 ⟨rfl, rfl⟩
    rw [HP.out]
    go_wp2
    go_ret
    exact ⟨rfl, (Below.refl _ w).alloc (Nat.le_refl _) _⟩
   ·
    have HP : Hid (zaz p = true) := hnp
    clear hnp
    go_enter Tryz.func136, Tryz.ntmps136
    go_wp2_with fail
    refine (zcf _ _ _ _).mono ?_
    rintro e w1 ⟨rfl, rfl⟩
    rw [HA.out]
    go_wp2_with fail
    refine (zbR p _ hp).mono ?_
    rintro e w1 ⟨rfl, rfl⟩
    rw [HP.out]
    go_wp2_with fail
    refine (zbR f _ hf).mono ?_
    rintro e w1 ⟨rfl, rfl⟩
    go_wp2
    go_ret
    exact ⟨rfl, (Below.refl _ w).alloc (Nat.le_refl _) _⟩
 ·
  have d8 : (k != 8) = true := bne_iff_ne.2 h8
  have d8' : (k == 8) = false := beq_eq_false_iff_ne.2 h8
  by_cases hpe : p = []
  ·
   subst hpe
   by_cases hfe : f = []
   ·
    subst hfe
    by_cases h1 : k = 1
    ·
     subst h1
     have HN := zjy a
     rw [HN]
     clear HN
     go_enter Tryz.func136, Tryz.ntmps136
     go_wp2_with fail
     refine (zeT _ _).mono ?_
     rintro e w1 ⟨rfl, rfl⟩
     go_wp2
     go_ret
     exact ⟨rfl, (Below.refl _ w).alloc (Nat.le_refl _) _⟩
    ·
     have d1 : (k == 1) = false := beq_eq_false_iff_ne.2 h1
     by_cases h2 : k = 2
     ·
      subst h2
      have HN := zjz a
      rw [HN]
      clear HN
      go_enter Tryz.func136, Tryz.ntmps136
      go_wp2_with fail
      refine (zcf _ _ _ _).mono ?_
      rintro e w1 ⟨rfl, rfl⟩
      go_wp2
      go_ret
      exact ⟨rfl, (Below.refl _ w).alloc (Nat.le_refl _) _⟩
     ·
      have d2 : (k == 2) = false := beq_eq_false_iff_ne.2 h2
      by_cases h37 : 3 ≤ k ∧ k ≤ 7
      ·
       have HN := nodeB_op k a h37
       rw [HN]
       clear HN
       rcases (show k = 3 ∨ k = 4 ∨ k = 5 ∨ k = 6 ∨ k = 7 by omega) with rfl | rfl | rfl | rfl | rfl
       all_goals
        go_enter Tryz.func136, Tryz.ntmps136
        go_wp2
        go_ret
        exact ⟨rfl, (Below.refl _ w).alloc (Nat.le_refl _) _⟩
      ·
       have HN := zh2 k a [] [] (by omega)
       rw [HN]
       clear HN
       have d3 : (k == 3) = false := beq_eq_false_iff_ne.2 (by omega)
       have d4 : (k == 4) = false := beq_eq_false_iff_ne.2 (by omega)
       have d5 : (k == 5) = false := beq_eq_false_iff_ne.2 (by omega)
       have d6 : (k == 6) = false := beq_eq_false_iff_ne.2 (by omega)
       have d7 : (k == 7) = false := beq_eq_false_iff_ne.2 (by omega)
       clear h37 h1 h2 h8
       go_enter Tryz.func136, Tryz.ntmps136
       go_wp2
       go_ret
       exact ⟨rfl, (Below.refl _ w).alloc (Nat.le_refl _) _⟩
   ·
    have HN := zes k a [] f h8 (Or.inr hfe)
    rw [HN]
    have hfb : f.isEmpty = false := by simp [hfe]
    clear HN hfe h8
    go_enter Tryz.func136, Tryz.ntmps136
    go_wp2
    go_ret
    exact ⟨rfl, (Below.refl _ w).alloc (Nat.le_refl _) _⟩
  ·
   have HN := zes k a p f h8 (Or.inl hpe)
   rw [HN]
   have hpb : p.isEmpty = false := by simp [hpe]
   clear HN hpe h8
   go_enter Tryz.func136, Tryz.ntmps136
   go_wp2
   go_ret
   exact ⟨rfl, (Below.refl _ w).alloc (Nat.le_refl _) _⟩
theorem kids_two (k a : Int) (p f : List UInt8) (h : 3 ≤ k ∧ k ≤ 6) : zbm (k, a, p, f) = 2 := if_pos h
theorem kids_if (a : Int) (p f : List UInt8) : zbm (7, a, p, f) = 3 := by unfold zbm; simp
theorem zjL (a : Int) (p f : List UInt8) : zbm (8, a, p, f) = a := by unfold zbm; simp
theorem zjK (k a : Int) (p f : List UInt8) (h : k < 3 ∨ 8 < k) : zbm (k, a, p, f) = 0 := by
 unfold zbm
 simp only
 rw [if_neg (by omega), if_neg (by omega), if_neg (by omega)]
set_option maxHeartbeats 2000000 in
set_option maxRecDepth 100000 in
theorem zfm (n : Nd) (w : World) :
 Calls Tryz.prog 127 #[zdc n] w fun e w' => e = .returned (.int .i64 (zbm n)) ∧ Below w.heap.size w w' := by
 obtain ⟨k, a, p, f⟩ := n
 unfold zdc
 simp only
 by_cases h36 : 3 ≤ k ∧ k ≤ 6
 ·
  rw [kids_two k a p f h36]
  rcases (show k = 3 ∨ k = 4 ∨ k = 5 ∨ k = 6 by omega) with rfl | rfl | rfl | rfl
  all_goals
   go_enter Tryz.func127, Tryz.ntmps127
   go_wp2
   go_ret
   exact ⟨rfl, (Below.refl _ w).alloc (Nat.le_refl _) _⟩
 ·
  by_cases h7 : k = 7
  ·
   subst h7
   rw [kids_if]
   go_enter Tryz.func127, Tryz.ntmps127
   go_wp2
   go_ret
   exact ⟨rfl, (Below.refl _ w).alloc (Nat.le_refl _) _⟩
  ·
   by_cases h8 : k = 8
   ·
    subst h8
    rw [zjL]
    go_enter Tryz.func127, Tryz.ntmps127
    go_wp2
    go_ret
    exact ⟨rfl, (Below.refl _ w).alloc (Nat.le_refl _) _⟩
   ·
    rw [zjK k a p f (by omega)]
    have d3 : (k == 3) = false := beq_eq_false_iff_ne.2 (by omega)
    have d4 : (k == 4) = false := beq_eq_false_iff_ne.2 (by omega)
    have d5 : (k == 5) = false := beq_eq_false_iff_ne.2 (by omega)
    have d6 : (k == 6) = false := beq_eq_false_iff_ne.2 (by omega)
    have d7 : (k == 7) = false := beq_eq_false_iff_ne.2 h7
    have d8 : (k == 8) = false := beq_eq_false_iff_ne.2 h8
    clear h36 h7 h8
    go_enter Tryz.func127, Tryz.ntmps127
    go_wp2
    go_ret
    exact ⟨rfl, (Below.refl _ w).alloc (Nat.le_refl _) _⟩
theorem zht {w w1 : World} {o : Obj} (h : Below (w.alloc o).heap.size (w.alloc o) w1) : Below w.heap.size w w1 :=
 ((Below.refl _ w).alloc (Nat.le_refl _) o).trans (h.mono (by simp))
def nd0 : Nd := (0, 0, [], [])
def zag (w : World) (a : Option Addr) (len : Nat) (ns : List Nd) : Prop :=
 ns.length = len ∧ ∀ j, j < len → ∃ b off, a = some ⟨b, off, none⟩ ∧ b < w.heap.size ∧ w.cell? ⟨b, off + j * 4, none⟩ = some (.int .i64 (ns.getD j nd0).1) ∧ w.cell? ⟨b, off + j * 4 + 1, none⟩ = some (.int .i64 (ns.getD j nd0).2.1) ∧ w.cell? ⟨b, off + j * 4 + 2, none⟩ = some (.string ⟨(ns.getD j nd0).2.2.1.toArray⟩) ∧ w.cell? ⟨b, off + j * 4 + 3, none⟩ = some (.string ⟨(ns.getD j nd0).2.2.2.toArray⟩)
theorem zag.keep {w w' : World} {a : Option Addr} {len : Nat} {ns : List Nd} (h : zag w a len ns) (hs : w.heap.size ≤ w'.heap.size) (hb : ∀ b off, a = some ⟨b, off, none⟩ → b < w.heap.size → w'.heap[b]? = w.heap[b]?) : zag w' a len ns := by
 refine ⟨h.1, fun j hj => ?_⟩
 obtain ⟨b, off, e, hlt, c0, c1, c2, c3⟩ := h.2 j hj
 have hk := hb b off e hlt
 exact ⟨b, off, e, Nat.lt_of_lt_of_le hlt hs, (World.cell?_of_block (a := ⟨b, off + j * 4, none⟩) hk).trans c0, (World.cell?_of_block (a := ⟨b, off + j * 4 + 1, none⟩) hk).trans c1, (World.cell?_of_block (a := ⟨b, off + j * 4 + 2, none⟩) hk).trans c2, (World.cell?_of_block (a := ⟨b, off + j * 4 + 3, none⟩) hk).trans c3⟩
theorem zag.below {w w' : World} {a : Option Addr} {len : Nat} {ns : List Nd} (h : zag w a len ns) (hb : Below w.heap.size w w') : zag w' a len ns :=
 h.keep hb.size (fun b _ _ hlt => hb.block b hlt)
theorem zag.at {w : World} {a : Option Addr} {len : Nat} {ns : List Nd} (h : zag w a len ns) (hz : 0 < len) : ∃ b off, a = some ⟨b, off, none⟩ ∧ b < w.heap.size ∧
 ∀ j, j < len → w.cell? ⟨b, off + j * 4, none⟩ = some (.int .i64 (ns.getD j nd0).1) ∧ w.cell? ⟨b, off + j * 4 + 1, none⟩ = some (.int .i64 (ns.getD j nd0).2.1) ∧ w.cell? ⟨b, off + j * 4 + 2, none⟩ = some (.string ⟨(ns.getD j nd0).2.2.1.toArray⟩) ∧ w.cell? ⟨b, off + j * 4 + 3, none⟩ = some (.string ⟨(ns.getD j nd0).2.2.2.toArray⟩) := by
 obtain ⟨b, off, rfl, hb, _⟩ := h.2 0 hz
 refine ⟨b, off, rfl, hb, fun j hj => ?_⟩
 obtain ⟨b', off', e, _, c⟩ := h.2 j hj
 injection e with e
 injection e with e1 e2
 subst e1 e2
 exact c
def zaX (ns : List Nd) : Prop := ∀ j, (ns.getD j nd0).2.2.1.length ≤ 1048576 ∧ (ns.getD j nd0).2.2.2.length ≤ 1048576
def zdh (ns : List Nd) (k o : Nat) : Int := match zbd (ns.drop k) o with | some d => (k : Int) + d | none => -1
theorem zhp {ns : List Nd} {k : Nat} (hk : k < ns.length) : zdh ns k 1 = endV ns (k : Int) := by rw [zcl]; unfold endN zdh; rw [if_pos hk]; cases zbd (ns.drop k) 1 <;> rfl
theorem ziI (ns : List Nd) (k : Nat) : zdh ns k 0 = (k : Int) := by unfold zdh; rw [zbE]; simp
theorem ziJ {ns : List Nd} {k o : Nat} (hk : ns.length ≤ k) : zdh ns k (o + 1) = -1 := by unfold zdh; rw [end_over hk]
theorem zkb {ns : List Nd} {k o : Nat} (hk : k < ns.length) (hn : zbu (ns.getD k nd0) = false) : zdh ns k (o + 1) = -1 := by
 have hg : ns.getD k nd0 = ns[k] := by simp [List.getD, hk]
 rw [hg] at hn
 unfold zdh
 rw [end_bad hk hn]
theorem zhq {ns : List Nd} {k o : Nat} (hk : k < ns.length) (hn : zbu (ns.getD k nd0) = true) : zdh ns k (o + 1) = zdh ns (k + 1) (o + zae (ns.getD k nd0)) := by
 have hg : ns.getD k nd0 = ns[k] := by simp [List.getD, hk]
 rw [hg] at hn ⊢
 unfold zdh
 rw [zka hk hn]
 cases zbd (ns.drop (k + 1)) (o + zae ns[k]) with
 | none => rfl
 | some d => simp only [Option.map_some]; omega
set_option maxHeartbeats 2000000 in
set_option maxRecDepth 100000 in
theorem zfZ (a : Option Addr) (len cap : Nat) (ns : List Nd) (at_ : Int) (w : World) (hin : zag w a len ns) (hsh : zaX ns) (hlen : len ≤ 1048576) :
 Calls Tryz.prog 128 #[.slice a len cap, .int .i64 at_] w fun e w' => e = .returned (.int .i64 (endV ns at_)) ∧ Below w.heap.size w w' := by
 obtain rfl : ns.length = len := hin.1
 by_cases hout : at_ < 0 ∨ (ns.length : Int) ≤ at_
 ·
  have HE : Hid (endV ns at_ = -1) := zfN ns at_ hout
  by_cases h0 : at_ < 0
  ·
   go_enter Tryz.func128, Tryz.ntmps128
   go_wp2
   go_ret
   exact ⟨by rw [HE.out]; rfl, Below.refl _ _⟩
  ·
   have h1 : (ns.length : Int) ≤ at_ := by omega
   clear hout
   go_enter Tryz.func128, Tryz.ntmps128
   go_wp2
   go_ret
   exact ⟨by rw [HE.out]; rfl, Below.refl _ _⟩
 ·
  obtain ⟨k0, rfl⟩ : ∃ k0 : Nat, at_ = (k0 : Int) := Int.eq_ofNat_of_zero_le (by omega)
  have hk0 : k0 < ns.length := by omega
  have h0 : ¬ (k0 : Int) < 0 := by omega
  have h1 : ¬ (ns.length : Int) ≤ (k0 : Int) := by omega
  have HE : Hid (zdh ns k0 1 = endV ns (k0 : Int)) := zhp hk0
  have HI : Hid (zag w a ns.length ns) := hin
  have HS : Hid (zaX ns) := hsh
  clear hout hin hsh
  go_enter Tryz.func128, Tryz.ntmps128
  go_wp2
  go_loopw [1, 5] (fun av ov wr => ∃ k o : Nat, av = .int .i64 k ∧ ov = .int .i64 o ∧ k ≤ ns.length ∧ o ≤ 1 + 3 * k ∧ Hid (zdh ns k o = endV ns (k0 : Int)) ∧ Below w.heap.size w wr) (fun av _ _ => ns.length - (intOf av).toNat)
  case atStart => exact ⟨k0, 1, rfl, rfl, by omega, by omega, HE, Below.refl _ _⟩
  case round =>
   obtain ⟨k, o, rfl, rfl, hk, ho, HT, hb⟩ := hrel
   clear HE
   by_cases hoz : o = 0
   ·
    subst hoz
    have HF : Hid ((k : Int) = endV ns (k0 : Int)) := by exact (by rw [← HT.out, ziI] : (k : Int) = endV ns (k0 : Int))
    go_wp2
    go_ret
    exact ⟨by rw [← HF.out]; rfl, hb⟩
   ·
    obtain ⟨o', rfl⟩ : ∃ o', o = o' + 1 := ⟨o - 1, by omega⟩
    have ho1 : (0 : Int) < ((o' + 1 : Nat) : Int) := by omega
    by_cases hkl : (ns.length : Int) ≤ (k : Int)
    ·
     have HF : Hid (endV ns (k0 : Int) = -1) := by exact (by rw [← HT.out, ziJ (by omega)] : endV ns (k0 : Int) = -1)
     clear hoz
     go_wp2
     go_ret
     exact ⟨by rw [HF.out]; rfl, hb⟩
    ·
     obtain ⟨b, off, rfl, hbl, hcells⟩ := (HI.out.below hb).at (by omega)
     obtain ⟨c0, c1, c2, c3⟩ := hcells k (by omega)
     have hs := HS.out k
     obtain ⟨n, hn⟩ : ∃ n, ns.getD k nd0 = n := ⟨_, rfl⟩
     rw [hn] at c0 c1 c2 c3 hs
     have HN : Hid (ns.getD k nd0 = n) := hn
     have HC : Hid (_) := fun W : World => zie n W hs.1 hs.2
     have HK : Hid (_) := fun W : World => zfm n W
     have hkv := @zbc n
     obtain ⟨kd, aa, p, f⟩ := n
     unfold zdc at HC HK
     simp only at c0 c1 c2 c3 hs HC HK
     clear hn hcells hoz
     go_wp2_with fail
     refine Calls.mono (HC.out _) ?_
     rintro e w1 ⟨rfl, hb1⟩
     have hB1 := hb.trans (hb1.mono hb.size)
     have bc := hb1.block b hbl
     have d0 := (World.cell?_of_block (a := ⟨b, off + k * 4, none⟩) bc).trans c0
     have d1 := (World.cell?_of_block (a := ⟨b, off + k * 4 + 1, none⟩) bc).trans c1
     have d2 := (World.cell?_of_block (a := ⟨b, off + k * 4 + 2, none⟩) bc).trans c2
     have d3 := (World.cell?_of_block (a := ⟨b, off + k * 4 + 3, none⟩) bc).trans c3
     clear c0 c1 c2 c3 hb1 hb HC bc
     rcases hnb : zbu (kd, aa, p, f) with _ | _
     ·
      have HF : Hid (endV ns (k0 : Int) = -1) := by exact (by rw [← HT.out, zkb (by omega) (by rw [HN.out]; exact hnb)] : endV ns (k0 : Int) = -1)
      clear hnb hkv
      go_wp2
      go_ret
      exact ⟨by rw [HF.out]; rfl, hB1⟩
     ·
      obtain ⟨hk1, hk3⟩ := hkv hnb
      have HT2 : Hid (zdh ns (k + 1) (o' + zae (kd, aa, p, f)) = endV ns (k0 : Int)) := by
       have := zhq (o := o') (show k < ns.length by omega) (by rw [HN.out]; exact hnb)
       rw [HN.out] at this
       exact (by rw [← this]; exact HT.out : zdh ns (k + 1) (o' + zae (kd, aa, p, f)) = endV ns (k0 : Int))
      clear hnb hkv
      go_wp2_with fail
      refine Calls.mono (HK.out _) ?_
      rintro e w2 ⟨rfl, hb2⟩
      rw [hk1]
      have hB2 := hB1.trans (hb2.mono hB1.size)
      obtain ⟨q, hq⟩ : ∃ q, zae (kd, aa, p, f) = q := ⟨_, rfl⟩
      rw [hq] at HT2 hk3 ⊢
      have hqi : (q : Int) ≤ 3 := by omega
      clear hk1 hq hb2 hB1 d0 d1 d2 d3 HK
      go_wp2
      go_roundw
      case rel => exact ⟨k + 1, o' + q, by go_num, by go_num, by omega, by omega, HT2, hB2⟩
      case measure => simp [intOf]; omega

def Code (w : World) (B : Nat) (a : Option Addr) (len : Nat) : Prop :=
 ∀ j, j < len → ∃ b off x, a = some ⟨b, off, none⟩ ∧ b < B ∧ w.cell? ⟨b, off + j, none⟩ = some (.int .u8 x) ∧ 0 ≤ x ∧ x ≤ 255
structure Cur (w : World) (B : Nat) (a : Option Addr) (len cap : Nat) : Prop where
 code : Code w B a len
 short : len ≤ 4096
 c0 : w.cell? ⟨B, 0, none⟩ = some (.slice a len cap)
 c12 : ∃ i : Nat, ∃ h : Int, i ≤ len ∧ w.cell? ⟨B, 1, none⟩ = some (.int .i64 i) ∧ w.cell? ⟨B, 2, none⟩ = some (.int .i64 h)
 free : ∀ j, w.frozen? ⟨B, j, none⟩ = false
theorem zb7 (w : World) (row : Option Nat) : w.grownBy w.drew row := ⟨rfl, rfl, rfl, Nat.le_refl _, fun _ _ _ => rfl⟩
theorem zay (w : World) (B o : Nat) (v : Value) : w.grownBy (w.setCell ⟨B, o, none⟩ v) (some B) :=
 ⟨rfl, rfl, rfl, by simp, fun k _ hne => Below.heap_setCell w _ v k (fun e => hne (by rw [e]))⟩
theorem Cur.kept {w w' : World} {B : Nat} {a : Option Addr} {len cap : Nat} {row : Option Nat} (h : Cur w B a len cap) (hg : w.grownBy w' row) (hne : ∀ k, row = some k → B < k) : Cur w' B a len cap := by
 have hlt : B < w.heap.size := World.block_lt_of_cell? w ⟨B, 0, none⟩ h.c0
 have hb : ∀ k, k ≤ B → w'.heap[k]? = w.heap[k]? := fun k hk => hg.block k (by omega) (fun e => by have := hne k e.symm; omega)
 have hB := hb B (Nat.le_refl _)
 refine ⟨?_, h.short, ?_, ?_, ?_⟩
 ·
  intro j hj
  obtain ⟨b, off, x, e1, e2, e3, e0⟩ := h.code j hj
  exact ⟨b, off, x, e1, e2, (World.cell?_of_block (hb b (by omega))).trans e3, e0⟩
 ·
  exact (World.cell?_of_block hB).trans h.c0
 ·
  obtain ⟨i, n, hi, e1, e2⟩ := h.c12
  exact ⟨i, n, hi, (World.cell?_of_block hB).trans e1, (World.cell?_of_block hB).trans e2⟩
 ·
  intro j
  exact (World.frozen?_of_block hB).trans (h.free j)
theorem Cur.lt {w : World} {B : Nat} {a : Option Addr} {len cap : Nat} (h : Cur w B a len cap) : B < w.heap.size := World.block_lt_of_cell? w ⟨B, 0, none⟩ h.c0
theorem Cur.set1 {w : World} {B : Nat} {a : Option Addr} {len cap : Nat} (h : Cur w B a len cap) (i : Nat) (hi : i ≤ len) : Cur (w.setCell ⟨B, 1, none⟩ (.int .i64 i)) B a len cap := by
 obtain ⟨i0, n, _, e1, e2⟩ := h.c12
 refine ⟨?_, h.short, ?_, ⟨i, n, hi, World.cell?_setCell_same _ _ _ e1, ?_⟩, ?_⟩
 ·
  intro j hj
  obtain ⟨b, off, x, e3, e4, e5, e0⟩ := h.code j hj
  exact ⟨b, off, x, e3, e4, (World.cell?_setCell_other _ _ _ _ (by intro e; injection e with e6; omega)).trans e5, e0⟩
 ·
  exact (World.cell?_setCell_other _ _ _ _ (by simp)).trans h.c0
 ·
  exact (World.cell?_setCell_other _ _ _ _ (by simp)).trans e2
 ·
  intro j; rw [World.frozen?_setCell]; exact h.free j
theorem Cur.set2 {w : World} {B : Nat} {a : Option Addr} {len cap : Nat} (h : Cur w B a len cap) (m : Int) : Cur (w.setCell ⟨B, 2, none⟩ (.int .i64 m)) B a len cap := by
 obtain ⟨i0, n, hi, e1, e2⟩ := h.c12
 refine ⟨?_, h.short, ?_, ⟨i0, m, hi, ?_, World.cell?_setCell_same _ _ _ e2⟩, ?_⟩
 ·
  intro j hj
  obtain ⟨b, off, x, e3, e4, e5, e0⟩ := h.code j hj
  exact ⟨b, off, x, e3, e4, (World.cell?_setCell_other _ _ _ _ (by intro e; injection e with e6; omega)).trans e5, e0⟩
 ·
  exact (World.cell?_setCell_other _ _ _ _ (by simp)).trans h.c0
 ·
  exact (World.cell?_setCell_other _ _ _ _ (by simp)).trans e1
 ·
  intro j; rw [World.frozen?_setCell]; exact h.free j
theorem Cur.drew {w : World} {B : Nat} {a : Option Addr} {len cap : Nat} (h : Cur w B a len cap) : Cur w.drew B a len cap := ⟨h.code, h.short, h.c0, h.c12, h.free⟩
set_option maxHeartbeats 1000000 in
set_option maxRecDepth 100000 in
theorem byteNo (w : World) (B : Nat) (a : Option Addr) (len cap i : Nat) (n : Int) (hi : len ≤ i)
 (c0 : w.cell? ⟨B, 0, none⟩ = some (.slice a len cap)) (c1 : w.cell? ⟨B, 1, none⟩ = some (.int .i64 i)) (c2 : w.cell? ⟨B, 2, none⟩ = some (.int .i64 n)) (f2 : w.frozen? ⟨B, 2, none⟩ = false) :
 Calls Tryz.prog 73 #[.pointer (some ⟨B, 0, none⟩)] w fun e w' => ∃ x m : Int, e = .returned (.int .i64 x) ∧ 0 ≤ x ∧ x ≤ 255 ∧ w' = (w.setCell ⟨B, 2, none⟩ (.int .i64 m)).drew.drew := by
 have hA := and255
 go_enter Tryz.func73, Tryz.ntmps73
 go_wp2
 go_region
 all_goals (try go_wp2)
 go_region
 all_goals (try go_wp2)
 go_ret
 exact ⟨_, _, rfl, by omega, by omega, rfl⟩
set_option maxHeartbeats 1000000 in
set_option maxRecDepth 100000 in
theorem byteYes (w : World) (B b off : Nat) (len cap i : Nat) (n x : Int) (hi : i < len) (hil : len ≤ 4096)
 (c0 : w.cell? ⟨B, 0, none⟩ = some (.slice (some ⟨b, off, none⟩) len cap)) (c1 : w.cell? ⟨B, 1, none⟩ = some (.int .i64 i)) (c2 : w.cell? ⟨B, 2, none⟩ = some (.int .i64 n)) (f1 : w.frozen? ⟨B, 1, none⟩ = false) (f2 : w.frozen? ⟨B, 2, none⟩ = false)
 (hbB : b ≠ B) (cx : w.cell? ⟨b, off + i, none⟩ = some (.int .u8 x)) :
 Calls Tryz.prog 73 #[.pointer (some ⟨B, 0, none⟩)] w fun e w' => ∃ x m : Int, e = .returned (.int .i64 x) ∧ 0 ≤ x ∧ x ≤ 255 ∧ w' = ((w.setCell ⟨B, 2, none⟩ (.int .i64 m)).setCell ⟨B, 1, none⟩ (.int .i64 ((i + 1 : Nat) : Int))).drew.drew.drew := by
 have hA := and255
 have hBb : B ≠ b := fun e => hbB e.symm
 go_enter Tryz.func73, Tryz.ntmps73
 go_wp2
 go_region
 all_goals (try go_wp2)
 go_region
 all_goals (try go_wp2)
 go_region
 all_goals (try go_wp2)
 go_ret
 exact ⟨_, _, rfl, by omega, by omega, rfl⟩
theorem zdC (w : World) (B : Nat) (a : Option Addr) (len cap : Nat) (h : Cur w B a len cap) :
 Calls Tryz.prog 73 #[.pointer (some ⟨B, 0, none⟩)] w fun e w' => ∃ x : Int, e = .returned (.int .i64 x) ∧ 0 ≤ x ∧ x ≤ 255 ∧ Cur w' B a len cap ∧ w.grownBy w' (some B) := by
 obtain ⟨i, n, hi, c1, c2⟩ := h.c12
 have hs := h.short
 by_cases hlt : i < len
 ·
  obtain ⟨b, off, x, rfl, hb, cx, _⟩ := h.code i hlt
  refine (byteYes w B b off len cap i n x hlt hs h.c0 c1 c2 (h.free 1) (h.free 2) (by omega) cx).mono ?_
  rintro e w' ⟨y, m, rfl, h0, h1, rfl⟩
  exact ⟨y, rfl, h0, h1, ((h.set2 m).set1 (i + 1) (by omega)).drew.drew.drew, ((((zay _ _ _ _).trans (zay _ _ _ _)).trans (zb7 _ _)).trans (zb7 _ _)).trans (zb7 _ _)⟩
 ·
  refine (byteNo w B a len cap i n (by omega) h.c0 c1 c2 (h.free 2)).mono ?_
  rintro e w' ⟨y, m, rfl, h0, h1, rfl⟩
  exact ⟨y, rfl, h0, h1, (h.set2 m).drew.drew, ((zay _ _ _ _).trans (zb7 _ _)).trans (zb7 _ _)⟩
set_option maxHeartbeats 1000000 in
set_option maxRecDepth 100000 in
theorem zaf (w : World) (B : Nat) (a : Option Addr) (len cap : Nat) (n : Int) (hn : 0 < n) (hn' : n ≤ 4294967296) (h : Cur w B a len cap) :
 Calls Tryz.prog 53 #[.pointer (some ⟨B, 0, none⟩), .int .i64 n] w fun e w' => ∃ x : Int, e = .returned (.int .i64 x) ∧ 0 ≤ x ∧ x < n ∧ Cur w' B a len cap ∧ w.grownBy w' (some B) := by
 have hz : (n == 0) = false := beq_eq_false_iff_ne.2 (by omega)
 by_cases hs : n ≤ 256
 ·
  go_enter Tryz.func53, Tryz.ntmps53
  go_wp2_with fail
  refine (zdC _ B a len cap h).mono ?_
  rintro e w1 ⟨x, rfl, h0, h1, hc, hg⟩
  go_wp2
  go_ret
  exact ⟨_, rfl, Int.emod_nonneg _ (by omega), Int.emod_lt_of_pos _ hn, hc, hg⟩
 ·
  go_enter Tryz.func53, Tryz.ntmps53
  go_wp2_with fail
  refine (zdC _ B a len cap h).mono ?_
  rintro e w1 ⟨x1, rfl, l1, u1, hc1, hg1⟩
  go_wp2_with fail
  refine (zdC _ B a len cap hc1).mono ?_
  rintro e w2 ⟨x2, rfl, l2, u2, hc2, hg2⟩
  go_wp2_with fail
  refine (zdC _ B a len cap hc2).mono ?_
  rintro e w3 ⟨x3, rfl, l3, u3, hc3, hg3⟩
  go_wp2_with fail
  refine (zdC _ B a len cap hc3).mono ?_
  rintro e w4 ⟨x4, rfl, l4, u4, hc4, hg4⟩
  go_wp2
  go_ret
  exact ⟨_, rfl, Int.emod_nonneg _ (by omega), Int.emod_lt_of_pos _ hn, hc4, ((hg1.trans hg2).trans hg3).trans hg4⟩
set_option maxHeartbeats 1000000 in
set_option maxRecDepth 100000 in
theorem zbe (w : World) (B : Nat) (a : Option Addr) (len cap : Nat) (n : Int) (hn : 0 < n) (hn' : n ≤ 4294967296) (h : Cur w B a len cap) :
 Calls Tryz.prog 52 #[.pointer (some ⟨B, 0, none⟩), .int .i64 n] w fun e w' => ∃ x : Bool, e = .returned (.bool x) ∧ Cur w' B a len cap ∧ w.grownBy w' (some B) := by
 go_enter Tryz.func52, Tryz.ntmps52
 go_wp2_with fail
 refine (zaf _ B a len cap n hn hn' h).mono ?_
 rintro e w1 ⟨x, rfl, h0, h1, hc, hg⟩
 go_wp2
 go_ret
 exact ⟨_, rfl, hc, hg⟩
theorem zkk (w : World) (a : Option Addr) (len cap : Nat) (m : Int) (hl : len ≤ 4096) (hc : Code w w.heap.size a len) :
 Cur (w.alloc (.cells #[.slice a len cap, .int .i64 0, .int .i64 m] 79)) w.heap.size a len cap := by
 refine ⟨?_, hl, by simp, ⟨0, m, Nat.zero_le _, by simp, by simp⟩, fun j => by simp⟩
 intro j hj
 obtain ⟨b, off, x, e1, e2, e3, e0⟩ := hc j hj
 exact ⟨b, off, x, e1, e2, (World.cell?_of_block (Below.heap_alloc _ _ _ e2)).trans e3, e0⟩
set_option maxHeartbeats 1000000 in
set_option maxRecDepth 100000 in
theorem newSome (w : World) (b off len cap : Nat) (hl : len ≤ 4096) (hc : ∀ j, j < len → ∃ x, w.cell? ⟨b, off + j, none⟩ = some (.int .u8 x)) :
 Calls Tryz.prog 35 #[.slice (some ⟨b, off, none⟩) len cap] w fun e w' => e = .returned (.pointer (some ⟨w.heap.size, 0, none⟩)) ∧ ∃ m : Int, w' = w.alloc (.cells #[.slice (some ⟨b, off, none⟩) len cap, .int .i64 0, .int .i64 m] 79) := by
 have HC : Hid (∀ j, j < len → ∃ x, w.cell? ⟨b, off + j, none⟩ = some (.int .u8 x)) := hc
 clear hc
 go_enter Tryz.func35, Tryz.ntmps35
 go_wp2
 go_loop [3, 4] (fun h i => ∃ k : Nat, ∃ m : Int, k ≤ len ∧ i = .int .i64 k ∧ h = .int .i64 m) (fun _ i => len - (intOf i).toNat)
 case atStart => exact ⟨0, _, Nat.zero_le _, rfl, rfl⟩
 case round =>
  obtain ⟨k, m, hk, rfl, rfl⟩ := hrel
  by_cases hlt : k < len
  ·
   obtain ⟨x, cx⟩ := HC.out k hlt
   go_wp2
   go_round
   case rel => exact ⟨k + 1, _, by omega, by go_num, rfl⟩
   case measure => simp [intOf]; omega
  ·
   go_wp2
   go_ret
   exact ⟨rfl, m, rfl⟩
set_option maxHeartbeats 1000000 in
set_option maxRecDepth 100000 in
theorem newNone (w : World) (a : Option Addr) (cap : Nat) :
 Calls Tryz.prog 35 #[.slice a 0 cap] w fun e w' => e = .returned (.pointer (some ⟨w.heap.size, 0, none⟩)) ∧ ∃ m : Int, w' = w.alloc (.cells #[.slice a 0 cap, .int .i64 0, .int .i64 m] 79) := by
 go_enter Tryz.func35, Tryz.ntmps35
 go_wp2
 refine wp_loop_rounds 1 ?_
 rw [rounds_succ]
 go_wp2
 go_ret
 exact ⟨rfl, _, rfl⟩
theorem drawNew (w : World) (a : Option Addr) (len cap : Nat) (hl : len ≤ 4096) (hc : Code w w.heap.size a len) :
 Calls Tryz.prog 35 #[.slice a len cap] w fun e w' => e = .returned (.pointer (some ⟨w.heap.size, 0, none⟩)) ∧ Cur w' w.heap.size a len cap ∧ w.grownBy w' none := by
 by_cases hz : len = 0
 ·
  subst hz
  refine (newNone w a cap).mono ?_
  rintro e w' ⟨rfl, m, rfl⟩
  exact ⟨rfl, zkk w a 0 cap m hl hc, World.grownBy_alloc _ _ _⟩
 ·
  obtain ⟨b, off, x, rfl, _, _⟩ := hc 0 (by omega)
  refine (newSome w b off len cap hl ?_).mono ?_
  ·
   intro j hj
   obtain ⟨b', off', x', e1, _, e3, _⟩ := hc j hj
   injection e1 with e1
   injection e1 with e4 e5
   subst e4 e5
   exact ⟨x', e3⟩
  ·
   rintro e w' ⟨rfl, m, rfl⟩
   exact ⟨rfl, zkk w _ len cap m hl hc, World.grownBy_alloc _ _ _⟩
theorem Cur.below {w w' : World} {B : Nat} {a : Option Addr} {len cap : Nat} (h : Cur w B a len cap) (hb : Below w.heap.size w w') : Cur w' B a len cap :=
 h.kept (row := none) ⟨hb.os, hb.tape, hb.output, hb.size, fun k hk _ => hb.block k hk⟩ (by simp)
def zah (w : World) (a : Option Addr) (len : Nat) (ts : List (List UInt8)) : Prop :=
 ts.length = len ∧ ∀ j, j < len → ∃ b off, a = some ⟨b, off, none⟩ ∧ b < w.heap.size ∧ w.cell? ⟨b, off + j, none⟩ = some (.string ⟨(ts.getD j []).toArray⟩)
theorem zah.below {w w' : World} {a : Option Addr} {len : Nat} {ts : List (List UInt8)} (h : zah w a len ts) (hb : Below w.heap.size w w') : zah w' a len ts := by
 refine ⟨h.1, fun j hj => ?_⟩
 obtain ⟨b, off, e, hlt, c⟩ := h.2 j hj
 exact ⟨b, off, e, Nat.lt_of_lt_of_le hlt hb.size, (hb.cell (p := ⟨b, off + j, none⟩) hlt).trans c⟩
theorem zah.at {w : World} {a : Option Addr} {len : Nat} {ts : List (List UInt8)} (h : zah w a len ts) (hz : 0 < len) : ∃ b off, a = some ⟨b, off, none⟩ ∧ b < w.heap.size ∧ ∀ j, j < len → w.cell? ⟨b, off + j, none⟩ = some (.string ⟨(ts.getD j []).toArray⟩) := by
 obtain ⟨b, off, rfl, hb, _⟩ := h.2 0 hz
 refine ⟨b, off, rfl, hb, fun j hj => ?_⟩
 obtain ⟨b', off', e, _, c⟩ := h.2 j hj
 injection e with e
 injection e with e1 e2
 subst e1 e2
 exact c
theorem zbt {w : World} {base n : Nat} {v : Value} {ts : List (List UInt8)} (h : w.ownsRow base 9 1 v n (strV ts)) : ts.length = n ∧ ∃ a cap, v = .slice a n cap ∧ zah w a n ts := by
 have hlen : ts.length = n := by have := h.1; rw [strV_len] at this; omega
 refine ⟨hlen, ?_⟩
 rcases zaH h with ⟨rfl, rfl, _⟩ | ⟨g, cp, rfl⟩
 ·
  exact ⟨none, 0, rfl, hlen, fun j hj => by omega⟩
 ·
  refine ⟨some ⟨g, 0, none⟩, cp, rfl, hlen, fun j hj => ⟨g, 0, rfl, (h.lt g rfl).2, ?_⟩⟩
  rw [Nat.zero_add]; exact zco h hlen j hj
end Go.Proofs.YtenaaneckobdpaaGreat
