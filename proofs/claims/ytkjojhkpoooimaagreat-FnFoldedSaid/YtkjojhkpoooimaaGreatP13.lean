/-
  Parts of one proof, one behind the other: Math11F, TreeS6, FoldS, Math11V, Math11S, ProjS.
-/
import Derived.Test.YtkjojhkpoooimaaGreatP12
import Derived.Test.YtkjojhkpoooimaaGreatP2
import Derived.Test.YtkjojhkpoooimaaGreatP1
import Derived.Test.YtkjojhkpoooimaaGreatP10
import Derived.Test.YtkjojhkpoooimaaGreatP5
import Derived.Deep.RegionHeld3
import Derived.Deep.Cut

/-! Plain facts of chapter 11: folding. -/
namespace Go.Proofs.YtkjojhkpoooimaaGreat
open Go.RowKit

def isOne11 (t : List Nd) : Bool := decide (t.length = 1 ∧ (t.getD 0 nd0).1 = 1)
def isNum11 (t : List Nd) (v : Int) : Bool := isOne11 t && decide ((t.getD 0 nd0).2.1 = v)
/-- What is made of a node and of what its parts have become. -/
def mk11 (n : Nd) (rs : List (List Nd)) : List Nd :=
  if 3 ≤ n.1 ∧ n.1 ≤ 6 then
    if (isOne11 (rs.getD 0 []) && isOne11 (rs.getD 1 [])) = true then
      if doneB n.1 ((rs.getD 0 []).getD 0 nd0).2.1 ((rs.getD 1 []).getD 0 nd0).2.1 = true then [(1, doneV n.1 ((rs.getD 0 []).getD 0 nd0).2.1 ((rs.getD 1 []).getD 0 nd0).2.1, [], [])] else n :: rs.flatten
    else if (decide (n.1 ≤ 4) && isNum11 (rs.getD 1 []) 0 || decide (5 ≤ n.1) && isNum11 (rs.getD 1 []) 1) = true then rs.getD 0 []
    else if (decide (n.1 = 3) && isNum11 (rs.getD 0 []) 0 || decide (n.1 = 5) && isNum11 (rs.getD 0 []) 1) = true then rs.getD 1 []
    else n :: rs.flatten
  else if n.1 = 7 then
    if isOne11 (rs.getD 0 []) = true then (if isNum11 (rs.getD 0 []) 0 = true then rs.getD 2 [] else rs.getD 1 []) else n :: rs.flatten
  else n :: rs.flatten
/-- What mk11 gives: all of it; one number; or one of the parts. -/
theorem mk11_cases (n : Nd) (rs : List (List Nd)) : mk11 n rs = n :: rs.flatten ∨ (3 ≤ n.1 ∧ n.1 ≤ 6 ∧ ∃ v, -2147483648 ≤ v ∧ v ≤ 2147483647 ∧ mk11 n rs = [(1, v, [], [])]) ∨ (3 ≤ n.1 ∧ n.1 ≤ 6 ∧ (mk11 n rs = rs.getD 0 [] ∨ mk11 n rs = rs.getD 1 [])) ∨ (n.1 = 7 ∧ (mk11 n rs = rs.getD 1 [] ∨ mk11 n rs = rs.getD 2 [])) := by
  unfold mk11
  split
  · rename_i h
    split
    · split
      · exact Or.inr (Or.inl ⟨h.1, h.2, _, (doneV_bd _ _ _).1, (doneV_bd _ _ _).2, rfl⟩)
      · exact Or.inl rfl
    · split
      · exact Or.inr (Or.inr (Or.inl ⟨h.1, h.2, Or.inl rfl⟩))
      · split
        · exact Or.inr (Or.inr (Or.inl ⟨h.1, h.2, Or.inr rfl⟩))
        · exact Or.inl rfl
  · split
    · rename_i h7
      split
      · split
        · exact Or.inr (Or.inr (Or.inr ⟨h7, Or.inr rfl⟩))
        · exact Or.inr (Or.inr (Or.inr ⟨h7, Or.inl rfl⟩))
      · exact Or.inl rfl
    · exact Or.inl rfl

/-- What a tree becomes. -/
inductive Fo : List Nd → List Nd → Prop
  | mk (n : Nd) (ks rs : List (List Nd)) : nodeB n = true → ks.length = kidsN n → rs.length = ks.length → (∀ k ∈ ks, One k) → (∀ i, i < ks.length → Fo (ks.getD i []) (rs.getD i [])) → Fo (n :: ks.flatten) (mk11 n rs)
theorem Fo.one {s r : List Nd} (h : Fo s r) : One s := by
  cases h with
  | mk n ks rs hn hk hr ho hf => exact One.mk n ks hn hk ho
theorem mem_getD {α : Type} {l : List α} {x d : α} (h : x ∈ l) : ∃ i, i < l.length ∧ l.getD i d = x := by
  obtain ⟨i, hi, e⟩ := List.mem_iff_getElem.1 h
  exact ⟨i, hi, by simp [List.getD, hi, e]⟩
theorem getD_mem11 {α : Type} {l : List α} {i : Nat} {d : α} (h : i < l.length) : l.getD i d ∈ l := by
  simp [List.getD, h]
theorem num_one {v : Int} (h0 : -2147483648 ≤ v) (h1 : v ≤ 2147483647) : One [((1, v, [], []) : Nd)] := by
  have hn : nodeB ((1, v, [], []) : Nd) = true := decide_eq_true (Or.inl ⟨rfl, ⟨h0, h1⟩, rfl, rfl⟩)
  exact One.mk (1, v, [], []) [] hn rfl (fun k hk => by cases hk)
theorem kids_four {n : Nd} (h : 3 ≤ n.1 ∧ n.1 ≤ 6) : kidsN n = 2 := if_pos h
theorem kids_seven {n : Nd} (h : n.1 = 7) : kidsN n = 3 := by unfold kidsN; rw [if_neg (by omega), if_pos h]
/-- What it becomes is one tree, has no more nodes, and each is one of its own or a number. -/
theorem Fo.res {s r : List Nd} (h : Fo s r) : One r ∧ r.length ≤ s.length ∧ ∀ n ∈ r, n ∈ s ∨ n.1 = 1 := by
  induction h with
  | mk n ks rs hn hk hr ho _ ih =>
    have hall : One (n :: rs.flatten) := One.mk n rs hn (by omega) (fun x hx => by
      obtain ⟨i, hi, e⟩ := mem_getD (d := []) hx
      rw [← e]; exact (ih i (by omega)).1)
    have hlen : rs.flatten.length ≤ ks.flatten.length := by
      have key : ∀ (a b : List (List Nd)), a.length = b.length → (∀ i, i < b.length → (a.getD i []).length ≤ (b.getD i []).length) → a.flatten.length ≤ b.flatten.length := by
        intro a
        induction a with
        | nil => intro b _ _; simp
        | cons x a iha =>
          intro b hb hl
          cases b with
          | nil => cases hb
          | cons y b =>
            have h0 := hl 0 (by simp)
            have h1 := iha b (by simpa using hb) (fun i hi => by have := hl (i + 1) (by simpa using hi); simpa using this)
            simp only [List.flatten_cons, List.length_append]
            simp at h0
            omega
      exact key rs ks hr (fun i hi => (ih i hi).2.1)
    have hpart : ∀ i, i < ks.length → One (rs.getD i []) ∧ (rs.getD i []).length ≤ (n :: ks.flatten).length ∧ ∀ m ∈ rs.getD i [], m ∈ n :: ks.flatten ∨ m.1 = 1 := fun i hi => by
      obtain ⟨h1, h2, h3⟩ := ih i hi
      have hmem : ks.getD i [] ∈ ks := getD_mem11 hi
      refine ⟨h1, ?_, fun m hm => ?_⟩
      · have : (ks.getD i []).length ≤ ks.flatten.length := (List.sublist_flatten_of_mem hmem).length_le
        simp only [List.length_cons]
        omega
      · rcases h3 m hm with h4 | h4
        · exact Or.inl (List.mem_cons_of_mem _ (List.mem_flatten.2 ⟨_, hmem, h4⟩))
        · exact Or.inr h4
    rcases mk11_cases n rs with e | ⟨_, _, v, h0, h1, e⟩ | ⟨h3, h6, e⟩ | ⟨h7, e⟩
    · rw [e]
      refine ⟨hall, by simp only [List.length_cons]; omega, fun m hm => ?_⟩
      rcases List.mem_cons.1 hm with h4 | h4
      · exact Or.inl (by rw [h4]; exact List.mem_cons_self)
      · obtain ⟨x, hx, h5⟩ := List.mem_flatten.1 h4
        obtain ⟨i, hi, e2⟩ := mem_getD (d := []) hx
        rw [← e2] at h5
        exact (hpart i (by omega)).2.2 m h5
    · rw [e]
      exact ⟨num_one h0 h1, by simp, fun m hm => Or.inr (by rw [List.mem_singleton.1 hm])⟩
    · have hk2 := kids_four ⟨h3, h6⟩
      rcases e with e | e
      · rw [e]; exact hpart 0 (by omega)
      · rw [e]; exact hpart 1 (by omega)
    · have hk3 := kids_seven h7
      rcases e with e | e
      · rw [e]; exact hpart 1 (by omega)
      · rw [e]; exact hpart 2 (by omega)
/-- Again it is as it is. -/
theorem Fo.again {s r : List Nd} (h : Fo s r) : Fo r r := by
  induction h with
  | mk n ks rs hn hk hr ho hfo ih =>
    have hones : ∀ x ∈ rs, One x := fun x hx => by
      obtain ⟨i, hi, e⟩ := mem_getD (d := []) hx
      rw [← e]; exact (hfo i (by omega)).res.1
    have hnum : ∀ v : Int, -2147483648 ≤ v → v ≤ 2147483647 → Fo [((1, v, [], []) : Nd)] [((1, v, [], []) : Nd)] := fun v h0 h1 => by
      have hn : nodeB ((1, v, [], []) : Nd) = true := decide_eq_true (Or.inl ⟨rfl, ⟨h0, h1⟩, rfl, rfl⟩)
      have h := Fo.mk (1, v, [], []) [] [] hn rfl rfl (fun k hk => by cases hk) (fun i hi => absurd hi (Nat.not_lt_zero _))
      exact h
    rcases mk11_cases n rs with e | ⟨_, _, v, h0, h1, e⟩ | ⟨h3, h6, e⟩ | ⟨h7, e⟩
    · have h := Fo.mk n rs rs hn (by omega) rfl hones (fun i hi => ih i (by omega))
      rw [e] at h
      rw [e]
      exact h
    · rw [e]; exact hnum v h0 h1
    · have hk2 := kids_four ⟨h3, h6⟩
      rcases e with e | e
      · rw [e]; exact ih 0 (by omega)
      · rw [e]; exact ih 1 (by omega)
    · have hk3 := kids_seven h7
      rcases e with e | e
      · rw [e]; exact ih 1 (by omega)
      · rw [e]; exact ih 2 (by omega)
/-- It becomes but one tree. -/
theorem Fo.uniq {s r : List Nd} (h : Fo s r) : ∀ {r' : List Nd}, Fo s r' → r = r' := by
  induction h with
  | mk n ks rs hn hk hr ho _ ih =>
    intro r' h'
    generalize hs : n :: ks.flatten = s at h'
    cases h' with
    | mk m js qs hm hj hq hoj hfj =>
      injection hs with e1 e2
      subst e1
      obtain rfl := ones_inj ho hoj (by omega) e2
      have : rs = qs := by
        refine List.ext_getElem (by omega) (fun i h1 h2 => ?_)
        have h3 := ih i (by omega) (hfj i (by omega))
        simpa [List.getD, h1, h2] using h3
      rw [this]
/-- By places, as the code does it. -/
def fold11 : Nat → List Nd → Int → List Nd
  | 0, _, _ => []
  | d + 1, t, a => mk11 (t.getD a.toNat nd0) ((pts10 t a).map (fold11 d t))
theorem pts_sub {t post : List Nd} {a : Nat} {n : Nd} {ks : List (List Nd)} (h : t.drop a = (n :: ks.flatten) ++ post) (hk : ks.length = kidsN n) (ho : ∀ k ∈ ks, One k) : t.getD a nd0 = n ∧ (pts10 t (a : Int)).length = ks.length ∧ ∀ i, i < ks.length → ∃ post', (pts10 t (a : Int)).getD i 0 = ((a + 1 + (ks.take i).flatten.length : Nat) : Int) ∧ t.drop (a + 1 + (ks.take i).flatten.length) = ks.getD i [] ++ post' := by
  have ha : t.getD a nd0 = n := by
    have h1 := congrArg (fun l => l.getD 0 nd0) h
    simp only [List.cons_append] at h1
    rw [show (n :: (ks.flatten ++ post)).getD 0 nd0 = n from rfl] at h1
    rw [← h1]
    simp [List.getD, List.getElem?_drop]
  refine ⟨ha, by rw [pts_len, ha, hk], fun i hi => ?_⟩
  obtain ⟨e1, e2⟩ := chain_sub h ho i (by omega)
  refine ⟨(ks.drop (i + 1)).flatten ++ post, ?_, ?_⟩
  · have hc : (pts10 t (a : Int)).getD i 0 = chain t i ((a + 1 : Nat) : Int) := by
      have key : ∀ (k : Nat) (q : Int) (i : Nat), i < k → (partsGo t k q).getD i 0 = chain t i q := by
        intro k
        induction k with
        | zero => intro q i hi; omega
        | succ k ihk =>
          intro q i hi
          cases i with
          | zero => rfl
          | succ i => rw [partsGo]; exact ihk (endV t q) i (by omega)
      unfold pts10
      rw [Int.toNat_natCast, ha]
      exact key (kidsN n) ((a : Int) + 1) i (by omega)
    rw [hc, e1]
  · rw [e2, List.drop_eq_getElem_cons hi, List.flatten_cons, List.append_assoc]
    simp [List.getD, hi]
theorem fold_fo {s : List Nd} (h : One s) : ∀ (d : Nat) (t post : List Nd) (a : Nat), s.length ≤ d → t.drop a = s ++ post → Fo s (fold11 d t (a : Int)) := by
  induction h with
  | mk n ks hn hk ho ih =>
    intro d t post a hd ht
    rcases d with _ | d
    · simp at hd
    · obtain ⟨e1, e2, e3⟩ := pts_sub ht hk ho
      rw [fold11, Int.toNat_natCast, e1]
      refine Fo.mk n ks _ hn hk (by rw [List.length_map, e2]) ho (fun i hi => ?_)
      obtain ⟨post', e4, e5⟩ := e3 i hi
      have e6 : ((pts10 t (a : Int)).map (fold11 d t)).getD i [] = fold11 d t ((a + 1 + (ks.take i).flatten.length : Nat) : Int) := by
        rw [← e4]
        simp [List.getD, e2, hi]
      rw [e6]
      have hm : ks.getD i [] ∈ ks := getD_mem11 hi
      refine ih _ hm d t post' _ ?_ e5
      have h1 : (ks.getD i []).length ≤ ks.flatten.length := (List.sublist_flatten_of_mem hm).length_le
      simp only [List.length_cons] at hd
      omega
/-- FoldedTree. -/
def foldT (t : List Nd) : List Nd := if treeB t = true then fold11 60 t 0 else []
theorem foldT_fo {t : List Nd} (h : treeB t = true) : Fo t (foldT t) := by
  unfold foldT
  rw [if_pos h]
  obtain ⟨h1, h2⟩ := treeB_one.1 h
  exact fold_fo h2 60 t [] 0 h1 (by simp)
theorem foldT_ok {t : List Nd} (h : treeB t = true) : treeB (foldT t) = true ∧ (foldT t).length ≤ t.length ∧ foldT (foldT t) = foldT t := by
  have hf := foldT_fo h
  obtain ⟨h1, h2, _⟩ := hf.res
  have h3 : treeB (foldT t) = true := treeB_one.2 ⟨Nat.le_trans h2 (treeB_one.1 h).1, h1⟩
  exact ⟨h3, h2, (foldT_fo h3).uniq hf.again⟩

end Go.Proofs.YtkjojhkpoooimaaGreat

/-! The contracts of chapter 6's specification: l6Parts, PartsOf. -/
namespace Go.Proofs.YtkjojhkpoooimaaGreat
open Go.RowKit

/-- What a row of numbers holds. -/
def intsV (l : List Int) : List Value := l.map (fun i => Value.int .i64 i)
theorem intsV_append (x y : List Int) : intsV (x ++ y) = intsV x ++ intsV y := by simp [intsV]
theorem intsV_one (l : List Int) : ∀ u ∈ intsV l, u.oneCell' = true := by
  intro u hu
  simp only [intsV, List.mem_map] at hu
  obtain ⟨i, _, rfl⟩ := hu
  rfl
theorem infoInt : (Tryz.prog.info? 2).map (fun i => (i.zero, i.size, i.bytes)) = some (some (.int .i64 0), 1, 8) := by kernel_rfl

theorem new_int (w : World) (n : Int) : ∀ j u, (intsV [n])[j]? = some u → (w.alloc (.cells #[.int .i64 n] 2)).cell? ((⟨w.heap.size, 0, none⟩ : Addr).add j) = some u := by
  intro j u hu
  have e : (⟨w.heap.size, 0, none⟩ : Addr).add j = ⟨w.heap.size, j, none⟩ := by unfold Addr.add; split <;> simp_all
  rw [e]
  match j, hu with
  | 0, hu => simp [intsV] at hu; subst hu; simp
  | j + 1, hu => simp [intsV] at hu

theorem endV_le (l : List Nd) (a : Int) : -1 ≤ endV l a ∧ endV l a ≤ l.length := by
  by_cases h : 0 ≤ endV l a
  · by_cases ha : a < 0 ∨ (l.length : Int) ≤ a
    · rw [endV_out l a ha] at h; omega
    · obtain ⟨k, rfl⟩ : ∃ k : Nat, a = (k : Int) := Int.eq_ofNat_of_zero_le (by omega)
      have := end_parts h
      omega
  · by_cases ha : a < 0 ∨ (l.length : Int) ≤ a
    · rw [endV_out l a ha]; omega
    · obtain ⟨k, rfl⟩ : ∃ k : Nat, a = (k : Int) := Int.eq_ofNat_of_zero_le (by omega)
      rw [endV_nat] at h ⊢
      unfold endN at h ⊢
      rw [if_pos (by omega)] at h ⊢
      cases he : endGo (l.drop k) 1 with
      | none => simp only; omega
      | some d => rw [he] at h; simp only at h; omega

set_option maxHeartbeats 2000000 in
set_option maxRecDepth 100000 in
theorem specParts (a : Option Addr) (cap : Nat) (ns : List Nd) (k0 : Nat) (w : World) (hin : NodesIn w a ns.length ns) (hsh : ShortT ns) (hlen : ns.length ≤ 1048576) (hk0 : k0 < ns.length) (hnb : nodeB (ns.getD k0 nd0) = true) :
    Calls Tryz.prog 60 #[.slice a ns.length cap, .int .i64 k0] w fun e w' => ∃ v, e = .returned v ∧ w'.ownsRow w.heap.size 2 1 v (kidsN (ns.getD k0 nd0)) (intsV (partsGo ns (kidsN (ns.getD k0 nd0)) ((k0 : Int) + 1))) ∧ Below w.heap.size w w' := by
  have hown0 := (World.ownsRow_lit (base := w.heap.size) (e := 2) (size := 1) w #[] 0 (Nat.le_refl _) (by decide) rfl)
  obtain ⟨i0, hi, hz0, hz1, hz2⟩ := info_parts infoInt
  obtain ⟨b, off, rfl, hbl, hcells⟩ := hin.at (by omega)
  obtain ⟨c0, c1, c2, c3⟩ := hcells k0 hk0
  obtain ⟨n, hn⟩ : ∃ n, ns.getD k0 nd0 = n := ⟨_, rfl⟩
  rw [hn] at c0 c1 c2 c3 hnb ⊢
  have HK : Hid (_) := fun W : World => specKids n W
  obtain ⟨hk1, hk3⟩ := @kidsV_ok n hnb
  have HI : Hid (NodesIn w (some ⟨b, off, none⟩) ns.length ns) := hin
  have HE : Hid (_) := fun (j : Int) (W : World) (h : NodesIn W (some ⟨b, off, none⟩) ns.length ns) => specEndOf (some ⟨b, off, none⟩) ns.length cap ns j W h hsh hlen
  have hk0i : (k0 : Int) < 1048576 := by omega
  obtain ⟨kd, aa, p, f⟩ := n
  unfold nodeVal at HK
  simp only at c0 c1 c2 c3 HK
  clear hn hcells hin hsh hnb
  go_enter Tryz.func60, Tryz.ntmps60
  go_wp2_with fail
  refine Calls.mono (HK.out _) ?_
  rintro e w1 ⟨rfl, hb1⟩
  rw [hk1]
  obtain ⟨q, hq⟩ : ∃ q, kidsN (kd, aa, p, f) = q := ⟨_, rfl⟩
  rw [hq] at hk3 ⊢
  have HQ : Hid (kidsN (kd, aa, p, f) = q) := hq
  have hB1 := below_boxed hb1
  have hown1 := own_below hown0 hb1
  clear hk1 hq hb1 hown0 HK c0 c1 c2 c3
  go_wp2
  go_loopw [5, 6, 7] (fun v nx kv wr => ∃ (ds : List Int) (r : Nat) (t : Int), kv = .int .i64 r ∧ nx = .int .i64 t ∧ ds.length + r = q ∧ -1 ≤ t ∧ t ≤ 1048576 ∧ Hid (ds ++ partsGo ns r t = partsGo ns q ((k0 : Int) + 1)) ∧ Hid (wr.ownsRow w.heap.size 2 1 v ds.length (intsV ds)) ∧ Below w.heap.size w wr) (fun _ _ kv _ => (intOf kv).toNat)
  case atStart => exact ⟨[], q, (k0 : Int) + 1, rfl, by go_num, by simp, by omega, by omega, (rfl : [] ++ partsGo ns q ((k0 : Int) + 1) = _), hown1, hB1⟩
  case round =>
    obtain ⟨ds, r, t, rfl, rfl, hr, ht0, ht1, HP, HV, hb⟩ := hrel
    clear hown1 hB1
    by_cases hrz : r = 0
    · subst hrz
      have HF : Hid (ds = partsGo ns q ((k0 : Int) + 1) ∧ ds.length = q) := by
        have h := HP.out
        rw [partsGo, List.append_nil] at h
        exact (⟨h, by omega⟩ : ds = partsGo ns q ((k0 : Int) + 1) ∧ ds.length = q)
      go_wp2
      go_ret
      exact ⟨_, rfl, by rw [HQ.out, ← HF.out.1, ← HF.out.2]; exact HV.out, hb⟩
    · obtain ⟨r', rfl⟩ : ∃ r', r = r' + 1 := ⟨r - 1, by omega⟩
      have hr1 : (0 : Int) < ((r' + 1 : Nat) : Int) := by omega
      have hnc := new_int wr t
      have hV := HV.out
      have hB0 := hb
      clear hrz HV
      go_wp2_with (at_builtin; refine wpList_append_own_at _ rfl _ _ 38 rfl w.heap.size 2 i0 _ 1 8 Tryz.underlying38 hi hz0 hz1 hz2 rfl (by decide) _ _ _ rfl (hV.alloc _) ⟨wr.heap.size, 0, none⟩ 1 1 (intsV [t]) rfl rfl ?c1 ?c2 ?c3 ?c4 ?c5 ?_)
      first | (case c1 => exact hnc) | skip
      first | (case c2 => exact intsV_one _) | skip
      first | (case c3 => unfold maxLen; omega) | skip
      first | (case c4 => omega) | skip
      first | (case c5 => have := hB0.size; simp; try omega) | skip
      intro v' w3 hown3 hgrow3 hnil3 hat3
      have HV3 : Hid (w3.ownsRow w.heap.size 2 1 v' (ds ++ [t]).length (intsV (ds ++ [t]))) := by
        exact (by rw [intsV_append, List.length_append]; exact hown3 : w3.ownsRow w.heap.size 2 1 v' (ds ++ [t]).length (intsV (ds ++ [t])))
      have hb3 : Below w.heap.size w w3 := (hB0.alloc hB0.size _).grown hgrow3 (by have := hB0.size; simp; omega) (fun q e => (hV.lt q e).1)
      clear hown3 hgrow3 hnil3 hat3 hV hB0 hnc hb
      have HP2 : Hid ((ds ++ [t]) ++ partsGo ns r' (endV ns t) = partsGo ns q ((k0 : Int) + 1)) := by
        exact (by rw [← HP.out, partsGo, List.append_assoc]; rfl : (ds ++ [t]) ++ partsGo ns r' (endV ns t) = partsGo ns q ((k0 : Int) + 1))
      have he := endV_le ns t
      go_wp2_with fail
      refine Calls.mono (HE.out t _ (HI.out.below hb3)) ?_
      rintro e w4 ⟨rfl, hb4⟩
      have hB4 := hb3.trans (hb4.mono hb3.size)
      have HV4 : Hid (w4.ownsRow w.heap.size 2 1 v' (ds ++ [t]).length (intsV (ds ++ [t]))) := own_below HV3.out hb4
      obtain ⟨t', htt⟩ : ∃ t', endV ns t = t' := ⟨_, rfl⟩
      rw [htt] at HP2 he ⊢
      have hdl : (ds ++ [t]).length + r' = q := by simp; omega
      clear htt hb4 hb3 HV3 HP
      go_wp2
      go_roundw
      case rel => exact ⟨ds ++ [t], r', t', by go_num, rfl, hdl, by omega, by omega, HP2, HV4, hB4⟩
      case measure => simp [intOf]


end Go.Proofs.YtkjojhkpoooimaaGreat

/-! The contracts of chapter 11's specification: is it one number? -/
namespace Go.Proofs.YtkjojhkpoooimaaGreat
open Go.RowKit

theorem one_no {ns : List Nd} (h : ns.length ≠ 1) : isOne11 ns = false := decide_eq_false (fun e => h e.1)
theorem one_eq (k v : Int) (p q : List UInt8) : isOne11 [((k, v, p, q) : Nd)] = (k == 1) := by
  unfold isOne11
  by_cases h : k = 1
  · simp [h]
  · simp [h]
theorem num_eq (k v u : Int) (p q : List UInt8) : isNum11 [((k, v, p, q) : Nd)] u = ((k == 1) && (v == u)) := by
  unfold isNum11
  rw [one_eq]
  by_cases h : v = u
  · simp [h]
  · simp [h]

set_option maxHeartbeats 1000000 in
set_option maxRecDepth 100000 in
theorem specOne11 (a : Option Addr) (len cap : Nat) (ns : List Nd) (w : World) (hin : NodesIn w a len ns) (hlen : len ≤ 1048576) :
    Calls Tryz.prog 61 #[.slice a len cap] w fun e w' => e = .returned (.bool (isOne11 ns)) ∧ w' = w := by
  obtain rfl : ns.length = len := hin.1
  by_cases hl : ns.length = 1
  · obtain ⟨n, rfl⟩ := List.length_eq_one_iff.1 hl
    obtain ⟨b, off, rfl, _, c0, _⟩ := hin.2 0 (by simp)
    obtain ⟨k, v, p, q⟩ := n
    simp at c0
    rw [one_eq]
    clear hin hl hlen
    rcases hk : (k == 1) with _ | _
    · go_enter Tryz.func61, Tryz.ntmps61
      go_wp2
      go_ret
      exact ⟨rfl, rfl⟩
    · go_enter Tryz.func61, Tryz.ntmps61
      go_wp2
      go_ret
      exact ⟨rfl, rfl⟩
  · rw [one_no hl]
    have hb : ((ns.length : Int) == 1) = false := beq_eq_false_iff_ne.2 (by omega)
    clear hin hl
    go_enter Tryz.func61, Tryz.ntmps61
    go_wp2
    go_ret
    exact ⟨rfl, rfl⟩

set_option maxHeartbeats 1000000 in
set_option maxRecDepth 100000 in
theorem specNum11 (a : Option Addr) (len cap : Nat) (ns : List Nd) (u : Int) (w : World) (hin : NodesIn w a len ns) (hlen : len ≤ 1048576) :
    Calls Tryz.prog 63 #[.slice a len cap, .int .i64 u] w fun e w' => e = .returned (.bool (isNum11 ns u)) ∧ w' = w := by
  obtain rfl : ns.length = len := hin.1
  by_cases hl : ns.length = 1
  · obtain ⟨n, rfl⟩ := List.length_eq_one_iff.1 hl
    obtain ⟨b, off, rfl, _, c0, c1, _⟩ := hin.2 0 (by simp)
    obtain ⟨k, v, p, q⟩ := n
    simp at c0 c1
    rw [num_eq]
    clear hin hl hlen
    rcases hk : (k == 1) with _ | _
    · go_enter Tryz.func63, Tryz.ntmps63
      go_wp2
      go_ret
      exact ⟨rfl, rfl⟩
    · rcases hv : (v == u) with _ | _
      · go_enter Tryz.func63, Tryz.ntmps63
        go_wp2
        go_ret
        exact ⟨rfl, rfl⟩
      · go_enter Tryz.func63, Tryz.ntmps63
        go_wp2
        go_ret
        exact ⟨rfl, rfl⟩
  · have hn : isNum11 ns u = false := by unfold isNum11; rw [one_no hl]; rfl
    rw [hn]
    have hb : ((ns.length : Int) == 1) = false := beq_eq_false_iff_ne.2 (by omega)
    clear hin hl hn
    go_enter Tryz.func63, Tryz.ntmps63
    go_wp2
    go_ret
    exact ⟨rfl, rfl⟩

end Go.Proofs.YtkjojhkpoooimaaGreat

/-! Plain facts of chapter 11: what a tree means does not ask where it lies; more depth means the same. -/
namespace Go.Proofs.YtkjojhkpoooimaaGreat
open Go.RowKit

def cz10 : Cmp10 := fun s => (0, s)
def argsK : List Cmp10 → List Int → (List Int → Cmp10) → Cmp10
  | [], acc, K => K acc
  | C :: r, acc, K => bind10 C (fun v => argsK r (acc ++ [v]) K)
theorem args_K (R : Int → Cmp10) (K : List Int → Cmp10) : ∀ (pa acc : List Int), args10 R pa acc K = argsK (pa.map R) acc K
  | [], _ => rfl
  | p :: r, acc => by
    show bind10 (R p) (fun v => args10 R r (acc ++ [v]) K) = bind10 (R p) (fun v => argsK (r.map R) (acc ++ [v]) K)
    congr 1
    funext v
    exact args_K R K r (acc ++ [v])
/-- A node by what its parts mean. -/
def nodeK (ps : List Pk) (R : Rec10) (xs : List Int) (n : Nd) (cs : List Cmp10) : Cmp10 :=
  if n.1 = 1 then fin10 n.2.1 true
  else if n.1 = 2 then fin10 (xs.getD n.2.1.toNat 0) true
  else if n.1 = 7 then bind10 (cs.getD 0 cz10) (fun k => if k ≠ 0 then cs.getD 1 cz10 else cs.getD 2 cz10)
  else if n.1 = 8 then argsK cs [] (fun own => R (tree10 ps n) 0 own)
  else bind10 (cs.getD 0 cz10) (fun x => bind10 (cs.getD 1 cz10) (fun y => fin10 (doneV n.1 x y) (doneB n.1 x y)))
theorem val_can (ps : List Pk) (d : Nat) (xs : List Int) {t post : List Nd} {a : Nat} {n : Nd} {ks : List (List Nd)} (h : t.drop a = (n :: ks.flatten) ++ post) (hn : nodeB n = true) (hk : ks.length = kidsN n) (ho : ∀ k ∈ ks, One k)
    (hl : ∀ i, i < ks.length → ∀ (post' : List Nd) (q : Nat), t.drop q = ks.getD i [] ++ post' → val10 ps d t (q : Int) xs = val10 ps d (ks.getD i []) 0 xs) :
    val10 ps (d + 1) t (a : Int) xs = tick10 (nodeK ps (val10 ps d) xs n (ks.map (fun k => val10 ps d k 0 xs))) := by
  obtain ⟨e1, e2, e3⟩ := pts_sub h hk ho
  have hp : ∀ i, i < ks.length → val10 ps d t ((pts10 t (a : Int)).getD i 0) xs = (ks.map (fun k => val10 ps d k 0 xs)).getD i cz10 := fun i hi => by
    obtain ⟨post', e4, e5⟩ := e3 i hi
    rw [e4, hl i hi post' _ e5]
    simp [List.getD, hi]
  have hnd := nodeB_iff.1 hn
  unfold nodeP at hnd
  show tick10 (node10 ps (val10 ps d) t (a : Int) xs (t.getD (a : Int).toNat nd0)) = _
  rw [Int.toNat_natCast, e1]
  congr 1
  unfold node10 nodeK
  split
  · rfl
  · split
    · rfl
    · split
      · rename_i h7
        have h3 := kids_seven h7
        rw [hp 0 (by omega), hp 1 (by omega), hp 2 (by omega)]
      · split
        · rw [args_K]
          congr 1
          refine List.ext_getElem (by simp [e2]) (fun i h1 h2 => ?_)
          have hi : i < ks.length := by simpa using h2
          have := hp i hi
          simpa [List.getD, hi, e2] using this
        · have h2 := kids_four (n := n) (by omega)
          rw [hp 0 (by omega), hp 1 (by omega)]
theorem val_local (ps : List Pk) (xs : List Int) : ∀ (d : Nat) {s : List Nd}, One s → ∀ {t post : List Nd} {a : Nat}, t.drop a = s ++ post → val10 ps d t (a : Int) xs = val10 ps d s 0 xs
  | 0, _, _, _, _, _, _ => rfl
  | d + 1, s, hs, t, post, a, h => by
    cases hs with
    | mk n ks hn hk ho =>
      have h1 := val_can ps d xs h hn hk ho (fun i hi post' q hq => val_local ps xs d (ho _ (getD_mem11 hi)) hq)
      have h2 := val_can ps d xs (t := n :: ks.flatten) (post := []) (a := 0) (by simp) hn hk ho (fun i hi post' q hq => val_local ps xs d (ho _ (getD_mem11 hi)) hq)
      rw [h1]
      exact h2.symm
theorem val_node11 (ps : List Pk) (d : Nat) (xs : List Int) {n : Nd} {ks : List (List Nd)} (hn : nodeB n = true) (hk : ks.length = kidsN n) (ho : ∀ k ∈ ks, One k) : val10 ps (d + 1) (n :: ks.flatten) 0 xs = tick10 (nodeK ps (val10 ps d) xs n (ks.map (fun k => val10 ps d k 0 xs))) :=
  val_can ps d xs (t := n :: ks.flatten) (post := []) (a := 0) (by simp) hn hk ho (fun i hi post' q hq => val_local ps xs d (ho _ (getD_mem11 hi)) hq)

/-! More depth than fuel. -/
def Agr (d : Nat) (C D : Cmp10) : Prop := ∀ f, f < d → C (f, 0) = D (f, 0)
theorem Agr.bind {d : Nat} {C D : Cmp10} {E F : Int → Cmp10} (h : Agr d C D) (hC : Sk10 C) (hk : ∀ v, Agr d (E v) (F v)) (hE : ∀ v, Sk10 (E v)) (hF : ∀ v, Sk10 (F v)) : Agr d (bind10 C E) (bind10 D F) := fun f hf => by
  unfold bind10
  rw [← h f hf]
  have hl := hC.less (f, 0)
  generalize C (f, 0) = r at hl ⊢
  obtain ⟨v, l, c⟩ := r
  simp only at hl ⊢
  by_cases hc : c = 0
  · subst hc
    exact hk v l (by omega)
  · rw [(hE v).stop (l, c) hc, (hF v).stop (l, c) hc]
theorem Agr.tick {d : Nat} {C D : Cmp10} (h : Agr d C D) : Agr (d + 1) (tick10 C) (tick10 D) := fun f hf => by
  unfold tick10
  simp only [ne_eq, not_true_eq_false, if_false]
  split
  · rfl
  · rename_i h0
    exact h (f - 1) (by omega)
theorem Agr.args {d : Nat} {R S : Int → Cmp10} (h : ∀ p, Agr d (R p) (S p)) (hR : ∀ p, Sk10 (R p)) (hS : ∀ p, Sk10 (S p)) {K L : List Int → Cmp10} (hk : ∀ l, Agr d (K l) (L l)) (hK : ∀ l, Sk10 (K l)) (hL : ∀ l, Sk10 (L l)) : ∀ (pa acc : List Int), Agr d (args10 R pa acc K) (args10 S pa acc L)
  | [], acc => hk acc
  | p :: r, acc => (h p).bind (hR p) (fun v => Agr.args h hR hS hk hK hL r (acc ++ [v])) (fun _ => Sk10.args hR hK r _) (fun _ => Sk10.args hS hL r _)
theorem val_deep (ps : List Pk) : ∀ (d e : Nat), d ≤ e → ∀ (t : List Nd) (a : Int) (xs : List Int), Agr d (val10 ps d t a xs) (val10 ps e t a xs)
  | 0, _, _, _, _, _ => fun f hf => absurd hf (Nat.not_lt_zero _)
  | d + 1, 0, h, _, _, _ => absurd h (by omega)
  | d + 1, e + 1, h, t, a, xs => by
    have ih := val_deep ps d e (by omega)
    have s1 := fun t a xs => Sk10.val ps d t a xs
    have s2 := fun t a xs => Sk10.val ps e t a xs
    show Agr (d + 1) (tick10 (node10 ps (val10 ps d) t a xs _)) (tick10 (node10 ps (val10 ps e) t a xs _))
    refine Agr.tick ?_
    unfold node10
    split
    · exact fun _ _ => rfl
    · split
      · exact fun _ _ => rfl
      · split
        · refine (ih _ _ _).bind (s1 _ _ _) (fun v => ?_) (fun v => ?_) (fun v => ?_)
          · split
            · exact ih _ _ _
            · exact ih _ _ _
          · split
            · exact s1 _ _ _
            · exact s1 _ _ _
          · split
            · exact s2 _ _ _
            · exact s2 _ _ _
        · split
          · exact Agr.args (fun p => ih _ _ _) (fun p => s1 _ _ _) (fun p => s2 _ _ _) (fun l => ih _ _ _) (fun l => s1 _ _ _) (fun l => s2 _ _ _) _ _
          · exact (ih _ _ _).bind (s1 _ _ _) (fun x => (ih _ _ _).bind (s1 _ _ _) (fun y _ _ => rfl) (fun y => Sk10.fin _ _) (fun y => Sk10.fin _ _)) (fun x => (s1 _ _ _).bind (fun y => Sk10.fin _ _)) (fun x => (s2 _ _ _).bind (fun y => Sk10.fin _ _))

end Go.Proofs.YtkjojhkpoooimaaGreat

/-! Plain facts of chapter 11: folded it means the same, with no more fuel. -/
namespace Go.Proofs.YtkjojhkpoooimaaGreat
open Go.RowKit

/-- Where the one is not stopped by fuel the other gives the same and leaves no less. -/
def Leq (d : Nat) (C D : Cmp10) : Prop := ∀ f, f < d → (C (f, 0)).2.2 ≠ 2 → (D (f, 0)).1 = (C (f, 0)).1 ∧ (D (f, 0)).2.2 = (C (f, 0)).2.2 ∧ (C (f, 0)).2.1 ≤ (D (f, 0)).2.1
theorem Sk10.up {C : Cmp10} (h : Sk10 C) (f k : Nat) (hc : (C (f, 0)).2.2 ≠ 2) : C (f + k, 0) = ((C (f, 0)).1, ((C (f, 0)).2.1 + k, (C (f, 0)).2.2)) := by
  rcases Nat.lt_or_ge (C (f + k, 0)).2.1 k with h1 | h1
  · rw [h.fall f k h1] at hc
    exact absurd rfl hc
  · rw [h.more f k h1]
    simp only
    rw [Nat.sub_add_cancel h1]
theorem Leq.more {d : Nat} {C D : Cmp10} (h : Leq d C D) (hD : Sk10 D) {f g : Nat} (hf : f < d) (hg : f ≤ g) (hc : (C (f, 0)).2.2 ≠ 2) : (D (g, 0)).1 = (C (f, 0)).1 ∧ (D (g, 0)).2.2 = (C (f, 0)).2.2 ∧ (C (f, 0)).2.1 + (g - f) ≤ (D (g, 0)).2.1 := by
  obtain ⟨h1, h2, h3⟩ := h f hf hc
  have h4 := hD.up f (g - f) (by rw [h2]; exact hc)
  rw [Nat.add_sub_cancel' hg] at h4
  rw [h4]
  exact ⟨h1, h2, by simp only; omega⟩
theorem Leq.refl (d : Nat) (C : Cmp10) : Leq d C C := fun _ _ _ => ⟨rfl, rfl, Nat.le_refl _⟩
theorem Leq.bind {d : Nat} {C D : Cmp10} {E F : Int → Cmp10} (h : Leq d C D) (hC : Sk10 C) (hk : ∀ v, Leq d (E v) (F v)) (hE : ∀ v, Sk10 (E v)) (hF : ∀ v, Sk10 (F v)) : Leq d (bind10 C E) (bind10 D F) := fun f hf hc => by
  unfold bind10 at hc ⊢
  have hl := hC.less (f, 0)
  have hh := h f hf
  generalize C (f, 0) = r at hl hh hc ⊢
  generalize D (f, 0) = q at hh ⊢
  obtain ⟨v, l, c⟩ := r
  obtain ⟨v', l', c'⟩ := q
  simp only at hl hh hc ⊢
  by_cases h0 : c = 0
  · subst h0
    obtain ⟨rfl, rfl, h3⟩ := hh (by decide)
    obtain ⟨h4, h5, h6⟩ := (hk v').more (hF v') (f := l) (g := l') (by omega) h3 hc
    exact ⟨h4, h5, by omega⟩
  · rw [(hE v).stop (l, c) h0] at hc ⊢
    obtain ⟨rfl, rfl, h3⟩ := hh hc
    rw [(hF v').stop (l', c') h0]
    exact ⟨rfl, rfl, h3⟩
theorem Leq.tick {d : Nat} {C D : Cmp10} (h : Leq d C D) : Leq (d + 1) (tick10 C) (tick10 D) := fun f hf hc => by
  unfold tick10 at hc ⊢
  simp only [ne_eq, not_true_eq_false, if_false] at hc ⊢
  by_cases h0 : f = 0
  · rw [if_pos h0] at hc
    exact absurd rfl hc
  · rw [if_neg h0] at hc
    rw [if_neg h0, if_neg h0]
    exact h (f - 1) (by omega) hc

/-! Numbers. -/
theorem one_is {t : List Nd} (h : isOne11 t = true) : ∃ v p f, t = [((1, v, p, f) : Nd)] := by
  obtain ⟨h1, h2⟩ := of_decide_eq_true h
  obtain ⟨n, rfl⟩ := List.length_eq_one_iff.1 h1
  obtain ⟨k, v, p, f⟩ := n
  simp at h2
  subst h2
  exact ⟨v, p, f, rfl⟩
theorem num_is {t : List Nd} {v : Int} (h : isNum11 t v = true) : ∃ p f, t = [((1, v, p, f) : Nd)] := by
  unfold isNum11 at h
  rw [Bool.and_eq_true] at h
  obtain ⟨u, p, f, rfl⟩ := one_is h.1
  have h2 := of_decide_eq_true h.2
  simp at h2
  subst h2
  exact ⟨p, f, rfl⟩
theorem val_num (ps : List Pk) (d : Nat) (v : Int) (p f : List UInt8) (xs : List Int) (g : Nat) : val10 ps (d + 1) [((1, v, p, f) : Nd)] 0 xs (g + 1, 0) = (v, (g, 0)) := rfl
theorem done_unit {k x : Int} (hx : Word10 x) : ((k = 3 ∨ k = 4) → doneV k x 0 = x ∧ doneB k x 0 = true) ∧ ((k = 5 ∨ k = 6) → doneV k x 1 = x ∧ doneB k x 1 = true) ∧ (k = 3 → doneV k 0 x = x ∧ doneB k 0 x = true) ∧ (k = 5 → doneV k 1 x = x ∧ doneB k 1 x = true) := by
  have hw : wrapW x = x := wrapW_word x hx.1 hx.2
  have h0 := done_in k x 0 ⟨⟨hx.1, hx.2⟩, by decide, by decide⟩
  have h1 := done_in k x 1 ⟨⟨hx.1, hx.2⟩, by decide, by decide⟩
  have h2 := done_in k 0 x ⟨⟨by decide, by decide⟩, hx.1, hx.2⟩
  have h3 := done_in k 1 x ⟨⟨by decide, by decide⟩, hx.1, hx.2⟩
  refine ⟨fun e => ?_, fun e => ?_, fun e => ?_, fun e => ?_⟩
  · rcases e with e | e
    · have := h0.1 e; rw [Int.add_zero, hw] at this; exact this
    · have := h0.2.1 e; rw [Int.sub_zero, hw] at this; exact this
  · rcases e with e | e
    · have := h1.2.2.1 e; rw [Int.mul_one, hw] at this; exact this
    · have := h1.2.2.2.1 e (by decide); rw [Int.tdiv_one, hw] at this; exact this
  · have := h2.1 e; rw [Int.zero_add, hw] at this; exact this
  · have := h3.2.2.1 e; rw [Int.one_mul, hw] at this; exact this

end Go.Proofs.YtkjojhkpoooimaaGreat

/-! The contracts of chapter 8's specification: l1Has, l8At. -/
namespace Go.Proofs.YtkjojhkpoooimaaGreat
open Go.RowKit

/-- The packages ps lie at a, three cells each, their lists where those say. -/
def PkgsIn (w : World) (a : Option Addr) (len : Nat) (ps : List Pk) : Prop :=
  ps.length = len ∧ ∀ j, j < len → ∃ b off, a = some ⟨b, off, none⟩ ∧ b < w.heap.size ∧ w.cell? ⟨b, off + j * 3, none⟩ = some (.string ⟨(ps.getD j pk0).1.toArray⟩) ∧
    ∃ ia il ic fa fl fc, w.cell? ⟨b, off + j * 3 + 1, none⟩ = some (.slice ia il ic) ∧ w.cell? ⟨b, off + j * 3 + 2, none⟩ = some (.slice fa fl fc) ∧ TextsIn w ia il (ps.getD j pk0).2.1 ∧ FuncsIn w fa fl (ps.getD j pk0).2.2
theorem PkgsIn.below {w w' : World} {a : Option Addr} {len : Nat} {ps : List Pk} (h : PkgsIn w a len ps) (hb : Below w.heap.size w w') : PkgsIn w' a len ps := by
  refine ⟨h.1, fun j hj => ?_⟩
  obtain ⟨b, off, e, hlt, c0, ia, il, ic, fa, fl, fc, c1, c2, hi, hf⟩ := h.2 j hj
  exact ⟨b, off, e, Nat.lt_of_lt_of_le hlt hb.size, (hb.cell (p := ⟨b, off + j * 3, none⟩) hlt).trans c0, ia, il, ic, fa, fl, fc, (hb.cell (p := ⟨b, off + j * 3 + 1, none⟩) hlt).trans c1, (hb.cell (p := ⟨b, off + j * 3 + 2, none⟩) hlt).trans c2, hi.below hb, hf.below hb⟩

/-- How long the parts of a project may be. -/
def ShortPs (ps : List Pk) : Prop := ∀ j, (ps.getD j pk0).1.length ≤ 1048576 ∧ (ps.getD j pk0).2.1.length ≤ 1048576 ∧ (∀ i, ((ps.getD j pk0).2.1.getD i []).length ≤ 1048576) ∧ (ps.getD j pk0).2.2.length ≤ 1048576 ∧ ShortF (ps.getD j pk0).2.2

theorem mem_take_step {ts : List (List UInt8)} {s : List UInt8} {k : Nat} (h : ∀ i, i < k → ts.getD i [] ≠ s) (hk : ts.length ≤ k) : ¬ s ∈ ts := fun hm => by
  obtain ⟨i, hi, rfl⟩ := List.mem_iff_getElem.1 hm
  exact h i (by omega) (by simp [List.getD, hi])
theorem getD_mem8 {ts : List (List UInt8)} {k : Nat} (hk : k < ts.length) : ts.getD k [] ∈ ts := by
  rw [List.getD_eq_getElem?_getD, List.getElem?_eq_getElem hk]; exact List.getElem_mem hk

set_option maxHeartbeats 1000000 in
set_option maxRecDepth 100000 in
theorem specHas (a : Option Addr) (len cap : Nat) (ts : List (List UInt8)) (s : List UInt8) (w : World) (hin : TextsIn w a len ts) (hlen : len ≤ 4194304) :
    Calls Tryz.prog 96 #[.slice a len cap, .string ⟨s.toArray⟩] w fun e w' => e = .returned (.bool (decide (s ∈ ts))) ∧ w' = w := by
  obtain rfl : ts.length = len := hin.1
  have HI : Hid (TextsIn w a ts.length ts) := hin
  clear hin
  go_enter Tryz.func96, Tryz.ntmps96
  go_wp2
  go_loopw [5] (fun iv wr => ∃ k : Nat, iv = .int .i64 (k : Int) ∧ k ≤ ts.length ∧ Hid (∀ i, i < k → ts.getD i [] ≠ s) ∧ wr = w) (fun iv _ => ts.length - (intOf iv).toNat)
  case atStart => exact ⟨0, rfl, by omega, (fun i hi => by omega), rfl⟩
  case round =>
    obtain ⟨k, rfl, hk, HA, rfl⟩ := hrel
    by_cases hlt : (k : Int) < (ts.length : Int)
    · have hk2 : k < ts.length := by omega
      obtain ⟨b, off, rfl, hbl, c0⟩ := HI.out.2 k hk2
      have hmem := getD_mem8 hk2
      obtain ⟨x, hx⟩ : ∃ x, ts.getD k [] = x := ⟨_, rfl⟩
      rw [hx] at c0 hmem
      by_cases hxs : x = s
      · subst hxs
        have HR : Hid (decide (x ∈ ts) = true) := decide_eq_true hmem
        have hself : (x == x) = true := by simp
        clear HA hx hmem
        go_wp2
        go_ret
        exact ⟨by rw [HR.out]; rfl, rfl⟩
      · have HA2 : Hid (∀ i, i < k + 1 → ts.getD i [] ≠ s) := fun i hi => by
          rcases Nat.lt_or_ge i k with h | h
          · exact HA.out i h
          · obtain rfl : i = k := by omega
            rw [hx]; exact hxs
        have hne : (x == s) = false := by rw [beq_eq_false_iff_ne]; exact hxs
        clear HA hx hmem
        go_wp2
        go_roundw
        case rel => exact ⟨k + 1, by go_num, by omega, HA2, trivial⟩
        case measure => simp [intOf]; omega
    · have HR : Hid (decide (s ∈ ts) = false) := decide_eq_false (mem_take_step HA.out (by omega))
      go_wp2
      go_ret
      exact ⟨by rw [HR.out]; rfl, rfl⟩

set_option maxHeartbeats 1000000 in
set_option maxRecDepth 100000 in
theorem specAt8 (a : Option Addr) (len cap : Nat) (ps : List Pk) (s : List UInt8) (w : World) (hin : PkgsIn w a len ps) (hlen : len ≤ 1048576) :
    Calls Tryz.prog 42 #[.slice a len cap, .string ⟨s.toArray⟩] w fun e w' => e = .returned (.int .i64 (at8 ps s)) ∧ w' = w := by
  obtain rfl : ps.length = len := hin.1
  have HI : Hid (PkgsIn w a ps.length ps) := hin
  clear hin
  go_enter Tryz.func42, Tryz.ntmps42
  go_wp2
  go_loopw [5] (fun iv wr => ∃ j : Nat, iv = .int .i64 (j : Int) ∧ j ≤ ps.length ∧ Hid (at8 ps s = at8Go s (ps.drop j) j) ∧ wr = w) (fun iv _ => ps.length - (intOf iv).toNat)
  case atStart => exact ⟨0, rfl, by omega, (rfl : at8 ps s = at8Go s (ps.drop 0) 0), rfl⟩
  case round =>
    obtain ⟨j, rfl, hj, HA, rfl⟩ := hrel
    by_cases hlt : (j : Int) < (ps.length : Int)
    · obtain ⟨b, off, rfl, hbl, c0, _⟩ := HI.out.2 j (by omega)
      have hg := at8Go_drop (ps := ps) (k := j) (by omega) s
      obtain ⟨x, hx⟩ : ∃ x, (ps.getD j pk0).1 = x := ⟨_, rfl⟩
      rw [hx] at c0 hg
      by_cases hxs : x = s
      · subst hxs
        have HR : Hid (at8 ps x = (j : Int)) := by exact (by rw [HA.out, hg, if_pos rfl] : at8 ps x = (j : Int))
        have hself : (x == x) = true := by simp
        clear HA hg hx
        go_wp2
        go_ret
        exact ⟨by rw [HR.out]; rfl, rfl⟩
      · have HR : Hid (at8 ps s = at8Go s (ps.drop (j + 1)) (j + 1)) := by exact (by rw [HA.out, hg, if_neg hxs] : at8 ps s = at8Go s (ps.drop (j + 1)) (j + 1))
        have hne : (x == s) = false := by rw [beq_eq_false_iff_ne]; exact hxs
        clear HA hg hx
        go_wp2
        go_roundw
        case rel => exact ⟨j + 1, by go_num, by omega, HR, trivial⟩
        case measure => simp [intOf]; omega
    · have HR : Hid (at8 ps s = -1) := by exact (by rw [HA.out, List.drop_of_length_le (by omega)]; rfl : at8 ps s = -1)
      go_wp2
      go_ret
      exact ⟨by rw [HR.out]; rfl, rfl⟩

end Go.Proofs.YtkjojhkpoooimaaGreat
