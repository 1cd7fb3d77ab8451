/-
  Parts of one proof, one behind the other: Math11F, Math12, Math11T, Math12L, Math13, TreeS6, IntsL, NumsL.
-/
import Derived.Test.YtenaaneckobdpaaGreatP7
import Derived.Test.YtenaaneckobdpaaGreatP1
import Derived.Test.YtenaaneckobdpaaGreatP3
import Derived.Test.YtenaaneckobdpaaGreatP4
namespace Go.Proofs.YtenaaneckobdpaaGreat
open Go.RowKit
def zaA (t : List Nd) : Bool := decide (t.length = 1 ∧ (t.getD 0 nd0).1 = 1)
def zar (t : List Nd) (v : Int) : Bool := zaA t && decide ((t.getD 0 nd0).2.1 = v)
def mk11 (n : Nd) (rs : List (List Nd)) : List Nd :=
 if 3 ≤ n.1 ∧ n.1 ≤ 6 then
  if (zaA (rs.getD 0 []) && zaA (rs.getD 1 [])) = true then
   if zce n.1 ((rs.getD 0 []).getD 0 nd0).2.1 ((rs.getD 1 []).getD 0 nd0).2.1 = true then [(1, zbO n.1 ((rs.getD 0 []).getD 0 nd0).2.1 ((rs.getD 1 []).getD 0 nd0).2.1, [], [])] else n :: rs.flatten
  else if (decide (n.1 ≤ 4) && zar (rs.getD 1 []) 0 || decide (5 ≤ n.1) && zar (rs.getD 1 []) 1) = true then rs.getD 0 []
  else if (decide (n.1 = 3) && zar (rs.getD 0 []) 0 || decide (n.1 = 5) && zar (rs.getD 0 []) 1) = true then rs.getD 1 []
  else n :: rs.flatten
 else if n.1 = 7 then
  if zaA (rs.getD 0 []) = true then (if zar (rs.getD 0 []) 0 = true then rs.getD 2 [] else rs.getD 1 []) else n :: rs.flatten
 else n :: rs.flatten
theorem zf7 (n : Nd) (rs : List (List Nd)) : mk11 n rs = n :: rs.flatten ∨ (3 ≤ n.1 ∧ n.1 ≤ 6 ∧ ∃ v, -2147483648 ≤ v ∧ v ≤ 2147483647 ∧ mk11 n rs = [(1, v, [], [])]) ∨ (3 ≤ n.1 ∧ n.1 ≤ 6 ∧ (mk11 n rs = rs.getD 0 [] ∨ mk11 n rs = rs.getD 1 [])) ∨ (n.1 = 7 ∧ (mk11 n rs = rs.getD 1 [] ∨ mk11 n rs = rs.getD 2 [])) := by
 unfold mk11
 split
 ·
  rename_i h
  split
  ·
   split
   ·
    exact Or.inr (Or.inl ⟨h.1, h.2, _, (zi3 _ _ _).1, (zi3 _ _ _).2, rfl⟩)
   ·
    exact Or.inl rfl
  ·
   split
   ·
    exact Or.inr (Or.inr (Or.inl ⟨h.1, h.2, Or.inl rfl⟩))
   ·
    split
    ·
     exact Or.inr (Or.inr (Or.inl ⟨h.1, h.2, Or.inr rfl⟩))
    ·
     exact Or.inl rfl
 ·
  split
  ·
   rename_i h7
   split
   ·
    split
    ·
     exact Or.inr (Or.inr (Or.inr ⟨h7, Or.inr rfl⟩))
    ·
     exact Or.inr (Or.inr (Or.inr ⟨h7, Or.inl rfl⟩))
   ·
    exact Or.inl rfl
  ·
   exact Or.inl rfl
inductive Fo : List Nd → List Nd → Prop
 | mk (n : Nd) (ks rs : List (List Nd)) : zbu n = true → ks.length = zae n → rs.length = ks.length → (∀ k ∈ ks, One k) → (∀ i, i < ks.length → Fo (ks.getD i []) (rs.getD i [])) → Fo (n :: ks.flatten) (mk11 n rs)
theorem Fo.one {s r : List Nd} (h : Fo s r) : One s := by
 cases h with
 | mk n ks rs hn hk hr ho hf => exact One.mk n ks hn hk ho
theorem zfy {α : Type} {l : List α} {x d : α} (h : x ∈ l) : ∃ i, i < l.length ∧ l.getD i d = x := by
 obtain ⟨i, hi, e⟩ := List.mem_iff_getElem.1 h
 exact ⟨i, hi, by simp [List.getD, hi, e]⟩
theorem zbU {α : Type} {l : List α} {i : Nat} {d : α} (h : i < l.length) : l.getD i d ∈ l := by
 simp [List.getD, h]
theorem num_one {v : Int} (h0 : -2147483648 ≤ v) (h1 : v ≤ 2147483647) : One [((1, v, [], []) : Nd)] := by
 have hn : zbu ((1, v, [], []) : Nd) = true := decide_eq_true (Or.inl ⟨rfl, ⟨h0, h1⟩, rfl, rfl⟩)
 exact One.mk (1, v, [], []) [] hn rfl (fun k hk => by cases hk)
theorem zbx {n : Nd} (h : 3 ≤ n.1 ∧ n.1 ≤ 6) : zae n = 2 := if_pos h
theorem zc6 {n : Nd} (h : n.1 = 7) : zae n = 3 := by unfold zae; rw [if_neg (by omega), if_pos h]
theorem Fo.res {s r : List Nd} (h : Fo s r) : One r ∧ r.length ≤ s.length ∧ ∀ n ∈ r, n ∈ s ∨ n.1 = 1 := by
 induction h with
 | mk n ks rs hn hk hr ho _ ih =>
  have hall : One (n :: rs.flatten) := One.mk n rs hn (by omega) (fun x hx => by
   obtain ⟨i, hi, e⟩ := zfy (d := []) hx
   rw [← e]; exact (ih i (by omega)).1)
  have hlen : rs.flatten.length ≤ ks.flatten.length := by
   have key : ∀ (a b : List (List Nd)), a.length = b.length → (∀ i, i < b.length → (a.getD i []).length ≤ (b.getD i []).length) → a.flatten.length ≤ b.flatten.length := by
    intro a
    induction a with
    | nil => intro b _ _; simp
    | cons x a iha =>
     intro b hb hl
     cases b with
     | nil => cases hb
     | cons y b =>
      have h0 := hl 0 (by simp)
      have h1 := iha b (by simpa using hb) (fun i hi => by have := hl (i + 1) (by simpa using hi); simpa using this)
      simp only [List.flatten_cons, List.length_append]
      simp at h0
      omega
   exact key rs ks hr (fun i hi => (ih i hi).2.1)
  have hpart : ∀ i, i < ks.length → One (rs.getD i []) ∧ (rs.getD i []).length ≤ (n :: ks.flatten).length ∧ ∀ m ∈ rs.getD i [], m ∈ n :: ks.flatten ∨ m.1 = 1 := fun i hi => by
   obtain ⟨h1, h2, h3⟩ := ih i hi
   have hmem : ks.getD i [] ∈ ks := zbU hi
   refine ⟨h1, ?_, fun m hm => ?_⟩
   ·
    have : (ks.getD i []).length ≤ ks.flatten.length := (List.sublist_flatten_of_mem hmem).length_le
    simp only [List.length_cons]
    omega
   ·
    rcases h3 m hm with h4 | h4
    ·
     exact Or.inl (List.mem_cons_of_mem _ (List.mem_flatten.2 ⟨_, hmem, h4⟩))
    ·
     exact Or.inr h4
  rcases zf7 n rs with e | ⟨_, _, v, h0, h1, e⟩ | ⟨h3, h6, e⟩ | ⟨h7, e⟩
  ·
   rw [e]
   refine ⟨hall, by simp only [List.length_cons]; omega, fun m hm => ?_⟩
   rcases List.mem_cons.1 hm with h4 | h4
   ·
    exact Or.inl (by rw [h4]; exact List.mem_cons_self)
   ·
    obtain ⟨x, hx, h5⟩ := List.mem_flatten.1 h4
    obtain ⟨i, hi, e2⟩ := zfy (d := []) hx
    rw [← e2] at h5
    exact (hpart i (by omega)).2.2 m h5
  ·
   rw [e]
   exact ⟨num_one h0 h1, by simp, fun m hm => Or.inr (by rw [List.mem_singleton.1 hm])⟩
  ·
   have hk2 := zbx ⟨h3, h6⟩
   rcases e with e | e
   ·
    rw [e]; exact hpart 0 (by omega)
   ·
    rw [e]; exact hpart 1 (by omega)
  ·
   have hk3 := zc6 h7
   rcases e with e | e
   ·
    rw [e]; exact hpart 1 (by omega)
   ·
    rw [e]; exact hpart 2 (by omega)
theorem Fo.again {s r : List Nd} (h : Fo s r) : Fo r r := by
 induction h with
 | mk n ks rs hn hk hr ho hfo ih =>
  have hones : ∀ x ∈ rs, One x := fun x hx => by
   obtain ⟨i, hi, e⟩ := zfy (d := []) hx
   rw [← e]; exact (hfo i (by omega)).res.1
  have hnum : ∀ v : Int, -2147483648 ≤ v → v ≤ 2147483647 → Fo [((1, v, [], []) : Nd)] [((1, v, [], []) : Nd)] := fun v h0 h1 => by
   have hn : zbu ((1, v, [], []) : Nd) = true := decide_eq_true (Or.inl ⟨rfl, ⟨h0, h1⟩, rfl, rfl⟩)
   have h := Fo.mk (1, v, [], []) [] [] hn rfl rfl (fun k hk => by cases hk) (fun i hi => absurd hi (Nat.not_lt_zero _))
   exact h
  rcases zf7 n rs with e | ⟨_, _, v, h0, h1, e⟩ | ⟨h3, h6, e⟩ | ⟨h7, e⟩
  ·
   have h := Fo.mk n rs rs hn (by omega) rfl hones (fun i hi => ih i (by omega))
   rw [e] at h
   rw [e]
   exact h
  ·
   rw [e]; exact hnum v h0 h1
  ·
   have hk2 := zbx ⟨h3, h6⟩
   rcases e with e | e
   ·
    rw [e]; exact ih 0 (by omega)
   ·
    rw [e]; exact ih 1 (by omega)
  ·
   have hk3 := zc6 h7
   rcases e with e | e
   ·
    rw [e]; exact ih 1 (by omega)
   ·
    rw [e]; exact ih 2 (by omega)
theorem Fo.uniq {s r : List Nd} (h : Fo s r) : ∀ {r' : List Nd}, Fo s r' → r = r' := by
 induction h with
 | mk n ks rs hn hk hr ho _ ih =>
  intro r' h'
  generalize hs : n :: ks.flatten = s at h'
  cases h' with
  | mk m js qs hm hj hq hoj hfj =>
   injection hs with e1 e2
   subst e1
   obtain rfl := zfv ho hoj (by omega) e2
   have : rs = qs := by
    refine List.ext_getElem (by omega) (fun i h1 h2 => ?_)
    have h3 := ih i (by omega) (hfj i (by omega))
    simpa [List.getD, h1, h2] using h3
   rw [this]
def zac : Nat → List Nd → Int → List Nd
 | 0, _, _ => []
 | d + 1, t, a => mk11 (t.getD a.toNat nd0) ((za3 t a).map (zac d t))
theorem zc8 {t post : List Nd} {a : Nat} {n : Nd} {ks : List (List Nd)} (h : t.drop a = (n :: ks.flatten) ++ post) (hk : ks.length = zae n) (ho : ∀ k ∈ ks, One k) : t.getD a nd0 = n ∧ (za3 t (a : Int)).length = ks.length ∧ ∀ i, i < ks.length → ∃ post', (za3 t (a : Int)).getD i 0 = ((a + 1 + (ks.take i).flatten.length : Nat) : Int) ∧ t.drop (a + 1 + (ks.take i).flatten.length) = ks.getD i [] ++ post' := by
 have ha : t.getD a nd0 = n := by
  have h1 := congrArg (fun l => l.getD 0 nd0) h
  simp only [List.cons_append] at h1
  rw [show (n :: (ks.flatten ++ post)).getD 0 nd0 = n from rfl] at h1
  rw [← h1]
  simp [List.getD, List.getElem?_drop]
 refine ⟨ha, by rw [zbj, ha, hk], fun i hi => ?_⟩
 obtain ⟨e1, e2⟩ := zgD h ho i (by omega)
 refine ⟨(ks.drop (i + 1)).flatten ++ post, ?_, ?_⟩
 ·
  have hc : (za3 t (a : Int)).getD i 0 = zd8 t i ((a + 1 : Nat) : Int) := by
   have key : ∀ (k : Nat) (q : Int) (i : Nat), i < k → (zaj t k q).getD i 0 = zd8 t i q := by
    intro k
    induction k with
    | zero => intro q i hi; omega
    | succ k ihk =>
     intro q i hi
     cases i with
     | zero => rfl
     | succ i => rw [zaj]; exact ihk (endV t q) i (by omega)
   unfold za3
   rw [Int.toNat_natCast, ha]
   exact key (zae n) ((a : Int) + 1) i (by omega)
  rw [hc, e1]
 ·
  rw [e2, List.drop_eq_getElem_cons hi, List.flatten_cons, List.append_assoc]
  simp [List.getD, hi]
theorem zk8 {s : List Nd} (h : One s) : ∀ (d : Nat) (t post : List Nd) (a : Nat), s.length ≤ d → t.drop a = s ++ post → Fo s (zac d t (a : Int)) := by
 induction h with
 | mk n ks hn hk ho ih =>
  intro d t post a hd ht
  rcases d with _ | d
  ·
   simp at hd
  ·
   obtain ⟨e1, e2, e3⟩ := zc8 ht hk ho
   rw [zac, Int.toNat_natCast, e1]
   refine Fo.mk n ks _ hn hk (by rw [List.length_map, e2]) ho (fun i hi => ?_)
   obtain ⟨post', e4, e5⟩ := e3 i hi
   have e6 : ((za3 t (a : Int)).map (zac d t)).getD i [] = zac d t ((a + 1 + (ks.take i).flatten.length : Nat) : Int) := by
    rw [← e4]
    simp [List.getD, e2, hi]
   rw [e6]
   have hm : ks.getD i [] ∈ ks := zbU hi
   refine ih _ hm d t post' _ ?_ e5
   have h1 : (ks.getD i []).length ≤ ks.flatten.length := (List.sublist_flatten_of_mem hm).length_le
   simp only [List.length_cons] at hd
   omega
def zbI (t : List Nd) : List Nd := if zb9 t = true then zac 60 t 0 else []
theorem zhZ {t : List Nd} (h : zb9 t = true) : Fo t (zbI t) := by
 unfold zbI
 rw [if_pos h]
 obtain ⟨h1, h2⟩ := zbY.1 h
 exact zk8 h2 60 t [] 0 h1 (by simp)
theorem zfM {t : List Nd} (h : zb9 t = true) : zb9 (zbI t) = true ∧ (zbI t).length ≤ t.length ∧ zbI (zbI t) = zbI t := by
 have hf := zhZ h
 obtain ⟨h1, h2, _⟩ := hf.res
 have h3 : zb9 (zbI t) = true := zbY.2 ⟨Nat.le_trans h2 (zbY.1 h).1, h1⟩
 exact ⟨h3, h2, (zhZ h3).uniq hf.again⟩
def zbw : List Int → Int → Int → Int
 | [], _, m => m
 | x :: r, i, m => zbw r (i + 1) (max m (x + i))
def zcM (o : Option Int) (x y : Int) : Int :=
 match o with
 | none => if x = y then x + 1 else max x y
 | some v => if v = 0 then max x (y + 1) else max y (x + 1)
def mk12 (o : Option Int) (n : Nd) (ks : List Int) : Int :=
 if 3 ≤ n.1 ∧ n.1 ≤ 6 then zcM o (ks.getD 0 0) (ks.getD 1 0)
 else if n.1 = 7 then max (ks.getD 0 0) (max (ks.getD 1 0) (ks.getD 2 0))
 else zbw ks 0 1
def zbk (os : List Int) (a : Int) : Option Int := if os = [] then none else some (os.getD a.toNat 0)
def za8 : Nat → List Nd → List Int → Int → Int
 | 0, _, _, _ => 0
 | d + 1, t, os, a => mk12 (zbk os a) (t.getD a.toNat nd0) ((za3 t a).map (za8 d t os))
def needT (t : List Nd) : Int := if zb9 t = true then za8 60 t [] 0 else 0
def zcO (t : List Nd) (a : Int) : Int :=
 if zb9 t = true ∧ 0 ≤ a ∧ a < t.length ∧ 3 ≤ (t.getD a.toNat nd0).1 ∧ (t.getD a.toNat nd0).1 ≤ 6 then
  (if za8 60 t [] ((za3 t a).getD 1 0) ≤ za8 60 t [] ((za3 t a).getD 0 0) then 0 else 1)
 else -1
theorem zet : ∀ (ks : List Int) (i m : Int), m ≤ zbw ks i m
 | [], _, m => Int.le_refl m
 | _ :: r, i, _ => Int.le_trans (Int.le_max_left _ _) (zet r (i + 1) _)
inductive Nu : List Nd → Int → Prop
 | mk (n : Nd) (ks : List (List Nd)) (rs : List Int) : zbu n = true → ks.length = zae n → rs.length = ks.length → (∀ k ∈ ks, One k) → (∀ i, i < ks.length → Nu (ks.getD i []) (rs.getD i 0)) → Nu (n :: ks.flatten) (mk12 none n rs)
theorem Nu.uniq {s : List Nd} {r : Int} (h : Nu s r) : ∀ {r' : Int}, Nu s r' → r = r' := by
 induction h with
 | mk n ks rs hn hk hr ho _ ih =>
  intro r' h'
  generalize hs : n :: ks.flatten = s at h'
  cases h' with
  | mk m js qs hm hj hq hoj hfj =>
   injection hs with e1 e2
   subst e1
   obtain rfl := zfv ho hoj (by omega) e2
   have : rs = qs := by
    refine List.ext_getElem (by omega) (fun i h1 h2 => ?_)
    have h3 := ih i (by omega) (hfj i (by omega))
    simpa [List.getD, h1, h2] using h3
   rw [this]
theorem zjC {s : List Nd} (h : One s) : ∀ (d : Nat) (t post : List Nd) (a : Nat), s.length ≤ d → t.drop a = s ++ post → Nu s (za8 d t [] (a : Int)) := by
 induction h with
 | mk n ks hn hk ho ih =>
  intro d t post a hd ht
  rcases d with _ | d
  ·
   simp at hd
  ·
   obtain ⟨e1, e2, e3⟩ := zc8 ht hk ho
   rw [za8, Int.toNat_natCast, e1]
   refine Nu.mk n ks _ hn hk (by rw [List.length_map, e2]) ho (fun i hi => ?_)
   obtain ⟨post', e4, e5⟩ := e3 i hi
   have e6 : ((za3 t (a : Int)).map (za8 d t [])).getD i 0 = za8 d t [] ((a + 1 + (ks.take i).flatten.length : Nat) : Int) := by
    rw [← e4]
    simp [List.getD, e2, hi]
   rw [e6]
   have hm : ks.getD i [] ∈ ks := zbU hi
   refine ih _ hm d t post' _ ?_ e5
   have h1 : (ks.getD i []).length ≤ ks.flatten.length := (List.sublist_flatten_of_mem hm).length_le
   simp only [List.length_cons] at hd
   omega
theorem zap {d : Nat} {t : List Nd} {os : List Int} {l : List Int} {i : Nat} (hi : i < l.length) : (l.map (za8 d t os)).getD i 0 = za8 d t os (l.getD i 0) := by
 simp [List.getD, hi]
theorem zjD {s : List Nd} (h : One s) {d d' : Nat} {t post : List Nd} {a : Nat} (h1 : s.length ≤ d) (h2 : s.length ≤ d') (ht : t.drop a = s ++ post) : za8 d t [] (a : Int) = za8 d' t [] (a : Int) := (zjC h d t post a h1 ht).uniq (zjC h d' t post a h2 ht)
theorem zgc : ∀ (ks : List Int) (i m : Int) (N : Int), m ≤ N → (∀ j, j < ks.length → ks.getD j 0 + i + j ≤ N) → zbw ks i m ≤ N
 | [], _, _, _, h, _ => h
 | x :: r, i, m, N, h, hk => by
  have h0 : x + i ≤ N := by have := hk 0 (by simp); simpa using this
  refine zgc r (i + 1) _ N (by omega) (fun j hj => ?_)
  have := hk (j + 1) (by simpa using hj)
  simp at this
  simp
  omega
theorem zh3 {s : List Nd} (h : One s) (os : List Int) : ∀ (d : Nat) (t post : List Nd) (a : Nat), s.length ≤ d → t.drop a = s ++ post → 1 ≤ za8 d t os (a : Int) ∧ za8 d t os (a : Int) ≤ s.length := by
 induction h with
 | mk n ks hn hk ho ih =>
  intro d t post a hd ht
  rcases d with _ | d
  ·
   simp at hd
  ·
   obtain ⟨e1, e2, e3⟩ := zc8 ht hk ho
   have hb : ∀ i, i < ks.length → 1 ≤ za8 d t os ((za3 t (a : Int)).getD i 0) ∧ za8 d t os ((za3 t (a : Int)).getD i 0) ≤ (ks.getD i []).length := fun i hi => by
    obtain ⟨post', e4, e5⟩ := e3 i hi
    rw [e4]
    have hm : ks.getD i [] ∈ ks := zbU hi
    have h1 : (ks.getD i []).length ≤ ks.flatten.length := (List.sublist_flatten_of_mem hm).length_le
    exact ih _ hm d t post' _ (by simp only [List.length_cons] at hd; omega) e5
   have hpos : ∀ i, i < ks.length → 0 < (ks.getD i []).length := fun i hi => (ho _ (zbU hi)).pos
   rw [za8, Int.toNat_natCast, e1]
   unfold mk12
   by_cases h36 : 3 ≤ n.1 ∧ n.1 ≤ 6
   ·
    have hk2 : ks.length = 2 := by rw [hk]; exact zbx h36
    obtain ⟨k1, k2, rfl⟩ : ∃ x y, ks = [x, y] := by
     match ks, hk2 with
     | [x, y], _ => exact ⟨x, y, rfl⟩
    rw [if_pos h36, zap (by omega), zap (by omega)]
    have h0 := hb 0 (by simp)
    have h1 := hb 1 (by simp)
    have q0 := hpos 0 (by simp)
    have q1 := hpos 1 (by simp)
    simp only [show ([k1, k2] : List (List Nd)).getD 0 [] = k1 from rfl, show ([k1, k2] : List (List Nd)).getD 1 [] = k2 from rfl] at h0 h1 q0 q1
    have hl : (n :: [k1, k2].flatten).length = k1.length + k2.length + 1 := by simp
    rw [hl]
    generalize za8 d t os ((za3 t (a : Int)).getD 0 0) = x at h0 ⊢
    generalize za8 d t os ((za3 t (a : Int)).getD 1 0) = y at h1 ⊢
    unfold zcM
    split
    ·
     split <;> omega
    ·
     split <;> omega
   ·
    rw [if_neg h36]
    by_cases h7 : n.1 = 7
    ·
     have hk2 : ks.length = 3 := by rw [hk]; exact zc6 h7
     obtain ⟨k1, k2, k3, rfl⟩ : ∃ x y z, ks = [x, y, z] := by
      match ks, hk2 with
      | [x, y, z], _ => exact ⟨x, y, z, rfl⟩
     rw [if_pos h7, zap (by omega), zap (by omega), zap (by omega)]
     have h0 := hb 0 (by simp)
     have h1 := hb 1 (by simp)
     have h2 := hb 2 (by simp)
     simp only [show ([k1, k2, k3] : List (List Nd)).getD 0 [] = k1 from rfl, show ([k1, k2, k3] : List (List Nd)).getD 1 [] = k2 from rfl, show ([k1, k2, k3] : List (List Nd)).getD 2 [] = k3 from rfl] at h0 h1 h2
     have hl : (n :: [k1, k2, k3].flatten).length = k1.length + (k2.length + k3.length) + 1 := by simp
     rw [hl]
     omega
    ·
     rw [if_neg h7]
     refine ⟨zet _ _ _, zgc _ _ _ _ (by simp only [List.length_cons]; omega) (fun j hj => ?_)⟩
     rw [List.length_map] at hj
     rw [zap hj]
     have h0 := hb j (by omega)
     have key : ∀ (l : List (List Nd)) (j : Nat), j < l.length → (∀ i, i < l.length → 0 < (l.getD i []).length) → (l.getD j []).length + j ≤ l.flatten.length := by
      intro l
      induction l with
      | nil => intro j hj; simp at hj
      | cons x r ihl =>
       intro j hj hp
       cases j with
       | zero => simp
       | succ j =>
        have h1 := ihl j (by simpa using hj) (fun i hi => by have := hp (i + 1) (by simpa using hi); simpa using this)
        have h2 := hp 0 (by simp)
        simp at h1 h2 ⊢
        omega
     have h3 := key ks j (by omega) hpos
     simp only [List.length_cons]
     omega
theorem zff : ∀ (l : List Nd) (o : Nat), zbd l o = some l.length → ∀ j, j < l.length → ∃ d, zbd (l.drop j) 1 = some d
 | [], _, _, j, hj => by simp at hj
 | n :: r, 0, h, _, _ => by rw [zbE] at h; simp at h
 | n :: r, o + 1, h, 0, _ => by
  rw [show o + 1 = 1 + o by omega, zdA] at h
  rw [List.drop_zero]
  cases he : zbd (n :: r) 1 with
  | none => rw [he] at h; cases h
  | some d => exact ⟨d, rfl⟩
 | n :: r, o + 1, h, j + 1, hj => by
  rw [zb8] at h
  split at h
  ·
   cases he : zbd r (o + zae n) with
   | none => rw [he] at h; cases h
   | some e =>
    rw [he] at h
    simp only [Option.map_some, Option.some.injEq, List.length_cons] at h
    have e1 : e = r.length := by omega
    rw [e1] at he
    rw [List.drop_succ_cons]
    exact zff r _ he j (by simpa using hj)
  ·
   cases h
theorem zeh {t : List Nd} (h : One t) {i : Nat} (hi : i < t.length) : 0 ≤ endV t (i : Int) := by
 have h1 := h.end_ []
 rw [List.append_nil] at h1
 obtain ⟨d, hd⟩ := zff t 1 h1 i hi
 rw [zcl, zeJ hd hi]
 omega
theorem ziQ {t : List Nd} (h : zb9 t = true) {a : Nat} (ha : a < t.length) : ∃ s post, t.drop a = s ++ post ∧ One s ∧ s.length ≤ 60 := by
 obtain ⟨hl, ho⟩ := zbY.1 h
 obtain ⟨s, post, e, hs⟩ := zcK (zeh ho ha)
 refine ⟨s, post, e, hs, ?_⟩
 have h2 := congrArg List.length e
 rw [List.length_drop, List.length_append] at h2
 omega
abbrev In13 := Int × Int × Int × Int × List UInt8
def in0 : In13 := (0, 0, 0, 0, [])
def zb3 (s : List UInt8) : Bool := (zaD 46 s).length == 2 && zaz ((zaD 46 s).getD 0 []) && zaz ((zaD 46 s).getD 1 [])
def insP (i : In13) : Prop :=
 (i.1 = 9 ∨ i.2.2.2.2 = []) ∧ ((3 ≤ i.1 ∧ i.1 ≤ 6) ∨ i.2.2.2.1 = 0) ∧
 ((i.1 = 1 ∧ (0 ≤ i.2.1 ∧ i.2.1 ≤ 63) ∧ (-2147483648 ≤ i.2.2.1 ∧ i.2.2.1 ≤ 2147483647)) ∨
  (i.1 = 2 ∧ (0 ≤ i.2.1 ∧ i.2.1 ≤ 63) ∧ (0 ≤ i.2.2.1 ∧ i.2.2.1 ≤ 2)) ∨
  ((3 ≤ i.1 ∧ i.1 ≤ 6) ∧ (0 ≤ i.2.1 ∧ i.2.1 ≤ 63) ∧ (0 ≤ i.2.2.1 ∧ i.2.2.1 ≤ 63) ∧ (0 ≤ i.2.2.2.1 ∧ i.2.2.2.1 ≤ 63)) ∨
  (i.1 = 7 ∧ (0 ≤ i.2.1 ∧ i.2.1 ≤ 63) ∧ (0 ≤ i.2.2.1 ∧ i.2.2.1 ≤ 199)) ∨
  (i.1 = 8 ∧ i.2.1 = 0 ∧ (0 ≤ i.2.2.1 ∧ i.2.2.1 ≤ 199)) ∨
  (i.1 = 9 ∧ (0 ≤ i.2.1 ∧ i.2.1 ≤ 63) ∧ (0 ≤ i.2.2.1 ∧ i.2.2.1 ≤ 3) ∧ i.2.1 + i.2.2.1 - 1 ≤ 63 ∧ zb3 i.2.2.2.2 = true) ∨
  (i.1 = 10 ∧ (0 ≤ i.2.1 ∧ i.2.1 ≤ 63) ∧ i.2.2.1 = 0))
instance (i : In13) : Decidable (insP i) := by unfold insP; infer_instance
def insB (i : In13) : Bool := decide (insP i)
def zaS (n : Nat) (i : In13) : Prop := insP i ∧ ((i.1 = 7 ∨ i.1 = 8) → i.2.2.1 < (n : Int))
instance (n : Nat) (i : In13) : Decidable (zaS n i) := by unfold zaS; infer_instance
def zbP (c : List In13) : Bool := decide ((1 ≤ c.length ∧ c.length ≤ 200) ∧ (∀ i ∈ c, zaS c.length i) ∧ ((c.getD (c.length - 1) in0).1 = 10 ∨ (c.getD (c.length - 1) in0).1 = 8))
def top13 (i : In13) : Int := if i.1 = 8 then 0 else if 3 ≤ i.1 ∧ i.1 ≤ 6 then max (max i.2.2.1 i.2.2.2.1 + 1) (i.2.1 + 1) else if i.1 = 9 then max (i.2.1 + i.2.2.1) (i.2.1 + 1) else i.2.1 + 1
def mx13 : List In13 → Int
 | [] => 0
 | i :: r => max (top13 i) (mx13 r)
theorem zjF : ∀ l : List In13, 0 ≤ mx13 l
 | [] => Int.le_refl 0
 | _ :: r => Int.le_trans (zjF r) (Int.le_max_right _ _)
theorem zbl : ∀ x y : List In13, mx13 (x ++ y) = max (mx13 x) (mx13 y)
 | [], y => by have := zjF y; simp only [List.nil_append, mx13]; omega
 | i :: r, y => by simp only [List.cons_append, mx13, zbl r y]; omega
theorem zhU (i : In13) : mx13 [i] = max (top13 i) 0 := rfl
def regsV (c : List In13) : Int := if zbP c = true then mx13 c else 0
def zaJ (f : Int → Int → Int → List In13) : List Int → Int → Int → List In13
 | [], _, _ => []
 | p :: ps, r, c => f p r c ++ zaJ f ps (r + 1) (c + (f p r c).length)
def zad : Nat → List Nd → Int → Int → Int → List In13
 | 0, _, _, _, _ => []
 | d + 1, t, a, r, c =>
  let n := t.getD a.toNat nd0
  let p := za3 t a
  if n.1 = 1 then [(1, r, n.2.1, 0, [])]
  else if n.1 = 2 then [(2, r, n.2.1, 0, [])]
  else if n.1 = 7 then
   let x := zad d t (p.getD 0 0) r c
   let y := zad d t (p.getD 1 0) r (c + x.length + 1)
   let z := zad d t (p.getD 2 0) r (c + x.length + 1 + y.length + 1)
   x ++ (7, r, c + x.length + 1 + y.length + 1, 0, []) :: (y ++ (8, 0, c + x.length + 1 + y.length + 1 + z.length, 0, []) :: z)
  else if n.1 = 8 then zaJ (zad d t) p r c ++ [(9, r, n.2.1, 0, n.2.2.1 ++ 46 :: n.2.2.2)]
  else if za8 60 t [] (p.getD 1 0) ≤ za8 60 t [] (p.getD 0 0) then
   let x := zad d t (p.getD 0 0) r c
   x ++ zad d t (p.getD 1 0) (r + 1) (c + x.length) ++ [(n.1, r, r, r + 1, [])]
  else
   let x := zad d t (p.getD 1 0) r c
   x ++ zad d t (p.getD 0 0) (r + 1) (c + x.length) ++ [(n.1, r, r + 1, r, [])]
def zaq (t : List Nd) : List In13 := if zb9 t = true then zad 60 t 0 0 0 ++ [(10, 0, 0, 0, [])] else []
structure G13 (s : Nat) (x : List In13) (r c nd : Int) : Prop where
 len : x.length + 1 ≤ 2 * s
 pos : 1 ≤ x.length
 noEnd : ∀ i ∈ x, i.1 ≠ 10
 ok : 0 ≤ c → c + x.length ≤ 199 → r + nd ≤ 64 → ∀ i ∈ x, insP i ∧ ((i.1 = 7 ∨ i.1 = 8) → i.2.2.1 ≤ c + x.length)
 top : mx13 x = r + nd
theorem name_dot {p f : List UInt8} (hp : zaz p = true) (hf : zaz f = true) : zb3 (p ++ 46 :: f) = true := by
 have hno : ∀ {l : List UInt8}, zaz l = true → ∀ c ∈ l, c ≠ 46 := fun h c hc e => by
  unfold zaz at h
  rw [Bool.and_eq_true, List.all_eq_true] at h
  have := h.2 c hc
  subst e
  simp at this
 have hs : zaD 46 (p ++ 46 :: f) = [p, f] := by
  unfold zaD
  rw [zdn 46 p f [] (hno hp), zdF 46 f [] (hno hf)]
  rfl
 unfold zb3
 rw [hs]
 simp [hp, hf]
theorem zgk {s1 s2 : Nat} {x y : List In13} {k r c m1 m2 a b : Int} (h1 : G13 s1 x r c m1) (h2 : G13 s2 y (r + 1) (c + x.length) m2) (hr : 0 ≤ r) (hk : 3 ≤ k ∧ k ≤ 6) (hm1 : 1 ≤ m1) (hm2 : 1 ≤ m2) (hab : (a = r ∧ b = r + 1) ∨ (a = r + 1 ∧ b = r)) : G13 (s1 + s2 + 1) (x ++ y ++ [(k, r, a, b, [])]) r c (max m1 (m2 + 1)) := by
 have hl : (x ++ y ++ [((k, r, a, b, []) : In13)]).length = x.length + y.length + 1 := by simp; omega
 refine ⟨?_, ?_, ?_, ?_, ?_⟩
 ·
  rw [hl]; have := h1.len; have := h2.len; omega
 ·
  rw [hl]; omega
 ·
  intro i hi
  simp only [List.mem_append, List.mem_singleton] at hi
  rcases hi with (hi | hi) | hi
  ·
   exact h1.noEnd i hi
  ·
   exact h2.noEnd i hi
  ·
   subst hi; simp; omega
 ·
  intro hc hlen hn i hi
  rw [hl] at hlen ⊢
  simp only [List.mem_append, List.mem_singleton] at hi
  rcases hi with (hi | hi) | hi
  ·
   obtain ⟨q1, q2⟩ := h1.ok hc (by omega) (by omega) i hi
   exact ⟨q1, fun e => by have := q2 e; omega⟩
  ·
   obtain ⟨q1, q2⟩ := h2.ok (by omega) (by omega) (by omega) i hi
   exact ⟨q1, fun e => by have := q2 e; omega⟩
  ·
   subst hi
   refine ⟨⟨Or.inr rfl, Or.inl hk, Or.inr (Or.inr (Or.inl ⟨hk, ⟨hr, by simp only; omega⟩, ⟨by simp only; omega, by simp only; omega⟩, by simp only; omega, by simp only; omega⟩))⟩, fun e => by simp only at e; omega⟩
 ·
  rw [zbl, zbl, h1.top, h2.top, zhU]
  unfold top13
  simp only
  rw [if_neg (by omega), if_pos hk]
  omega
theorem into_if {s1 s2 s3 : Nat} {x y z : List In13} {r c m1 m2 m3 : Int} (h1 : G13 s1 x r c m1) (h2 : G13 s2 y r (c + x.length + 1) m2) (h3 : G13 s3 z r (c + x.length + 1 + y.length + 1) m3) (hr : 0 ≤ r) (hm1 : 1 ≤ m1) (hm2 : 1 ≤ m2) (hm3 : 1 ≤ m3) :
 G13 (s1 + s2 + s3 + 1) (x ++ (7, r, c + x.length + 1 + y.length + 1, 0, []) :: (y ++ (8, 0, c + x.length + 1 + y.length + 1 + z.length, 0, []) :: z)) r c (max m1 (max m2 m3)) := by
 obtain ⟨A, hA⟩ : ∃ A, c + x.length + 1 + y.length + 1 = A := ⟨_, rfl⟩
 obtain ⟨E, hE⟩ : ∃ E, A + z.length = E := ⟨_, rfl⟩
 rw [hA] at h3
 rw [hA, hE]
 have hl : (x ++ ((7, r, A, 0, []) : In13) :: (y ++ (8, 0, E, 0, []) :: z)).length = x.length + y.length + z.length + 2 := by simp; omega
 refine ⟨?_, ?_, ?_, ?_, ?_⟩
 ·
  rw [hl]; have := h1.len; have := h2.len; have := h3.len; omega
 ·
  rw [hl]; omega
 ·
  intro i hi
  simp only [List.mem_append, List.mem_cons] at hi
  rcases hi with hi | hi | hi | hi | hi
  ·
   exact h1.noEnd i hi
  ·
   subst hi; simp
  ·
   exact h2.noEnd i hi
  ·
   subst hi; simp
  ·
   exact h3.noEnd i hi
 ·
  intro hc hlen hn i hi
  rw [hl] at hlen ⊢
  simp only [List.mem_append, List.mem_cons] at hi
  rcases hi with hi | hi | hi | hi | hi
  ·
   obtain ⟨q1, q2⟩ := h1.ok hc (by omega) (by omega) i hi
   exact ⟨q1, fun e => by have := q2 e; omega⟩
  ·
   subst hi
   exact ⟨⟨Or.inr rfl, Or.inr rfl, Or.inr (Or.inr (Or.inr (Or.inl ⟨rfl, ⟨hr, by simp only; omega⟩, by simp only; omega, by simp only; omega⟩)))⟩, fun _ => by simp only; omega⟩
  ·
   obtain ⟨q1, q2⟩ := h2.ok (by omega) (by omega) (by omega) i hi
   exact ⟨q1, fun e => by have := q2 e; omega⟩
  ·
   subst hi
   exact ⟨⟨Or.inr rfl, Or.inr rfl, Or.inr (Or.inr (Or.inr (Or.inr (Or.inl ⟨rfl, rfl, by simp only; omega, by simp only; omega⟩))))⟩, fun _ => by simp only; omega⟩
  ·
   obtain ⟨q1, q2⟩ := h3.ok (by omega) (by omega) (by omega) i hi
   exact ⟨q1, fun e => by have := q2 e; omega⟩
 ·
  have e1 : mx13 (((7, r, A, 0, []) : In13) :: (y ++ (8, 0, E, 0, []) :: z)) = max (r + 1) (mx13 (y ++ ((8, 0, E, 0, []) : In13) :: z)) := rfl
  have e2 : mx13 (((8, 0, E, 0, []) : In13) :: z) = max 0 (mx13 z) := rfl
  rw [zbl, e1, zbl, e2, h1.top, h2.top, h3.top]
  omega
theorem zko (f : Int → Int → Int → List In13) (g : Int → Int) (sz : Int → Nat) : ∀ (ps : List Int) (r c : Int), 0 ≤ r → (∀ p ∈ ps, 1 ≤ g p ∧ ∀ r c, 0 ≤ r → G13 (sz p) (f p r c) r c (g p)) →
 (zaJ f ps r c).length + ps.length ≤ 2 * (ps.map sz).sum ∧ (∀ i ∈ zaJ f ps r c, i.1 ≠ 10) ∧ (∀ m : Int, 0 ≤ c → c + (zaJ f ps r c).length ≤ 199 → r + zbw (ps.map g) 0 m ≤ 64 → ∀ i ∈ zaJ f ps r c, insP i ∧ ((i.1 = 7 ∨ i.1 = 8) → i.2.2.1 ≤ c + (zaJ f ps r c).length)) ∧ (∀ m : Int, 0 ≤ m → max (mx13 (zaJ f ps r c)) (r + m) = r + zbw (ps.map g) 0 m ∧ (ps.length : Int) ≤ zbw (ps.map g) 0 m)
 | [], r, c, hr, _ => by
  refine ⟨by simp [zaJ], ?_, ?_, ?_⟩
  ·
   intro i hi; simp [zaJ] at hi
  ·
   intro m _ _ _ i hi; simp [zaJ] at hi
  ·
   intro m hm
   simp only [zaJ, mx13, List.map_nil, zbw, List.length_nil]
   omega
 | p :: ps, r, c, hr, h => by
  obtain ⟨hg, hp⟩ := h p (by simp)
  have h1 := hp r c hr
  obtain ⟨i1, i2, i3, i4⟩ := zko f g sz ps (r + 1) (c + (f p r c).length) (by omega) (fun q hq => h q (by simp [hq]))
  have most_shift : ∀ (l : List Int) (i m : Int), zbw l (i + 1) (m + 1) = zbw l i m + 1 := by
   intro l
   induction l with
   | nil => intro i m; rfl
   | cons x l ihl => intro i m; simp only [zbw]; rw [← ihl]; congr 1; omega
  have e1 : zaJ f (p :: ps) r c = f p r c ++ zaJ f ps (r + 1) (c + (f p r c).length) := rfl
  rw [e1]
  generalize zaJ f ps (r + 1) (c + (f p r c).length) = y at i1 i2 i3 i4 ⊢
  generalize f p r c = x at h1 i3 ⊢
  have hl : (x ++ y).length = x.length + y.length := by simp
  have hm : ∀ m : Int, zbw ((p :: ps).map g) 0 m = zbw (ps.map g) 0 (max m (g p) - 1) + 1 := fun m => by
   have := most_shift (ps.map g) 0 (max m (g p) - 1)
   rw [show max m (g p) - 1 + 1 = max m (g p) by omega] at this
   rw [← this]
   simp only [List.map_cons, zbw, Int.add_zero]
  refine ⟨?_, ?_, ?_, ?_⟩
  ·
   rw [hl]
   have := h1.len
   simp only [List.map_cons, List.sum_cons, List.length_cons]
   omega
  ·
   intro i hi
   rcases List.mem_append.1 hi with hi | hi
   ·
    exact h1.noEnd i hi
   ·
    exact i2 i hi
  ·
   intro m hc hlen hn i hi
   rw [hl] at hlen ⊢
   rw [hm] at hn
   have hge := zet (ps.map g) 0 (max m (g p) - 1)
   rcases List.mem_append.1 hi with hi | hi
   ·
    obtain ⟨q1, q2⟩ := h1.ok hc (by omega) (by omega) i hi
    exact ⟨q1, fun e => by have := q2 e; omega⟩
   ·
    obtain ⟨q1, q2⟩ := i3 (max m (g p) - 1) (by omega) (by omega) (by omega) i hi
    exact ⟨q1, fun e => by have := q2 e; omega⟩
  ·
   intro m hm1
   rw [hm, zbl, h1.top, List.length_cons]
   have := i4 (max m (g p) - 1) (by omega)
   omega
theorem zjN {s : Nat} {y : List In13} {r c m k : Int} {pk fn : List UInt8} (hl : y.length ≤ 2 * s) (h2 : ∀ i ∈ y, i.1 ≠ 10) (h3 : 0 ≤ c → c + y.length ≤ 199 → r + m ≤ 64 → ∀ i ∈ y, insP i ∧ ((i.1 = 7 ∨ i.1 = 8) → i.2.2.1 ≤ c + y.length)) (h4 : max (mx13 y) (r + 1) = r + m) (hk0 : 0 ≤ k) (hk3 : k ≤ 3) (hkm : k ≤ m) (hr : 0 ≤ r) (hp : zaz pk = true) (hf : zaz fn = true) :
 G13 (s + 1) (y ++ [(9, r, k, 0, pk ++ 46 :: fn)]) r c m := by
 have hl2 : (y ++ [((9, r, k, 0, pk ++ 46 :: fn) : In13)]).length = y.length + 1 := by simp
 refine ⟨?_, ?_, ?_, ?_, ?_⟩
 ·
  rw [hl2]; omega
 ·
  rw [hl2]; omega
 ·
  intro i hi
  simp only [List.mem_append, List.mem_singleton] at hi
  rcases hi with hi | hi
  ·
   exact h2 i hi
  ·
   subst hi; simp
 ·
  intro hc hlen hn i hi
  rw [hl2] at hlen ⊢
  simp only [List.mem_append, List.mem_singleton] at hi
  rcases hi with hi | hi
  ·
   obtain ⟨q1, q2⟩ := h3 hc (by omega) (by omega) i hi
   exact ⟨q1, fun e => by have := q2 e; omega⟩
  ·
   subst hi
   exact ⟨⟨Or.inl rfl, Or.inr rfl, Or.inr (Or.inr (Or.inr (Or.inr (Or.inr (Or.inl ⟨rfl, ⟨hr, by simp only; omega⟩, ⟨hk0, hk3⟩, by simp only; omega, name_dot hp hf⟩)))))⟩, fun e => by simp only at e; omega⟩
 ·
  have e1 : mx13 [((9, r, k, 0, pk ++ 46 :: fn) : In13)] = max (max (r + k) (r + 1)) 0 := rfl
  rw [zbl, e1]
  omega
def zaI (l : List Int) : List Value := l.map (fun i => Value.int .i64 i)
theorem zgj (l : List Int) : (zaI l).length = l.length := by simp [zaI]
theorem zdX (x y : List Int) : zaI (x ++ y) = zaI x ++ zaI y := by simp [zaI]
theorem zgi (l : List Int) : ∀ u ∈ zaI l, u.oneCell' = true := by
 intro u hu
 simp only [zaI, List.mem_map] at hu
 obtain ⟨i, _, rfl⟩ := hu
 rfl
theorem infoInt : (Tryz.prog.info? 2).map (fun i => (i.zero, i.size, i.bytes)) = some (some (.int .i64 0), 1, 8) := by kernel_rfl
theorem zjA (w : World) (n : Int) : ∀ j u, (zaI [n])[j]? = some u → (w.alloc (.cells #[.int .i64 n] 2)).cell? ((⟨w.heap.size, 0, none⟩ : Addr).add j) = some u := by
 intro j u hu
 have e : (⟨w.heap.size, 0, none⟩ : Addr).add j = ⟨w.heap.size, j, none⟩ := by unfold Addr.add; split <;> simp_all
 rw [e]
 match j, hu with
 | 0, hu => simp [zaI] at hu; subst hu; simp
 | j + 1, hu => simp [zaI] at hu
theorem endV_le (l : List Nd) (a : Int) : -1 ≤ endV l a ∧ endV l a ≤ l.length := by
 by_cases h : 0 ≤ endV l a
 ·
  by_cases ha : a < 0 ∨ (l.length : Int) ≤ a
  ·
   rw [zfN l a ha] at h; omega
  ·
   obtain ⟨k, rfl⟩ : ∃ k : Nat, a = (k : Int) := Int.eq_ofNat_of_zero_le (by omega)
   have := zan h
   omega
 ·
  by_cases ha : a < 0 ∨ (l.length : Int) ≤ a
  ·
   rw [zfN l a ha]; omega
  ·
   obtain ⟨k, rfl⟩ : ∃ k : Nat, a = (k : Int) := Int.eq_ofNat_of_zero_le (by omega)
   rw [zcl] at h ⊢
   unfold endN at h ⊢
   rw [if_pos (by omega)] at h ⊢
   cases he : zbd (l.drop k) 1 with
   | none => simp only; omega
   | some d => rw [he] at h; simp only at h; omega
set_option maxHeartbeats 2000000 in
set_option maxRecDepth 100000 in
theorem zaK (a : Option Addr) (cap : Nat) (ns : List Nd) (k0 : Nat) (w : World) (hin : zag w a ns.length ns) (hsh : zaX ns) (hlen : ns.length ≤ 1048576) (hk0 : k0 < ns.length) (hnb : zbu (ns.getD k0 nd0) = true) :
 Calls Tryz.prog 104 #[.slice a ns.length cap, .int .i64 k0] w fun e w' => ∃ v, e = .returned v ∧ w'.ownsRow w.heap.size 2 1 v (zae (ns.getD k0 nd0)) (zaI (zaj ns (zae (ns.getD k0 nd0)) ((k0 : Int) + 1))) ∧ Below w.heap.size w w' := by
 have hown0 := (World.ownsRow_lit (base := w.heap.size) (e := 2) (size := 1) w #[] 0 (Nat.le_refl _) (by decide) rfl)
 obtain ⟨i0, hi, hz0, hz1, hz2⟩ := info_parts infoInt
 obtain ⟨b, off, rfl, hbl, hcells⟩ := hin.at (by omega)
 obtain ⟨c0, c1, c2, c3⟩ := hcells k0 hk0
 obtain ⟨n, hn⟩ : ∃ n, ns.getD k0 nd0 = n := ⟨_, rfl⟩
 rw [hn] at c0 c1 c2 c3 hnb ⊢
 have HK : Hid (_) := fun W : World => zfm n W
 obtain ⟨hk1, hk3⟩ := @zbc n hnb
 have HI : Hid (zag w (some ⟨b, off, none⟩) ns.length ns) := hin
 have HE : Hid (_) := fun (j : Int) (W : World) (h : zag W (some ⟨b, off, none⟩) ns.length ns) => zfZ (some ⟨b, off, none⟩) ns.length cap ns j W h hsh hlen
 have hk0i : (k0 : Int) < 1048576 := by omega
 obtain ⟨kd, aa, p, f⟩ := n
 unfold zdc at HK
 simp only at c0 c1 c2 c3 HK
 clear hn hcells hin hsh hnb
 go_enter Tryz.func104, Tryz.ntmps104
 go_wp2_with fail
 refine Calls.mono (HK.out _) ?_
 rintro e w1 ⟨rfl, hb1⟩
 rw [hk1]
 obtain ⟨q, hq⟩ : ∃ q, zae (kd, aa, p, f) = q := ⟨_, rfl⟩
 rw [hq] at hk3 ⊢
 have HQ : Hid (zae (kd, aa, p, f) = q) := hq
 have hB1 := zht hb1
 have hown1 := za6 hown0 hb1
 clear hk1 hq hb1 hown0 HK c0 c1 c2 c3
 go_wp2
 go_loopw [5, 6, 7] (fun v nx kv wr => ∃ (ds : List Int) (r : Nat) (t : Int), kv = .int .i64 r ∧ nx = .int .i64 t ∧ ds.length + r = q ∧ -1 ≤ t ∧ t ≤ 1048576 ∧ Hid (ds ++ zaj ns r t = zaj ns q ((k0 : Int) + 1)) ∧ Hid (wr.ownsRow w.heap.size 2 1 v ds.length (zaI ds)) ∧ Below w.heap.size w wr) (fun _ _ kv _ => (intOf kv).toNat)
 case atStart => exact ⟨[], q, (k0 : Int) + 1, rfl, by go_num, by simp, by omega, by omega, (rfl : [] ++ zaj ns q ((k0 : Int) + 1) = _), hown1, hB1⟩
 case round =>
  obtain ⟨ds, r, t, rfl, rfl, hr, ht0, ht1, HP, HV, hb⟩ := hrel
  clear hown1 hB1
  by_cases hrz : r = 0
  ·
   subst hrz
   have HF : Hid (ds = zaj ns q ((k0 : Int) + 1) ∧ ds.length = q) := by
    have h := HP.out
    rw [zaj, List.append_nil] at h
    exact (⟨h, by omega⟩ : ds = zaj ns q ((k0 : Int) + 1) ∧ ds.length = q)
   go_wp2
   go_ret
   exact ⟨_, rfl, by rw [HQ.out, ← HF.out.1, ← HF.out.2]; exact HV.out, hb⟩
  ·
   obtain ⟨r', rfl⟩ : ∃ r', r = r' + 1 := ⟨r - 1, by omega⟩
   have hr1 : (0 : Int) < ((r' + 1 : Nat) : Int) := by omega
   have hnc := zjA wr t
   have hV := HV.out
   have hB0 := hb
   clear hrz HV
   go_wp2_with (at_builtin; refine wpList_append_own_at _ rfl _ _ 132 rfl w.heap.size 2 i0 _ 1 8 Tryz.underlying132 hi hz0 hz1 hz2 rfl (by decide) _ _ _ rfl (hV.alloc _) ⟨wr.heap.size, 0, none⟩ 1 1 (zaI [t]) rfl rfl ?c1 ?c2 ?c3 ?c4 ?c5 ?_)
   first | (case c1 => exact hnc) | skip
   first | (case c2 => exact zgi _) | skip
   first | (case c3 => unfold maxLen; omega) | skip
   first | (case c4 => omega) | skip
   first | (case c5 => have := hB0.size; simp; try omega) | skip
   intro v' w3 hown3 hgrow3 hnil3 hat3
   have HV3 : Hid (w3.ownsRow w.heap.size 2 1 v' (ds ++ [t]).length (zaI (ds ++ [t]))) := by
    exact (by rw [zdX, List.length_append]; exact hown3 : w3.ownsRow w.heap.size 2 1 v' (ds ++ [t]).length (zaI (ds ++ [t])))
   have hb3 : Below w.heap.size w w3 := (hB0.alloc hB0.size _).grown hgrow3 (by have := hB0.size; simp; omega) (fun q e => (hV.lt q e).1)
   clear hown3 hgrow3 hnil3 hat3 hV hB0 hnc hb
   have HP2 : Hid ((ds ++ [t]) ++ zaj ns r' (endV ns t) = zaj ns q ((k0 : Int) + 1)) := by
    exact (by rw [← HP.out, zaj, List.append_assoc]; rfl : (ds ++ [t]) ++ zaj ns r' (endV ns t) = zaj ns q ((k0 : Int) + 1))
   have he := endV_le ns t
   go_wp2_with fail
   refine Calls.mono (HE.out t _ (HI.out.below hb3)) ?_
   rintro e w4 ⟨rfl, hb4⟩
   have hB4 := hb3.trans (hb4.mono hb3.size)
   have HV4 : Hid (w4.ownsRow w.heap.size 2 1 v' (ds ++ [t]).length (zaI (ds ++ [t]))) := za6 HV3.out hb4
   obtain ⟨t', htt⟩ : ∃ t', endV ns t = t' := ⟨_, rfl⟩
   rw [htt] at HP2 he ⊢
   have hdl : (ds ++ [t]).length + r' = q := by simp; omega
   clear htt hb4 hb3 HV3 HP
   go_wp2
   go_roundw
   case rel => exact ⟨ds ++ [t], r', t', by go_num, rfl, hdl, by omega, by omega, HP2, HV4, hB4⟩
   case measure => simp [intOf]
theorem zfC (l : List Int) (j : Nat) (h : j < l.length) : (zaI l)[j]? = some (.int .i64 l[j]) := by
 unfold zaI; rw [List.getElem?_map, List.getElem?_eq_getElem h]; rfl
section
open Go.ChangeShapes Go.WideShapes Go.ChangeAt Go.RowKit
def AsIn (w : World) (a : Option Addr) (xs : List Int) : Prop := ∀ j, j < xs.length → ∃ b off, a = some ⟨b, off, none⟩ ∧ b < w.heap.size ∧ w.cell? ⟨b, off + j, none⟩ = some (.int .i64 (xs.getD j 0))
theorem AsIn.below {w w' : World} {a : Option Addr} {xs : List Int} (h : AsIn w a xs) (hb : Below w.heap.size w w') : AsIn w' a xs := fun j hj => by
 obtain ⟨b, off, e, hl, hc⟩ := h j hj
 exact ⟨b, off, e, Nat.lt_of_lt_of_le hl hb.size, (hb.cell (p := ⟨b, off + j, none⟩) hl).trans hc⟩
theorem info2 : (Tryz.prog.info? 2).map (fun i => (i.zero, i.size, i.bytes)) = some (some (.int .i64 0), 1, 8) := by kernel_rfl
theorem nums_as {w : World} {B g n cp : Nat} {xs : List Int} (h : w.ownsRow B 2 1 (.slice (some ⟨g, 0, none⟩) n cp) n (zaI xs)) (hn : xs.length = n) : AsIn w (some ⟨g, 0, none⟩) xs := fun j hj => by
 have hc := h.cellAt j (by omega)
 rw [zfC xs j hj] at hc
 refine ⟨g, 0, rfl, World.block_lt_of_cell? w ⟨g, j, none⟩ hc, ?_⟩
 rw [Nat.zero_add, hc]
 simp [List.getD, hj]
end
end Go.Proofs.YtenaaneckobdpaaGreat
