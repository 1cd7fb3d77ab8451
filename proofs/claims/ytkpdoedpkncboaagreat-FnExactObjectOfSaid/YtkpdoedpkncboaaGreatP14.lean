/-
  Parts of one proof, one behind the other: FoldX, Math12, Math12L, Math13, NumsL, NeedS, InsS, InsS2, Math13L.
-/
import Derived.Test.YtkpdoedpkncboaaGreatP13
import Derived.Test.YtkpdoedpkncboaaGreatP6
import Derived.Test.YtkpdoedpkncboaaGreatP5
import Derived.Test.YtkpdoedpkncboaaGreatP2
import Derived.Test.YtkpdoedpkncboaaGreatP9
import Derived.Test.YtkpdoedpkncboaaGreatP1
import Derived.Test.YtkpdoedpkncboaaGreatP4
import Derived.Test.YtkpdoedpkncboaaGreatP3
import Derived.Deep.Cut
namespace Go.Proofs.YtkpdoedpkncboaaGreat
open Go.RowKit
structure Pv11 (Z : World) (lo hi : Nat) (ai : Option Addr) (il ci : Nat) (af : Option Addr) (fl cf : Nat) (ims : List (List UInt8)) (fs : List Fn) (xs : List FV) : Prop where
 oi : Z.ownsRow lo 9 1 (.slice ai il ci) il (strV ims)
 of : zas Z lo (.slice af fl cf) xs
 xm : xs.map (·.1) = fs
 li : ims.length = il
 lf : fs.length = fl
 at_ : ∀ k, zdE (.slice ai il ci) (.slice af fl cf) xs k → lo ≤ k ∧ k < hi
section
variable {Z Y : World} {lo hi : Nat} {ai : Option Addr} {il ci : Nat} {af : Option Addr} {fl cf : Nat} {ims : List (List UInt8)} {fs : List Fn} {xs : List FV}
theorem Pv11.below (h : Pv11 Z lo hi ai il ci af fl cf ims fs xs) (hb : Below Z.heap.size Z Y) : Pv11 Y lo hi ai il ci af fl cf ims fs xs := ⟨za2 h.oi hb, h.of.below hb, h.xm, h.li, h.lf, h.at_⟩
theorem Pv11.wrote (h : Pv11 Z lo hi ai il ci af fl cf ims fs xs) {S : Nat → Prop} (hw : zb4 Z Y S) (hs : ∀ k, S k → k < lo ∨ hi ≤ k) : Pv11 Y lo hi ai il ci af fl cf ims fs xs :=
 ⟨zbH h.oi hw (fun k e hk => by have := h.at_ k (Or.inl e); have := hs k hk; omega), ⟨zbH h.of.row hw (fun k e hk => by have := h.at_ k (Or.inr (Or.inl e)); have := hs k hk; omega), fun x hx => zbH (h.of.trees x hx) hw (fun k e hk => by have := h.at_ k (Or.inr (Or.inr ⟨x, hx, e⟩)); have := hs k hk; omega)⟩, h.xm, h.li, h.lf, h.at_⟩
theorem Pv11.none (h : Pv11 Z lo hi ai il ci af fl cf ims fs xs) (hg : Z.grownBy Y none) : Pv11 Y lo hi ai il ci af fl cf ims fs xs := h.wrote (S := fun _ => False) (zb4.of_grown hg (fun k e => by cases e)) (fun k e => e.elim)
theorem Pv11.drew (h : Pv11 Z lo hi ai il ci af fl cf ims fs xs) : Pv11 Z.drew lo hi ai il ci af fl cf ims fs xs := h.below ⟨rfl, rfl, rfl, Nat.le_refl _, fun _ _ => rfl⟩
theorem Pv11.in (h : Pv11 Z lo hi ai il ci af fl cf ims fs xs) : zae Z ai il ims ∧ zav Z af fl fs := by
 have hoi := h.oi
 rw [← h.li] at hoi
 obtain ⟨_, _, _, _, e1, e2, _, _, h1, h2⟩ := own_pk hoi h.of h.xm
 injection e1 with a1 _ a3
 injection e2 with b1 _ b3
 subst a1 a3 b1 b3
 rw [← h.li, ← h.lf]
 exact ⟨h1, h2⟩
theorem Pv11.len (h : Pv11 Z lo hi ai il ci af fl cf ims fs xs) : xs.length = fl := by rw [← h.lf, ← h.xm, List.length_map]
theorem Pv11.new {vi vf : Value} (hoi : Z.ownsRow lo 9 1 vi ims.length (strV ims)) (hof : zas Z lo vf xs) (hxs : xs.map (·.1) = fs) : ∃ ai ci af cf, vi = .slice ai ims.length ci ∧ vf = .slice af fs.length cf ∧ ((af = Option.none → cf = 0) ∧ fs.length ≤ cf) ∧ (ai = Option.none → ci = 0) ∧ Pv11 Z lo Z.heap.size ai ims.length ci af fs.length cf ims fs xs := by
 obtain ⟨ai, ci, af, cf, rfl, rfl, h0, h1, _, _⟩ := own_pk hoi hof hxs
 refine ⟨ai, ci, af, cf, rfl, rfl, h1, h0, hoi, hof, hxs, rfl, rfl, fun k hk => ?_⟩
 rcases hk with e | e | ⟨x, hx, e⟩
 ·
  exact hoi.lt k e
 ·
  exact hof.row.lt k e
 ·
  exact (hof.trees x hx).lt k e
end
theorem zc3 (p : Pk) : (zao p).2.1.length ≤ 6 ∧ (zao p).2.2.length ≤ 8 ∧ ∀ f ∈ (zao p).2.2, f.2.2.length ≤ 60 := by
 unfold zao
 split
 ·
  rename_i h
  obtain ⟨h1, h2, h3⟩ := zjd h
  refine ⟨h1, by rw [zeS]; exact h2, fun f hf => ?_⟩
  unfold zfB at hf
  obtain ⟨g, hg, rfl⟩ := List.mem_map.1 hf
  have := (zlM g.2.2)
  exact this
 ·
  exact ⟨by simp, by simp, fun f hf => by simp at hf⟩
def zbb : List Int → Int → Int → Int
 | [], _, m => m
 | x :: r, i, m => zbb r (i + 1) (max m (x + i))
def zck (o : Option Int) (x y : Int) : Int :=
 match o with
 | none => if x = y then x + 1 else max x y
 | some v => if v = 0 then max x (y + 1) else max y (x + 1)
def mk12 (o : Option Int) (n : Nd) (ks : List Int) : Int :=
 if 3 ≤ n.1 ∧ n.1 ≤ 6 then zck o (ks.getD 0 0) (ks.getD 1 0)
 else if n.1 = 7 then max (ks.getD 0 0) (max (ks.getD 1 0) (ks.getD 2 0))
 else zbb ks 0 1
def zbe (os : List Int) (a : Int) : Option Int := if os = [] then none else some (os.getD a.toNat 0)
def za5 : Nat → List Nd → List Int → Int → Int
 | 0, _, _, _ => 0
 | d + 1, t, os, a => mk12 (zbe os a) (t.getD a.toNat nd0) ((za1 t a).map (za5 d t os))
def needT (t : List Nd) : Int := if zaI t = true then za5 60 t [] 0 else 0
def zcX (t : List Nd) (a : Int) : Int :=
 if zaI t = true ∧ 0 ≤ a ∧ a < t.length ∧ 3 ≤ (t.getD a.toNat nd0).1 ∧ (t.getD a.toNat nd0).1 ≤ 6 then
  (if za5 60 t [] ((za1 t a).getD 1 0) ≤ za5 60 t [] ((za1 t a).getD 0 0) then 0 else 1)
 else -1
theorem zeF : ∀ (ks : List Int) (i m : Int), m ≤ zbb ks i m
 | [], _, m => Int.le_refl m
 | _ :: r, i, _ => Int.le_trans (Int.le_max_left _ _) (zeF r (i + 1) _)
inductive Nu : List Nd → Int → Prop
 | mk (n : Nd) (ks : List (List Nd)) (rs : List Int) : zaD n = true → ks.length = za7 n → rs.length = ks.length → (∀ k ∈ ks, One k) → (∀ i, i < ks.length → Nu (ks.getD i []) (rs.getD i 0)) → Nu (n :: ks.flatten) (mk12 none n rs)
theorem Nu.uniq {s : List Nd} {r : Int} (h : Nu s r) : ∀ {r' : Int}, Nu s r' → r = r' := by
 induction h with
 | mk n ks rs hn hk hr ho _ ih =>
  intro r' h'
  generalize hs : n :: ks.flatten = s at h'
  cases h' with
  | mk m js qs hm hj hq hoj hfj =>
   injection hs with e1 e2
   subst e1
   obtain rfl := zgd ho hoj (by omega) e2
   have : rs = qs := by
    refine List.ext_getElem (by omega) (fun i h1 h2 => ?_)
    have h3 := ih i (by omega) (hfj i (by omega))
    simpa [List.getD, h1, h2] using h3
   rw [this]
theorem zkT {s : List Nd} (h : One s) : ∀ (d : Nat) (t post : List Nd) (a : Nat), s.length ≤ d → t.drop a = s ++ post → Nu s (za5 d t [] (a : Int)) := by
 induction h with
 | mk n ks hn hk ho ih =>
  intro d t post a hd ht
  rcases d with _ | d
  ·
   simp at hd
  ·
   obtain ⟨e1, e2, e3⟩ := zbG ht hk ho
   rw [za5, Int.toNat_natCast, e1]
   refine Nu.mk n ks _ hn hk (by rw [List.length_map, e2]) ho (fun i hi => ?_)
   obtain ⟨post', e4, e5⟩ := e3 i hi
   have e6 : ((za1 t (a : Int)).map (za5 d t [])).getD i 0 = za5 d t [] ((a + 1 + (ks.take i).flatten.length : Nat) : Int) := by
    rw [← e4]
    simp [List.getD, e2, hi]
   rw [e6]
   have hm : ks.getD i [] ∈ ks := zbo hi
   refine ih _ hm d t post' _ ?_ e5
   have h1 : (ks.getD i []).length ≤ ks.flatten.length := (List.sublist_flatten_of_mem hm).length_le
   simp only [List.length_cons] at hd
   omega
theorem zan {d : Nat} {t : List Nd} {os : List Int} {l : List Int} {i : Nat} (hi : i < l.length) : (l.map (za5 d t os)).getD i 0 = za5 d t os (l.getD i 0) := by
 simp [List.getD, hi]
theorem zkU {s : List Nd} (h : One s) {d d' : Nat} {t post : List Nd} {a : Nat} (h1 : s.length ≤ d) (h2 : s.length ≤ d') (ht : t.drop a = s ++ post) : za5 d t [] (a : Int) = za5 d' t [] (a : Int) := (zkT h d t post a h1 ht).uniq (zkT h d' t post a h2 ht)
theorem zgV : ∀ (ks : List Int) (i m : Int) (N : Int), m ≤ N → (∀ j, j < ks.length → ks.getD j 0 + i + j ≤ N) → zbb ks i m ≤ N
 | [], _, _, _, h, _ => h
 | x :: r, i, m, N, h, hk => by
  have h0 : x + i ≤ N := by have := hk 0 (by simp); simpa using this
  refine zgV r (i + 1) _ N (by omega) (fun j hj => ?_)
  have := hk (j + 1) (by simpa using hj)
  simp at this
  simp
  omega
theorem zeD {s : List Nd} (h : One s) (os : List Int) : ∀ (d : Nat) (t post : List Nd) (a : Nat), s.length ≤ d → t.drop a = s ++ post → 1 ≤ za5 d t os (a : Int) ∧ za5 d t os (a : Int) ≤ s.length := by
 induction h with
 | mk n ks hn hk ho ih =>
  intro d t post a hd ht
  rcases d with _ | d
  ·
   simp at hd
  ·
   obtain ⟨e1, e2, e3⟩ := zbG ht hk ho
   have hb : ∀ i, i < ks.length → 1 ≤ za5 d t os ((za1 t (a : Int)).getD i 0) ∧ za5 d t os ((za1 t (a : Int)).getD i 0) ≤ (ks.getD i []).length := fun i hi => by
    obtain ⟨post', e4, e5⟩ := e3 i hi
    rw [e4]
    have hm : ks.getD i [] ∈ ks := zbo hi
    have h1 : (ks.getD i []).length ≤ ks.flatten.length := (List.sublist_flatten_of_mem hm).length_le
    exact ih _ hm d t post' _ (by simp only [List.length_cons] at hd; omega) e5
   have hpos : ∀ i, i < ks.length → 0 < (ks.getD i []).length := fun i hi => (ho _ (zbo hi)).pos
   rw [za5, Int.toNat_natCast, e1]
   unfold mk12
   by_cases h36 : 3 ≤ n.1 ∧ n.1 ≤ 6
   ·
    have hk2 : ks.length = 2 := by rw [hk]; exact zaX h36
    obtain ⟨k1, k2, rfl⟩ : ∃ x y, ks = [x, y] := by
     match ks, hk2 with
     | [x, y], _ => exact ⟨x, y, rfl⟩
    rw [if_pos h36, zan (by omega), zan (by omega)]
    have h0 := hb 0 (by simp)
    have h1 := hb 1 (by simp)
    have q0 := hpos 0 (by simp)
    have q1 := hpos 1 (by simp)
    simp only [show ([k1, k2] : List (List Nd)).getD 0 [] = k1 from rfl, show ([k1, k2] : List (List Nd)).getD 1 [] = k2 from rfl] at h0 h1 q0 q1
    have hl : (n :: [k1, k2].flatten).length = k1.length + k2.length + 1 := by simp
    rw [hl]
    generalize za5 d t os ((za1 t (a : Int)).getD 0 0) = x at h0 ⊢
    generalize za5 d t os ((za1 t (a : Int)).getD 1 0) = y at h1 ⊢
    unfold zck
    split
    ·
     split <;> omega
    ·
     split <;> omega
   ·
    rw [if_neg h36]
    by_cases h7 : n.1 = 7
    ·
     have hk2 : ks.length = 3 := by rw [hk]; exact zbn h7
     obtain ⟨k1, k2, k3, rfl⟩ : ∃ x y z, ks = [x, y, z] := by
      match ks, hk2 with
      | [x, y, z], _ => exact ⟨x, y, z, rfl⟩
     rw [if_pos h7, zan (by omega), zan (by omega), zan (by omega)]
     have h0 := hb 0 (by simp)
     have h1 := hb 1 (by simp)
     have h2 := hb 2 (by simp)
     simp only [show ([k1, k2, k3] : List (List Nd)).getD 0 [] = k1 from rfl, show ([k1, k2, k3] : List (List Nd)).getD 1 [] = k2 from rfl, show ([k1, k2, k3] : List (List Nd)).getD 2 [] = k3 from rfl] at h0 h1 h2
     have hl : (n :: [k1, k2, k3].flatten).length = k1.length + (k2.length + k3.length) + 1 := by simp
     rw [hl]
     omega
    ·
     rw [if_neg h7]
     refine ⟨zeF _ _ _, zgV _ _ _ _ (by simp only [List.length_cons]; omega) (fun j hj => ?_)⟩
     rw [List.length_map] at hj
     rw [zan hj]
     have h0 := hb j (by omega)
     have key : ∀ (l : List (List Nd)) (j : Nat), j < l.length → (∀ i, i < l.length → 0 < (l.getD i []).length) → (l.getD j []).length + j ≤ l.flatten.length := by
      intro l
      induction l with
      | nil => intro j hj; simp at hj
      | cons x r ihl =>
       intro j hj hp
       cases j with
       | zero => simp
       | succ j =>
        have h1 := ihl j (by simpa using hj) (fun i hi => by have := hp (i + 1) (by simpa using hi); simpa using this)
        have h2 := hp 0 (by simp)
        simp at h1 h2 ⊢
        omega
     have h3 := key ks j (by omega) hpos
     simp only [List.length_cons]
     omega
theorem zjR {t : List Nd} (h : zaI t = true) {a : Nat} (ha : a < t.length) : ∃ s post, t.drop a = s ++ post ∧ One s ∧ s.length ≤ 60 := by
 obtain ⟨hl, ho⟩ := zaM.1 h
 obtain ⟨s, post, e, hs⟩ := zcM (zbX ho ha)
 refine ⟨s, post, e, hs, ?_⟩
 have h2 := congrArg List.length e
 rw [List.length_drop, List.length_append] at h2
 omega
abbrev In13 := Int × Int × Int × Int × List UInt8
def in0 : In13 := (0, 0, 0, 0, [])
def zba (s : List UInt8) : Bool := (zaG 46 s).length == 2 && zak ((zaG 46 s).getD 0 []) && zak ((zaG 46 s).getD 1 [])
def insP (i : In13) : Prop :=
 (i.1 = 9 ∨ i.2.2.2.2 = []) ∧ ((3 ≤ i.1 ∧ i.1 ≤ 6) ∨ i.2.2.2.1 = 0) ∧
 ((i.1 = 1 ∧ (0 ≤ i.2.1 ∧ i.2.1 ≤ 63) ∧ (-2147483648 ≤ i.2.2.1 ∧ i.2.2.1 ≤ 2147483647)) ∨
  (i.1 = 2 ∧ (0 ≤ i.2.1 ∧ i.2.1 ≤ 63) ∧ (0 ≤ i.2.2.1 ∧ i.2.2.1 ≤ 2)) ∨
  ((3 ≤ i.1 ∧ i.1 ≤ 6) ∧ (0 ≤ i.2.1 ∧ i.2.1 ≤ 63) ∧ (0 ≤ i.2.2.1 ∧ i.2.2.1 ≤ 63) ∧ (0 ≤ i.2.2.2.1 ∧ i.2.2.2.1 ≤ 63)) ∨
  (i.1 = 7 ∧ (0 ≤ i.2.1 ∧ i.2.1 ≤ 63) ∧ (0 ≤ i.2.2.1 ∧ i.2.2.1 ≤ 199)) ∨
  (i.1 = 8 ∧ i.2.1 = 0 ∧ (0 ≤ i.2.2.1 ∧ i.2.2.1 ≤ 199)) ∨
  (i.1 = 9 ∧ (0 ≤ i.2.1 ∧ i.2.1 ≤ 63) ∧ (0 ≤ i.2.2.1 ∧ i.2.2.1 ≤ 3) ∧ i.2.1 + i.2.2.1 - 1 ≤ 63 ∧ zba i.2.2.2.2 = true) ∨
  (i.1 = 10 ∧ (0 ≤ i.2.1 ∧ i.2.1 ≤ 63) ∧ i.2.2.1 = 0))
instance (i : In13) : Decidable (insP i) := by unfold insP; infer_instance
def insB (i : In13) : Bool := decide (insP i)
def zaY (n : Nat) (i : In13) : Prop := insP i ∧ ((i.1 = 7 ∨ i.1 = 8) → i.2.2.1 < (n : Int))
instance (n : Nat) (i : In13) : Decidable (zaY n i) := by unfold zaY; infer_instance
def zbV (c : List In13) : Bool := decide ((1 ≤ c.length ∧ c.length ≤ 200) ∧ (∀ i ∈ c, zaY c.length i) ∧ ((c.getD (c.length - 1) in0).1 = 10 ∨ (c.getD (c.length - 1) in0).1 = 8))
def top13 (i : In13) : Int := if i.1 = 8 then 0 else if 3 ≤ i.1 ∧ i.1 ≤ 6 then max (max i.2.2.1 i.2.2.2.1 + 1) (i.2.1 + 1) else if i.1 = 9 then max (i.2.1 + i.2.2.1) (i.2.1 + 1) else i.2.1 + 1
def mx13 : List In13 → Int
 | [] => 0
 | i :: r => max (top13 i) (mx13 r)
theorem zkW : ∀ l : List In13, 0 ≤ mx13 l
 | [] => Int.le_refl 0
 | _ :: r => Int.le_trans (zkW r) (Int.le_max_right _ _)
theorem zbr : ∀ x y : List In13, mx13 (x ++ y) = max (mx13 x) (mx13 y)
 | [], y => by have := zkW y; simp only [List.nil_append, mx13]; omega
 | i :: r, y => by simp only [List.cons_append, mx13, zbr r y]; omega
theorem ziy (i : In13) : mx13 [i] = max (top13 i) 0 := rfl
def regsV (c : List In13) : Int := if zbV c = true then mx13 c else 0
def zat (f : Int → Int → Int → List In13) : List Int → Int → Int → List In13
 | [], _, _ => []
 | p :: ps, r, c => f p r c ++ zat f ps (r + 1) (c + (f p r c).length)
def za3 : Nat → List Nd → Int → Int → Int → List In13
 | 0, _, _, _, _ => []
 | d + 1, t, a, r, c =>
  let n := t.getD a.toNat nd0
  let p := za1 t a
  if n.1 = 1 then [(1, r, n.2.1, 0, [])]
  else if n.1 = 2 then [(2, r, n.2.1, 0, [])]
  else if n.1 = 7 then
   let x := za3 d t (p.getD 0 0) r c
   let y := za3 d t (p.getD 1 0) r (c + x.length + 1)
   let z := za3 d t (p.getD 2 0) r (c + x.length + 1 + y.length + 1)
   x ++ (7, r, c + x.length + 1 + y.length + 1, 0, []) :: (y ++ (8, 0, c + x.length + 1 + y.length + 1 + z.length, 0, []) :: z)
  else if n.1 = 8 then zat (za3 d t) p r c ++ [(9, r, n.2.1, 0, n.2.2.1 ++ 46 :: n.2.2.2)]
  else if za5 60 t [] (p.getD 1 0) ≤ za5 60 t [] (p.getD 0 0) then
   let x := za3 d t (p.getD 0 0) r c
   x ++ za3 d t (p.getD 1 0) (r + 1) (c + x.length) ++ [(n.1, r, r, r + 1, [])]
  else
   let x := za3 d t (p.getD 1 0) r c
   x ++ za3 d t (p.getD 0 0) (r + 1) (c + x.length) ++ [(n.1, r, r + 1, r, [])]
def za9 (t : List Nd) : List In13 := if zaI t = true then za3 60 t 0 0 0 ++ [(10, 0, 0, 0, [])] else []
structure G13 (s : Nat) (x : List In13) (r c nd : Int) : Prop where
 len : x.length + 1 ≤ 2 * s
 pos : 1 ≤ x.length
 noEnd : ∀ i ∈ x, i.1 ≠ 10
 ok : 0 ≤ c → c + x.length ≤ 199 → r + nd ≤ 64 → ∀ i ∈ x, insP i ∧ ((i.1 = 7 ∨ i.1 = 8) → i.2.2.1 ≤ c + x.length)
 top : mx13 x = r + nd
theorem name_dot {p f : List UInt8} (hp : zak p = true) (hf : zak f = true) : zba (p ++ 46 :: f) = true := by
 have hno : ∀ {l : List UInt8}, zak l = true → ∀ c ∈ l, c ≠ 46 := fun h c hc e => by
  unfold zak at h
  rw [Bool.and_eq_true, List.all_eq_true] at h
  have := h.2 c hc
  subst e
  simp at this
 have hs : zaG 46 (p ++ 46 :: f) = [p, f] := by
  unfold zaG
  rw [zds 46 p f [] (hno hp), zdH 46 f [] (hno hf)]
  rfl
 unfold zba
 rw [hs]
 simp [hp, hf]
theorem zh2 {s1 s2 : Nat} {x y : List In13} {k r c m1 m2 a b : Int} (h1 : G13 s1 x r c m1) (h2 : G13 s2 y (r + 1) (c + x.length) m2) (hr : 0 ≤ r) (hk : 3 ≤ k ∧ k ≤ 6) (hm1 : 1 ≤ m1) (hm2 : 1 ≤ m2) (hab : (a = r ∧ b = r + 1) ∨ (a = r + 1 ∧ b = r)) : G13 (s1 + s2 + 1) (x ++ y ++ [(k, r, a, b, [])]) r c (max m1 (m2 + 1)) := by
 have hl : (x ++ y ++ [((k, r, a, b, []) : In13)]).length = x.length + y.length + 1 := by simp; omega
 refine ⟨?_, ?_, ?_, ?_, ?_⟩
 ·
  rw [hl]; have := h1.len; have := h2.len; omega
 ·
  rw [hl]; omega
 ·
  intro i hi
  simp only [List.mem_append, List.mem_singleton] at hi
  rcases hi with (hi | hi) | hi
  ·
   exact h1.noEnd i hi
  ·
   exact h2.noEnd i hi
  ·
   subst hi; simp; omega
 ·
  intro hc hlen hn i hi
  rw [hl] at hlen ⊢
  simp only [List.mem_append, List.mem_singleton] at hi
  rcases hi with (hi | hi) | hi
  ·
   obtain ⟨q1, q2⟩ := h1.ok hc (by omega) (by omega) i hi
   exact ⟨q1, fun e => by have := q2 e; omega⟩
  ·
   obtain ⟨q1, q2⟩ := h2.ok (by omega) (by omega) (by omega) i hi
   exact ⟨q1, fun e => by have := q2 e; omega⟩
  ·
   subst hi
   refine ⟨⟨Or.inr rfl, Or.inl hk, Or.inr (Or.inr (Or.inl ⟨hk, ⟨hr, by simp only; omega⟩, ⟨by simp only; omega, by simp only; omega⟩, by simp only; omega, by simp only; omega⟩))⟩, fun e => by simp only at e; omega⟩
 ·
  rw [zbr, zbr, h1.top, h2.top, ziy]
  unfold top13
  simp only
  rw [if_neg (by omega), if_pos hk]
  omega
theorem into_if {s1 s2 s3 : Nat} {x y z : List In13} {r c m1 m2 m3 : Int} (h1 : G13 s1 x r c m1) (h2 : G13 s2 y r (c + x.length + 1) m2) (h3 : G13 s3 z r (c + x.length + 1 + y.length + 1) m3) (hr : 0 ≤ r) (hm1 : 1 ≤ m1) (hm2 : 1 ≤ m2) (hm3 : 1 ≤ m3) :
 G13 (s1 + s2 + s3 + 1) (x ++ (7, r, c + x.length + 1 + y.length + 1, 0, []) :: (y ++ (8, 0, c + x.length + 1 + y.length + 1 + z.length, 0, []) :: z)) r c (max m1 (max m2 m3)) := by
 obtain ⟨A, hA⟩ : ∃ A, c + x.length + 1 + y.length + 1 = A := ⟨_, rfl⟩
 obtain ⟨E, hE⟩ : ∃ E, A + z.length = E := ⟨_, rfl⟩
 rw [hA] at h3
 rw [hA, hE]
 have hl : (x ++ ((7, r, A, 0, []) : In13) :: (y ++ (8, 0, E, 0, []) :: z)).length = x.length + y.length + z.length + 2 := by simp; omega
 refine ⟨?_, ?_, ?_, ?_, ?_⟩
 ·
  rw [hl]; have := h1.len; have := h2.len; have := h3.len; omega
 ·
  rw [hl]; omega
 ·
  intro i hi
  simp only [List.mem_append, List.mem_cons] at hi
  rcases hi with hi | hi | hi | hi | hi
  ·
   exact h1.noEnd i hi
  ·
   subst hi; simp
  ·
   exact h2.noEnd i hi
  ·
   subst hi; simp
  ·
   exact h3.noEnd i hi
 ·
  intro hc hlen hn i hi
  rw [hl] at hlen ⊢
  simp only [List.mem_append, List.mem_cons] at hi
  rcases hi with hi | hi | hi | hi | hi
  ·
   obtain ⟨q1, q2⟩ := h1.ok hc (by omega) (by omega) i hi
   exact ⟨q1, fun e => by have := q2 e; omega⟩
  ·
   subst hi
   exact ⟨⟨Or.inr rfl, Or.inr rfl, Or.inr (Or.inr (Or.inr (Or.inl ⟨rfl, ⟨hr, by simp only; omega⟩, by simp only; omega, by simp only; omega⟩)))⟩, fun _ => by simp only; omega⟩
  ·
   obtain ⟨q1, q2⟩ := h2.ok (by omega) (by omega) (by omega) i hi
   exact ⟨q1, fun e => by have := q2 e; omega⟩
  ·
   subst hi
   exact ⟨⟨Or.inr rfl, Or.inr rfl, Or.inr (Or.inr (Or.inr (Or.inr (Or.inl ⟨rfl, rfl, by simp only; omega, by simp only; omega⟩))))⟩, fun _ => by simp only; omega⟩
  ·
   obtain ⟨q1, q2⟩ := h3.ok (by omega) (by omega) (by omega) i hi
   exact ⟨q1, fun e => by have := q2 e; omega⟩
 ·
  have e1 : mx13 (((7, r, A, 0, []) : In13) :: (y ++ (8, 0, E, 0, []) :: z)) = max (r + 1) (mx13 (y ++ ((8, 0, E, 0, []) : In13) :: z)) := rfl
  have e2 : mx13 (((8, 0, E, 0, []) : In13) :: z) = max 0 (mx13 z) := rfl
  rw [zbr, e1, zbr, e2, h1.top, h2.top, h3.top]
  omega
theorem zm7 (f : Int → Int → Int → List In13) (g : Int → Int) (sz : Int → Nat) : ∀ (ps : List Int) (r c : Int), 0 ≤ r → (∀ p ∈ ps, 1 ≤ g p ∧ ∀ r c, 0 ≤ r → G13 (sz p) (f p r c) r c (g p)) →
 (zat f ps r c).length + ps.length ≤ 2 * (ps.map sz).sum ∧ (∀ i ∈ zat f ps r c, i.1 ≠ 10) ∧ (∀ m : Int, 0 ≤ c → c + (zat f ps r c).length ≤ 199 → r + zbb (ps.map g) 0 m ≤ 64 → ∀ i ∈ zat f ps r c, insP i ∧ ((i.1 = 7 ∨ i.1 = 8) → i.2.2.1 ≤ c + (zat f ps r c).length)) ∧ (∀ m : Int, 0 ≤ m → max (mx13 (zat f ps r c)) (r + m) = r + zbb (ps.map g) 0 m ∧ (ps.length : Int) ≤ zbb (ps.map g) 0 m)
 | [], r, c, hr, _ => by
  refine ⟨by simp [zat], ?_, ?_, ?_⟩
  ·
   intro i hi; simp [zat] at hi
  ·
   intro m _ _ _ i hi; simp [zat] at hi
  ·
   intro m hm
   simp only [zat, mx13, List.map_nil, zbb, List.length_nil]
   omega
 | p :: ps, r, c, hr, h => by
  obtain ⟨hg, hp⟩ := h p (by simp)
  have h1 := hp r c hr
  obtain ⟨i1, i2, i3, i4⟩ := zm7 f g sz ps (r + 1) (c + (f p r c).length) (by omega) (fun q hq => h q (by simp [hq]))
  have most_shift : ∀ (l : List Int) (i m : Int), zbb l (i + 1) (m + 1) = zbb l i m + 1 := by
   intro l
   induction l with
   | nil => intro i m; rfl
   | cons x l ihl => intro i m; simp only [zbb]; rw [← ihl]; congr 1; omega
  have e1 : zat f (p :: ps) r c = f p r c ++ zat f ps (r + 1) (c + (f p r c).length) := rfl
  rw [e1]
  generalize zat f ps (r + 1) (c + (f p r c).length) = y at i1 i2 i3 i4 ⊢
  generalize f p r c = x at h1 i3 ⊢
  have hl : (x ++ y).length = x.length + y.length := by simp
  have hm : ∀ m : Int, zbb ((p :: ps).map g) 0 m = zbb (ps.map g) 0 (max m (g p) - 1) + 1 := fun m => by
   have := most_shift (ps.map g) 0 (max m (g p) - 1)
   rw [show max m (g p) - 1 + 1 = max m (g p) by omega] at this
   rw [← this]
   simp only [List.map_cons, zbb, Int.add_zero]
  refine ⟨?_, ?_, ?_, ?_⟩
  ·
   rw [hl]
   have := h1.len
   simp only [List.map_cons, List.sum_cons, List.length_cons]
   omega
  ·
   intro i hi
   rcases List.mem_append.1 hi with hi | hi
   ·
    exact h1.noEnd i hi
   ·
    exact i2 i hi
  ·
   intro m hc hlen hn i hi
   rw [hl] at hlen ⊢
   rw [hm] at hn
   have hge := zeF (ps.map g) 0 (max m (g p) - 1)
   rcases List.mem_append.1 hi with hi | hi
   ·
    obtain ⟨q1, q2⟩ := h1.ok hc (by omega) (by omega) i hi
    exact ⟨q1, fun e => by have := q2 e; omega⟩
   ·
    obtain ⟨q1, q2⟩ := i3 (max m (g p) - 1) (by omega) (by omega) (by omega) i hi
    exact ⟨q1, fun e => by have := q2 e; omega⟩
  ·
   intro m hm1
   rw [hm, zbr, h1.top, List.length_cons]
   have := i4 (max m (g p) - 1) (by omega)
   omega
theorem zla {s : Nat} {y : List In13} {r c m k : Int} {pk fn : List UInt8} (hl : y.length ≤ 2 * s) (h2 : ∀ i ∈ y, i.1 ≠ 10) (h3 : 0 ≤ c → c + y.length ≤ 199 → r + m ≤ 64 → ∀ i ∈ y, insP i ∧ ((i.1 = 7 ∨ i.1 = 8) → i.2.2.1 ≤ c + y.length)) (h4 : max (mx13 y) (r + 1) = r + m) (hk0 : 0 ≤ k) (hk3 : k ≤ 3) (hkm : k ≤ m) (hr : 0 ≤ r) (hp : zak pk = true) (hf : zak fn = true) :
 G13 (s + 1) (y ++ [(9, r, k, 0, pk ++ 46 :: fn)]) r c m := by
 have hl2 : (y ++ [((9, r, k, 0, pk ++ 46 :: fn) : In13)]).length = y.length + 1 := by simp
 refine ⟨?_, ?_, ?_, ?_, ?_⟩
 ·
  rw [hl2]; omega
 ·
  rw [hl2]; omega
 ·
  intro i hi
  simp only [List.mem_append, List.mem_singleton] at hi
  rcases hi with hi | hi
  ·
   exact h2 i hi
  ·
   subst hi; simp
 ·
  intro hc hlen hn i hi
  rw [hl2] at hlen ⊢
  simp only [List.mem_append, List.mem_singleton] at hi
  rcases hi with hi | hi
  ·
   obtain ⟨q1, q2⟩ := h3 hc (by omega) (by omega) i hi
   exact ⟨q1, fun e => by have := q2 e; omega⟩
  ·
   subst hi
   exact ⟨⟨Or.inl rfl, Or.inr rfl, Or.inr (Or.inr (Or.inr (Or.inr (Or.inr (Or.inl ⟨rfl, ⟨hr, by simp only; omega⟩, ⟨hk0, hk3⟩, by simp only; omega, name_dot hp hf⟩)))))⟩, fun e => by simp only at e; omega⟩
 ·
  have e1 : mx13 [((9, r, k, 0, pk ++ 46 :: fn) : In13)] = max (max (r + k) (r + 1)) 0 := rfl
  rw [zbr, e1]
  omega
section
open Go.ChangeShapes Go.WideShapes Go.ChangeAt Go.RowKit
def AsIn (w : World) (a : Option Addr) (xs : List Int) : Prop := ∀ j, j < xs.length → ∃ b off, a = some ⟨b, off, none⟩ ∧ b < w.heap.size ∧ w.cell? ⟨b, off + j, none⟩ = some (.int .i64 (xs.getD j 0))
theorem AsIn.below {w w' : World} {a : Option Addr} {xs : List Int} (h : AsIn w a xs) (hb : Below w.heap.size w w') : AsIn w' a xs := fun j hj => by
 obtain ⟨b, off, e, hl, hc⟩ := h j hj
 exact ⟨b, off, e, Nat.lt_of_lt_of_le hl hb.size, (hb.cell (p := ⟨b, off + j, none⟩) hl).trans hc⟩
theorem info2 : (Tryz.prog.info? 2).map (fun i => (i.zero, i.size, i.bytes)) = some (some (.int .i64 0), 1, 8) := by kernel_rfl
theorem nums_as {w : World} {B g n cp : Nat} {xs : List Int} (h : w.ownsRow B 2 1 (.slice (some ⟨g, 0, none⟩) n cp) n (zaF xs)) (hn : xs.length = n) : AsIn w (some ⟨g, 0, none⟩) xs := fun j hj => by
 have hc := h.cellAt j (by omega)
 rw [zgm xs j hj] at hc
 refine ⟨g, 0, rfl, World.block_lt_of_cell? w ⟨g, j, none⟩ hc, ?_⟩
 rw [Nat.zero_add, hc]
 simp [List.getD, hj]
end
set_option maxHeartbeats 400000 in
set_option maxRecDepth 100000 in
theorem zb1 (x y : Int) (w : World) : Calls Tryz.prog 157 #[.int .i64 x, .int .i64 y] w fun e w' => e = .returned (.int .i64 (max x y)) ∧ w' = w := by
 by_cases h : x > y
 ·
  have HF : Hid (max x y = x) := by exact (by omega : max x y = x)
  go_enter Tryz.func157, Tryz.ntmps157
  go_wp2
  go_ret
  exact ⟨by rw [HF.out]; rfl, rfl⟩
 ·
  have HF : Hid (max x y = y) := by exact (by omega : max x y = y)
  go_enter Tryz.func157, Tryz.ntmps157
  go_wp2
  go_ret
  exact ⟨by rw [HF.out]; rfl, rfl⟩
theorem zaW (V : World) (a b c d : Value) (t : TypeId) : ((V.alloc (.cells #[a, b, c, d] t)).cell? ⟨V.heap.size, 0, none⟩ = some a ∧ (V.alloc (.cells #[a, b, c, d] t)).cell? ⟨V.heap.size, 1, none⟩ = some b ∧ (V.alloc (.cells #[a, b, c, d] t)).cell? ⟨V.heap.size, 2, none⟩ = some c ∧ (V.alloc (.cells #[a, b, c, d] t)).cell? ⟨V.heap.size, 3, none⟩ = some d) ∧ Below V.heap.size V (V.alloc (.cells #[a, b, c, d] t)) := by
 have hb : Below V.heap.size V (V.alloc (.cells #[a, b, c, d] t)) := (Below.refl _ _).alloc (Nat.le_refl _) _
 have hA := heap_alloc_new V (.cells #[a, b, c, d] t)
 generalize V.alloc (.cells #[a, b, c, d] t) = W at hb hA ⊢
 exact ⟨⟨by simp [World.cell?, hA], by simp [World.cell?, hA], by simp [World.cell?, hA], by simp [World.cell?, hA]⟩, hb⟩
theorem zcc {X : World} {B n : Nat} {v : Value} {xs : List Int} (x : Int) (hv : X.ownsRow B 2 1 v n (zaF xs)) (hb : B ≤ X.heap.size) (hn : n ≤ 1048576) :
 ∃ v' Y, (Builtin.append_ #[91, 91] 91 #[v, .slice (some ⟨X.heap.size, 0, none⟩) 1 1]).run Tryz.prog (X.alloc (.cells #[.int .i64 x] 2)) = .ok v' Y ∧ Y.ownsRow B 2 1 v' (n + 1) (zaF (xs ++ [x])) ∧ X.grownBy Y v.ownBlock := by
 obtain ⟨i0, hi, hz0, hz1, hz2⟩ := info_parts info2
 obtain ⟨v', Y, hrun, hown, hg, _⟩ := zaS (P := Tryz.prog) (X.alloc (.cells #[.int .i64 x] 2)) B 91 91 2 i0 _ 1 8 Tryz.underlying91 hi hz0 hz1 hz2 rfl (by decide) _ _ _ (hv.alloc _) (.slice (some ⟨X.heap.size, 0, none⟩) 1 1) 1 (zaF [x]) ⟨rfl, zeG _, Or.inr ⟨_, 1, rfl, zhN X x⟩⟩ (by unfold maxLen; omega) (by omega) (by simp; omega)
 refine ⟨v', Y, hrun, ?_, (World.grownBy_alloc X _ _).trans hg⟩
 rw [zcU]
 exact hown
theorem zaE {w : World} {base e size n : Nat} {v : Value} {xs : List Value} (h : w.ownsRow base e size v n xs) : ∃ a c, v = .slice a n c := by
 rcases zar h with ⟨rfl, rfl, _⟩ | ⟨g, cp, rfl⟩
 ·
  exact ⟨none, 0, rfl⟩
 ·
  exact ⟨some ⟨g, 0, none⟩, cp, rfl⟩
theorem zaB {w : World} {B g c n : Nat} {xs : List Int} (h : w.ownsRow B 2 1 (.slice (some ⟨g, 0, none⟩) n c) n (zaF xs)) (j : Nat) (hj : j < xs.length) : w.cell? ⟨g, j, none⟩ = some (.int .i64 (xs.getD j 0)) := by
 have hl := h.1
 rw [zh1] at hl
 rw [h.cellAt j (by omega), zgm xs j hj]
 simp [List.getD, hj]
theorem zex {w : World} {B n : Nat} {v : Value} {xs : List Int} (h : w.ownsRow B 2 1 v n (zaF xs)) : ∃ a c, v = .slice a n c ∧ AsIn w a xs := by
 have hl := h.1
 rw [zh1] at hl
 rcases zar h with ⟨rfl, rfl, _⟩ | ⟨g, cp, rfl⟩
 ·
  exact ⟨none, 0, rfl, fun j hj => by omega⟩
 ·
  exact ⟨_, cp, rfl, nums_as h (by omega)⟩
theorem zaw {t : List Nd} {a : Nat} (hp : 0 ≤ endV t (a : Int)) {i : Nat} (hi : i < za7 (t.getD a nd0)) : ∃ q : Nat, (za1 t (a : Int)).getD i 0 = (q : Int) ∧ a < q ∧ 0 ≤ endV t (q : Int) := by
 obtain ⟨q, hq, _, hqe⟩ := zbP hp hi
 refine ⟨q, hq, ?_, hqe⟩
 obtain ⟨s, post, e, hs⟩ := zcM hp
 cases hs with
 | mk n ks hn hk ho =>
  obtain ⟨e1, e2, e3⟩ := zbG e hk ho
  rw [e1] at hi
  obtain ⟨_, e4, _⟩ := e3 i (by omega)
  rw [hq] at e4
  omega
theorem zdn {t : List Nd} {os : List Int} {q d : Nat} (h : 0 ≤ endV t (q : Int)) (hd : t.length ≤ q + d) (hl : t.length ≤ 60) : 1 ≤ za5 d t os (q : Int) ∧ za5 d t os (q : Int) ≤ 60 := by
 obtain ⟨s, post, e, hs⟩ := zcM h
 have h2 := congrArg List.length e
 rw [List.length_drop, List.length_append] at h2
 have := zeD hs os d t post q (by omega) e
 omega
def zi9 (B : World) (ta : Option Addr) (tc : Nat) (t : List Nd) (oa : Option Addr) (oc : Nat) (os : List Int) (d : Nat) : Prop := ∀ (w : World) (a : Nat), Below B.heap.size B w → 0 ≤ endV t (a : Int) → t.length ≤ a + d →
 Calls Tryz.prog 136 #[.slice ta t.length tc, .int .i64 (a : Int), .slice oa os.length oc] w fun e w' => e = .returned (.int .i64 (za5 d t os (a : Int))) ∧ Below w.heap.size w w'
def zay (i : In13) : Value := .agg #[.int .i64 i.1, .int .i64 i.2.1, .int .i64 i.2.2.1, .int .i64 i.2.2.2.1, .string ⟨i.2.2.2.2.toArray⟩]
def zgE (k B : Int) (nm : List UInt8) : Bool := (decide (k ≠ 9) && !nm.isEmpty) || (!(inB k 3 6) && decide (B ≠ 0))
def zci (k R A B : Int) (nm : List UInt8) : Bool :=
 if k = 1 then inB R 0 63 && inB A (-2147483648) 2147483647
 else if k = 2 then inB R 0 63 && inB A 0 2
 else if 3 ≤ k ∧ k ≤ 6 then inB R 0 63 && inB A 0 63 && inB B 0 63
 else if k = 7 then inB R 0 63 && inB A 0 199
 else if k = 8 then decide (R = 0) && inB A 0 199
 else if k = 9 then inB R 0 63 && inB A 0 3 && decide (R + A - 1 ≤ 63) && zba nm
 else if k = 10 then inB R 0 63 && decide (A = 0)
 else false
theorem insB_two (k R A B : Int) (nm : List UInt8) : insB (k, R, A, B, nm) = (!zgE k B nm && zci k R A B nm) := by
 have hnm : nm.isEmpty = decide (nm = []) := by cases nm <;> simp
 rw [Bool.eq_iff_iff]
 unfold insB insP zgE zci inB
 rw [hnm]
 dsimp only
 grind
set_option maxHeartbeats 400000 in
set_option maxRecDepth 100000 in
theorem zk4 (r : Int) (w : World) : Calls Tryz.prog 158 #[.int .i64 r] w fun e w' => e = .returned (.bool (inB r 0 63)) ∧ w' = w := by
 go_enter Tryz.func158, Tryz.ntmps158
 go_wp2_with (go_at_call 34; refine (zch _ _ _ _).mono ?_; rintro e w' ⟨rfl, rfl⟩)
 go_ret
 exact ⟨rfl, rfl⟩
set_option maxHeartbeats 1000000 in
set_option maxRecDepth 100000 in
theorem zfI (s : List UInt8) (w : World) (hl : s.length ≤ 1048576) : Calls Tryz.prog 97 #[.string ⟨s.toArray⟩] w fun e w' => e = .returned (.bool (zba s)) ∧ Below w.heap.size w w' := by
 obtain ⟨ws, hws⟩ : ∃ ws, zaG 46 s = ws := ⟨_, rfl⟩
 have HW : Hid (zaG 46 s = ws) := hws
 have hfl := zgI 46 s []
 have hwl : ∀ j, (ws.getD j []).length ≤ 1048576 := fun j => by
  rw [← hws]
  by_cases hj : j < (zaG 46 s).length
  ·
   have hm : (zaG 46 s).getD j [] ∈ zaG 46 s := by simp [List.getD, hj]
   have h1 : ((zaG 46 s).getD j []).length ≤ (zaG 46 s).flatten.length := (List.sublist_flatten_of_mem hm).length_le
   have h2 : (zaG 46 s).flatten.length ≤ 0 + s.length := hfl
   omega
  ·
   simp [List.getD, hj]
 have hN : zba s = (decide (ws.length = 2) && zak (ws.getD 0 []) && zak (ws.getD 1 [])) := by unfold zba; rw [hws]; congr 1
 rw [hN]
 by_cases h2 : ws.length = 2
 ·
  have hd : decide (ws.length = 2) = true := decide_eq_true h2
  rw [hd]
  obtain ⟨x, hx⟩ : ∃ x, ws.getD 0 [] = x := ⟨_, rfl⟩
  obtain ⟨y, hy⟩ : ∃ y, ws.getD 1 [] = y := ⟨_, rfl⟩
  have hw0 := hwl 0
  have hw1 := hwl 1
  have HX : Hid (ws.getD 0 [] = x ∧ ws.getD 1 [] = y) := ⟨hx, hy⟩
  rw [hx] at hw0 ⊢
  rw [hy] at hw1 ⊢
  have HP : Hid (_) := fun W : World => zbu x W hw0
  have HQ : Hid (_) := fun W : World => zbu y W hw1
  obtain ⟨nx, hnx⟩ : ∃ b, zak x = b := ⟨_, rfl⟩
  obtain ⟨ny, hny⟩ : ∃ b, zak y = b := ⟨_, rfl⟩
  rw [hnx] at HP ⊢
  rw [hny] at HQ ⊢
  clear hx hy hnx hny
  have H2 : Hid (ws.length = 2) := h2
  clear hN hws hfl hwl h2 hd
  go_enter Tryz.func97, Tryz.ntmps97
  go_wp2_with fail
  refine (zer s 46 46 _ (by rfl) hl).mono ?_
  rintro e w1 ⟨g, cp, rfl, hown, hb1⟩
  rw [HW.out] at hown ⊢
  rw [H2.out] at hown ⊢
  have c0 := zdG hown H2.out 0 (by omega)
  have c1 := zdG hown H2.out 1 (by omega)
  rw [HX.out.1] at c0
  rw [HX.out.2] at c1
  clear hown
  rcases nx with _ | _
  ·
   go_wp2_with fail
   refine Calls.mono (HP.out _) ?_
   rintro e w2 ⟨rfl, rfl⟩
   go_wp2
   go_ret
   exact ⟨rfl, hb1⟩
  ·
   go_wp2_with fail
   refine Calls.mono (HP.out _) ?_
   rintro e w2 ⟨rfl, rfl⟩
   go_wp2_with fail
   refine Calls.mono (HQ.out _) ?_
   rintro e w3 ⟨rfl, rfl⟩
   go_wp2
   go_ret
   exact ⟨rfl, hb1⟩
 ·
  have hd : decide (ws.length = 2) = false := decide_eq_false h2
  rw [hd]
  have hne : ((ws.length : Int) == 2) = false := beq_eq_false_iff_ne.2 (by omega)
  clear hN hws hfl hwl h2 hd
  go_enter Tryz.func97, Tryz.ntmps97
  go_wp2_with fail
  refine (zer s 46 46 _ (by rfl) hl).mono ?_
  rintro e w1 ⟨g, cp, rfl, hown, hb1⟩
  rw [HW.out]
  clear hown
  go_wp2
  go_ret
  exact ⟨rfl, hb1⟩
theorem zlc (V : World) (a b c d f : Value) (t : TypeId) : ((V.alloc (.cells #[a, b, c, d, f] t)).cell? ⟨V.heap.size, 0, none⟩ = some a ∧ (V.alloc (.cells #[a, b, c, d, f] t)).cell? ⟨V.heap.size, 1, none⟩ = some b ∧ (V.alloc (.cells #[a, b, c, d, f] t)).cell? ⟨V.heap.size, 2, none⟩ = some c ∧ (V.alloc (.cells #[a, b, c, d, f] t)).cell? ⟨V.heap.size, 3, none⟩ = some d ∧ (V.alloc (.cells #[a, b, c, d, f] t)).cell? ⟨V.heap.size, 4, none⟩ = some f) ∧ Below V.heap.size V (V.alloc (.cells #[a, b, c, d, f] t)) := by
 have hb : Below V.heap.size V (V.alloc (.cells #[a, b, c, d, f] t)) := (Below.refl _ _).alloc (Nat.le_refl _) _
 have hA := heap_alloc_new V (.cells #[a, b, c, d, f] t)
 generalize V.alloc (.cells #[a, b, c, d, f] t) = W at hb hA ⊢
 exact ⟨⟨by simp [World.cell?, hA], by simp [World.cell?, hA], by simp [World.cell?, hA], by simp [World.cell?, hA], by simp [World.cell?, hA]⟩, hb⟩
theorem zh5 {x lo hi : Int} : inB x lo hi = true ↔ lo ≤ x ∧ x ≤ hi := by unfold inB; simp
set_option maxHeartbeats 8000000 in
set_option maxRecDepth 100000 in
theorem zkf (i : In13) (w : World) (hl : i.2.2.2.2.length ≤ 1048576) :
 Calls Tryz.prog 137 #[zay i] w fun e w' => e = .returned (.bool (insB i)) ∧ Below w.heap.size w w' := by
 obtain ⟨k, R, A, B, nm⟩ := i
 simp only at hl
 rw [insB_two]
 unfold zay
 simp only
 obtain ⟨⟨n0, n1, n2, n3, n4⟩, hbg⟩ := zlc w (.int .i64 k) (.int .i64 R) (.int .i64 A) (.int .i64 B) (.string ⟨nm.toArray⟩) 88
 obtain ⟨X, hX⟩ : ∃ X, w.alloc (.cells #[.int .i64 k, .int .i64 R, .int .i64 A, .int .i64 B, .string ⟨nm.toArray⟩] 88) = X := ⟨_, rfl⟩
 obtain ⟨N, hN⟩ : ∃ N, w.heap.size = N := ⟨_, rfl⟩
 rw [hX] at n0 n1 n2 n3 n4 hbg
 rw [hN] at n0 n1 n2 n3 n4 hbg ⊢
 have HBX : Hid (Below N w X) := hbg
 obtain ⟨bb, hbb⟩ : ∃ b, zgE k B nm = b := ⟨_, rfl⟩
 have HBb : Hid (zgE k B nm = bb) := hbb
 obtain ⟨res, hres⟩ : ∃ b, (!zgE k B nm && zci k R A B nm) = b := ⟨_, rfl⟩
 rw [hres]
 rw [hbb] at hres
 have HR : Hid ((!bb && zci k R A B nm) = res) := hres
 have HRg : Hid (_) := fun (r : Int) (W : World) => zk4 r W
 have HIn : Hid (_) := fun (x lo hi : Int) (W : World) => zch x lo hi W
 have HWd : Hid (_) := fun (x : Int) (W : World) => zfH x W
 have HNm : Hid (_) := zfI nm X hl
 clear hres hbg hbb hl
 go_enter Tryz.func137, Tryz.ntmps137
 go_wp2_with fail
 refine Calls.mono (HIn.out A 0 199 _) ?_
 rintro e wz ⟨rfl, hz⟩
 obtain rfl := hz.symm
 clear hz
 go_upto_region 2 with fail
 go_cut [25] from 7 (fun v wx => v = .bool bb ∧ wx = X)
 case first =>
  by_cases h9 : k = 9
  ·
   subst h9
   have h3 : inB 9 3 6 = false := by decide
   have HF : Hid (bb = (B != 0)) := by exact (by rw [← HBb.out]; unfold zgE; rw [h3]; by_cases h : B = 0 <;> simp [h] : bb = (B != 0))
   clear HBb HR
   go_wp2_with fail
   refine Calls.mono (HIn.out _ _ _ _) ?_
   rintro e wz ⟨rfl, hz⟩
   obtain rfl := hz.symm
   rw [h3]
   clear hz h3
   go_wp2_with fail
   go_meet
   case rel => exact ⟨by rw [HF.out], rfl⟩
  ·
   have d9 : (k != 9) = true := bne_iff_ne.2 h9
   rcases hnm : nm.isEmpty with _ | _
   ·
    have HF : Hid (bb = true) := by exact (by rw [← HBb.out]; unfold zgE; simp [h9, hnm] : bb = true)
    clear HBb HR h9
    go_wp2_with fail
    go_meet
    case rel => exact ⟨by rw [HF.out], rfl⟩
   ·
    obtain rfl : nm = [] := List.isEmpty_iff.1 hnm
    rcases h3 : inB k 3 6 with _ | _
    ·
     have HF : Hid (bb = (B != 0)) := by exact (by rw [← HBb.out]; unfold zgE; rw [h3]; by_cases h : B = 0 <;> simp [h] : bb = (B != 0))
     clear HBb HR h9 hnm
     go_wp2_with fail
     refine Calls.mono (HIn.out _ _ _ _) ?_
     rintro e wz ⟨rfl, hz⟩
     obtain rfl := hz.symm
     rw [h3]
     clear hz h3
     go_wp2_with fail
     go_meet
     case rel => exact ⟨by rw [HF.out], rfl⟩
    ·
     have HF : Hid (bb = false) := by exact (by rw [← HBb.out]; unfold zgE; rw [h3]; simp : bb = false)
     clear HBb HR h9 hnm
     go_wp2_with fail
     refine Calls.mono (HIn.out _ _ _ _) ?_
     rintro e wz ⟨rfl, hz⟩
     obtain rfl := hz.symm
     rw [h3]
     clear hz h3
     go_wp2_with fail
     go_meet
     case rel => exact ⟨by rw [HF.out], rfl⟩
 case rest =>
 obtain ⟨rfl, hz⟩ := hcut
 obtain rfl := hz.symm
 clear HBb hz
 rcases bb with _ | _
 rotate_left
 ·
  have HK : Hid (res = false) := by exact (by rw [← HR.out]; rfl : res = false)
  go_wp2
  go_ret
  exact ⟨by rw [HK.out]; rfl, HBX.out⟩
 by_cases h1 : k = 1
 ·
  subst h1
  have HK : Hid (res = (inB R 0 63 && inB A (-2147483648) 2147483647)) := by exact (by rw [← HR.out]; simp [zci] : res = (inB R 0 63 && inB A (-2147483648) 2147483647))
  clear HR
  go_wp2_with fail
  refine Calls.mono (HRg.out R _) ?_
  rintro e wz ⟨rfl, hz⟩
  obtain rfl := hz.symm
  clear hz
  rcases hb0 : inB R 0 63 with _ | _
  ·
   rw [hb0] at HK
   clear hb0
   go_wp2
   go_ret
   exact ⟨by rw [HK.out]; rfl, HBX.out⟩
  ·
   rw [hb0] at HK
   clear hb0
   go_wp2_with fail
   refine Calls.mono (HWd.out A _) ?_
   rintro e wz ⟨rfl, hz⟩
   obtain rfl := hz.symm
   clear hz
   go_wp2
   go_ret
   exact ⟨by rw [HK.out]; rfl, HBX.out⟩
 have d1 : (k == 1) = false := beq_eq_false_iff_ne.2 h1
 by_cases h2 : k = 2
 ·
  subst h2
  clear h1 d1
  have HK : Hid (res = (inB R 0 63 && inB A 0 2)) := by exact (by rw [← HR.out]; simp [zci] : res = (inB R 0 63 && inB A 0 2))
  clear HR
  go_wp2_with fail
  refine Calls.mono (HRg.out R _) ?_
  rintro e wz ⟨rfl, hz⟩
  obtain rfl := hz.symm
  clear hz
  rcases hb0 : inB R 0 63 with _ | _
  ·
   rw [hb0] at HK
   clear hb0
   go_wp2
   go_ret
   exact ⟨by rw [HK.out]; rfl, HBX.out⟩
  ·
   rw [hb0] at HK
   clear hb0
   go_wp2_with fail
   refine Calls.mono (HIn.out A 0 2 _) ?_
   rintro e wz ⟨rfl, hz⟩
   obtain rfl := hz.symm
   clear hz
   go_wp2
   go_ret
   exact ⟨by rw [HK.out]; rfl, HBX.out⟩
 have d2 : (k == 2) = false := beq_eq_false_iff_ne.2 h2
 by_cases h3 : k = 3
 ·
  subst h3
  clear h1 d1 h2 d2
  have HK : Hid (res = (inB R 0 63 && inB A 0 63 && inB B 0 63)) := by exact (by rw [← HR.out]; simp [zci] : res = (inB R 0 63 && inB A 0 63 && inB B 0 63))
  clear HR
  go_wp2_with fail
  refine Calls.mono (HRg.out R _) ?_
  rintro e wz ⟨rfl, hz⟩
  obtain rfl := hz.symm
  clear hz
  rcases hb0 : inB R 0 63 with _ | _
  ·
   rw [hb0] at HK
   clear hb0
   go_wp2
   go_ret
   exact ⟨by rw [HK.out]; rfl, HBX.out⟩
  ·
   rw [hb0] at HK
   clear hb0
   go_wp2_with fail
   refine Calls.mono (HRg.out A _) ?_
   rintro e wz ⟨rfl, hz⟩
   obtain rfl := hz.symm
   clear hz
   rcases hb1 : inB A 0 63 with _ | _
   ·
    rw [hb1] at HK
    clear hb1
    go_wp2
    go_ret
    exact ⟨by rw [HK.out]; rfl, HBX.out⟩
   ·
    rw [hb1] at HK
    clear hb1
    go_wp2_with fail
    refine Calls.mono (HRg.out B _) ?_
    rintro e wz ⟨rfl, hz⟩
    obtain rfl := hz.symm
    clear hz
    go_wp2
    go_ret
    exact ⟨by rw [HK.out]; rfl, HBX.out⟩
 have d3 : (k == 3) = false := beq_eq_false_iff_ne.2 h3
 by_cases h4 : k = 4
 ·
  subst h4
  clear h1 d1 h2 d2 h3 d3
  have HK : Hid (res = (inB R 0 63 && inB A 0 63 && inB B 0 63)) := by exact (by rw [← HR.out]; simp [zci] : res = (inB R 0 63 && inB A 0 63 && inB B 0 63))
  clear HR
  go_wp2_with fail
  refine Calls.mono (HRg.out R _) ?_
  rintro e wz ⟨rfl, hz⟩
  obtain rfl := hz.symm
  clear hz
  rcases hb0 : inB R 0 63 with _ | _
  ·
   rw [hb0] at HK
   clear hb0
   go_wp2
   go_ret
   exact ⟨by rw [HK.out]; rfl, HBX.out⟩
  ·
   rw [hb0] at HK
   clear hb0
   go_wp2_with fail
   refine Calls.mono (HRg.out A _) ?_
   rintro e wz ⟨rfl, hz⟩
   obtain rfl := hz.symm
   clear hz
   rcases hb1 : inB A 0 63 with _ | _
   ·
    rw [hb1] at HK
    clear hb1
    go_wp2
    go_ret
    exact ⟨by rw [HK.out]; rfl, HBX.out⟩
   ·
    rw [hb1] at HK
    clear hb1
    go_wp2_with fail
    refine Calls.mono (HRg.out B _) ?_
    rintro e wz ⟨rfl, hz⟩
    obtain rfl := hz.symm
    clear hz
    go_wp2
    go_ret
    exact ⟨by rw [HK.out]; rfl, HBX.out⟩
 have d4 : (k == 4) = false := beq_eq_false_iff_ne.2 h4
 by_cases h5 : k = 5
 ·
  subst h5
  clear h1 d1 h2 d2 h3 d3 h4 d4
  have HK : Hid (res = (inB R 0 63 && inB A 0 63 && inB B 0 63)) := by exact (by rw [← HR.out]; simp [zci] : res = (inB R 0 63 && inB A 0 63 && inB B 0 63))
  clear HR
  go_wp2_with fail
  refine Calls.mono (HRg.out R _) ?_
  rintro e wz ⟨rfl, hz⟩
  obtain rfl := hz.symm
  clear hz
  rcases hb0 : inB R 0 63 with _ | _
  ·
   rw [hb0] at HK
   clear hb0
   go_wp2
   go_ret
   exact ⟨by rw [HK.out]; rfl, HBX.out⟩
  ·
   rw [hb0] at HK
   clear hb0
   go_wp2_with fail
   refine Calls.mono (HRg.out A _) ?_
   rintro e wz ⟨rfl, hz⟩
   obtain rfl := hz.symm
   clear hz
   rcases hb1 : inB A 0 63 with _ | _
   ·
    rw [hb1] at HK
    clear hb1
    go_wp2
    go_ret
    exact ⟨by rw [HK.out]; rfl, HBX.out⟩
   ·
    rw [hb1] at HK
    clear hb1
    go_wp2_with fail
    refine Calls.mono (HRg.out B _) ?_
    rintro e wz ⟨rfl, hz⟩
    obtain rfl := hz.symm
    clear hz
    go_wp2
    go_ret
    exact ⟨by rw [HK.out]; rfl, HBX.out⟩
 have d5 : (k == 5) = false := beq_eq_false_iff_ne.2 h5
 by_cases h6 : k = 6
 ·
  subst h6
  clear h1 d1 h2 d2 h3 d3 h4 d4 h5 d5
  have HK : Hid (res = (inB R 0 63 && inB A 0 63 && inB B 0 63)) := by exact (by rw [← HR.out]; simp [zci] : res = (inB R 0 63 && inB A 0 63 && inB B 0 63))
  clear HR
  go_wp2_with fail
  refine Calls.mono (HRg.out R _) ?_
  rintro e wz ⟨rfl, hz⟩
  obtain rfl := hz.symm
  clear hz
  rcases hb0 : inB R 0 63 with _ | _
  ·
   rw [hb0] at HK
   clear hb0
   go_wp2
   go_ret
   exact ⟨by rw [HK.out]; rfl, HBX.out⟩
  ·
   rw [hb0] at HK
   clear hb0
   go_wp2_with fail
   refine Calls.mono (HRg.out A _) ?_
   rintro e wz ⟨rfl, hz⟩
   obtain rfl := hz.symm
   clear hz
   rcases hb1 : inB A 0 63 with _ | _
   ·
    rw [hb1] at HK
    clear hb1
    go_wp2
    go_ret
    exact ⟨by rw [HK.out]; rfl, HBX.out⟩
   ·
    rw [hb1] at HK
    clear hb1
    go_wp2_with fail
    refine Calls.mono (HRg.out B _) ?_
    rintro e wz ⟨rfl, hz⟩
    obtain rfl := hz.symm
    clear hz
    go_wp2
    go_ret
    exact ⟨by rw [HK.out]; rfl, HBX.out⟩
 have d6 : (k == 6) = false := beq_eq_false_iff_ne.2 h6
 by_cases h7 : k = 7
 ·
  subst h7
  clear h1 d1 h2 d2 h3 d3 h4 d4 h5 d5 h6 d6
  have HK : Hid (res = (inB R 0 63 && inB A 0 199)) := by exact (by rw [← HR.out]; simp [zci] : res = (inB R 0 63 && inB A 0 199))
  clear HR
  go_wp2_with fail
  refine Calls.mono (HRg.out R _) ?_
  rintro e wz ⟨rfl, hz⟩
  obtain rfl := hz.symm
  clear hz
  rcases hb0 : inB R 0 63 with _ | _
  ·
   rw [hb0] at HK
   clear hb0
   go_wp2
   go_ret
   exact ⟨by rw [HK.out]; rfl, HBX.out⟩
  ·
   rw [hb0] at HK
   clear hb0
   go_wp2
   go_ret
   exact ⟨by rw [HK.out]; rfl, HBX.out⟩
 have d7 : (k == 7) = false := beq_eq_false_iff_ne.2 h7
 by_cases h8 : k = 8
 ·
  subst h8
  clear h1 d1 h2 d2 h3 d3 h4 d4 h5 d5 h6 d6 h7 d7
  have HK : Hid (res = (decide (R = 0) && inB A 0 199)) := by exact (by rw [← HR.out]; simp [zci] : res = (decide (R = 0) && inB A 0 199))
  clear HR
  by_cases h0 : R = 0
  ·
   have hd : decide (R = 0) = true := decide_eq_true h0
   rw [hd] at HK
   clear hd
   have hq : (R == 0) = true := by simp [h0]
   clear h0
   go_wp2
   go_ret
   exact ⟨by rw [HK.out]; rfl, HBX.out⟩
  ·
   have hd : decide (R = 0) = false := decide_eq_false h0
   rw [hd] at HK
   clear hd
   have hq : (R == 0) = false := beq_eq_false_iff_ne.2 h0
   clear h0
   go_wp2
   go_ret
   exact ⟨by rw [HK.out]; rfl, HBX.out⟩
 have d8 : (k == 8) = false := beq_eq_false_iff_ne.2 h8
 by_cases h9 : k = 9
 ·
  subst h9
  clear h1 d1 h2 d2 h3 d3 h4 d4 h5 d5 h6 d6 h7 d7 h8 d8
  have HK : Hid (res = (inB R 0 63 && inB A 0 3 && decide (R + A - 1 ≤ 63) && zba nm)) := by exact (by rw [← HR.out]; simp [zci] : res = (inB R 0 63 && inB A 0 3 && decide (R + A - 1 ≤ 63) && zba nm))
  clear HR
  go_wp2_with fail
  refine Calls.mono (HRg.out R _) ?_
  rintro e wz ⟨rfl, hz⟩
  obtain rfl := hz.symm
  clear hz
  rcases hb0 : inB R 0 63 with _ | _
  ·
   rw [hb0] at HK
   clear hb0
   go_wp2
   go_ret
   exact ⟨by rw [HK.out]; rfl, HBX.out⟩
  ·
   rw [hb0] at HK
   go_wp2_with fail
   refine Calls.mono (HIn.out A 0 3 _) ?_
   rintro e wz ⟨rfl, hz⟩
   obtain rfl := hz.symm
   clear hz
   rcases hb1 : inB A 0 3 with _ | _
   ·
    rw [hb1] at HK
    clear hb1
    go_wp2
    go_ret
    exact ⟨by rw [HK.out]; rfl, HBX.out⟩
   ·
    rw [hb1] at HK
    have hr := zh5.1 hb0
    have ha := zh5.1 hb1
    by_cases h2 : R + A - 1 ≤ 63
    ·
     have hd : decide (R + A - 1 ≤ 63) = true := decide_eq_true h2
     rw [hd] at HK
     clear hd
     go_wp2_with fail
     refine Calls.mono HNm.out ?_
     rintro e wz ⟨rfl, hbz⟩
     have HBz := HBX.out.trans (hbz.mono (hN ▸ HBX.out.size))
     clear hbz
     go_wp2
     go_ret
     exact ⟨by rw [HK.out]; rfl, HBz⟩
    ·
     have hd : decide (R + A - 1 ≤ 63) = false := decide_eq_false h2
     rw [hd] at HK
     clear hd
     go_wp2
     go_ret
     exact ⟨by rw [HK.out]; rfl, HBX.out⟩
 have d9 : (k == 9) = false := beq_eq_false_iff_ne.2 h9
 by_cases h10 : k = 10
 ·
  subst h10
  clear h1 d1 h2 d2 h3 d3 h4 d4 h5 d5 h6 d6 h7 d7 h8 d8 h9 d9
  have HK : Hid (res = (inB R 0 63 && decide (A = 0))) := by exact (by rw [← HR.out]; simp [zci] : res = (inB R 0 63 && decide (A = 0)))
  clear HR
  go_wp2_with fail
  refine Calls.mono (HRg.out R _) ?_
  rintro e wz ⟨rfl, hz⟩
  obtain rfl := hz.symm
  clear hz
  rcases hb0 : inB R 0 63 with _ | _
  ·
   rw [hb0] at HK
   clear hb0
   go_wp2
   go_ret
   exact ⟨by rw [HK.out]; rfl, HBX.out⟩
  ·
   rw [hb0] at HK
   clear hb0
   have he : (A == 0) = decide (A = 0) := by by_cases h : A = 0 <;> simp [h]
   rw [← he] at HK
   clear he
   go_wp2
   go_ret
   exact ⟨by rw [HK.out]; rfl, HBX.out⟩
 have d10 : (k == 10) = false := beq_eq_false_iff_ne.2 h10
 have HK : Hid (res = false) := by exact (by rw [← HR.out]; unfold zci; rw [if_neg h1, if_neg h2, if_neg (by omega), if_neg h7, if_neg h8, if_neg h9, if_neg h10]; rfl : res = false)
 clear HR h1 h2 h3 h4 h5 h6 h7 h8 h9 h10
 go_wp2
 go_ret
 exact ⟨by rw [HK.out]; rfl, HBX.out⟩
theorem zh3 {r c k v : Int} (hk : (k = 1 ∧ -2147483648 ≤ v ∧ v ≤ 2147483647) ∨ (k = 2 ∧ 0 ≤ v ∧ v ≤ 2)) (hr : 0 ≤ r) : G13 1 [(k, r, v, 0, [])] r c 1 := by
 refine ⟨by simp, by simp, ?_, ?_, ?_⟩
 ·
  intro i hi
  rw [List.mem_singleton] at hi
  subst hi
  simp only
  omega
 ·
  intro hc hlen hn i hi
  rw [List.mem_singleton] at hi
  subst hi
  refine ⟨⟨Or.inr rfl, Or.inr rfl, ?_⟩, fun e => by simp only at e; omega⟩
  rcases hk with ⟨h1, h2, h3⟩ | ⟨h1, h2, h3⟩
  ·
   exact Or.inl ⟨h1, ⟨hr, by simp only; omega⟩, h2, h3⟩
  ·
   exact Or.inr (Or.inl ⟨h1, ⟨hr, by simp only; omega⟩, h2, h3⟩)
 ·
  rw [ziy]
  unfold top13
  simp only
  rw [if_neg (by omega), if_neg (by omega), if_neg (by omega)]
  omega
theorem sum_flat (ks : List (List Nd)) : ks.flatten.length = (ks.map List.length).sum := by simp [List.length_flatten]
theorem zl9 {s : List Nd} (h : One s) : ∀ (d : Nat) (t post : List Nd) (a : Nat) (r c : Int), s.length ≤ 60 → s.length ≤ d → t.drop a = s ++ post → 0 ≤ r → G13 s.length (za3 d t (a : Int) r c) r c (za5 60 t [] (a : Int)) := by
 induction h with
 | mk n ks hn hk ho ih =>
  intro d t post a r c h60 hd ht hr
  rcases d with _ | d
  ·
   simp at hd
  obtain ⟨e1, e2, e3⟩ := zbG ht hk ho
  have hfl : ∀ k ∈ ks, k.length ≤ ks.flatten.length := fun k hm => (List.sublist_flatten_of_mem hm).length_le
  simp only [List.length_cons] at h60 hd
  have hb : ∀ i, i < ks.length → 1 ≤ za5 60 t [] ((za1 t (a : Int)).getD i 0) ∧ (∀ r c, 0 ≤ r → G13 (ks.getD i []).length (za3 d t ((za1 t (a : Int)).getD i 0) r c) r c (za5 60 t [] ((za1 t (a : Int)).getD i 0))) ∧ za5 59 t [] ((za1 t (a : Int)).getD i 0) = za5 60 t [] ((za1 t (a : Int)).getD i 0) := fun i hi => by
   obtain ⟨post', e4, e5⟩ := e3 i hi
   have hm : ks.getD i [] ∈ ks := zbo hi
   have h1 := hfl _ hm
   rw [e4]
   exact ⟨(zeD (ho _ hm) [] 60 t post' _ (by omega) e5).1, fun r c hr => ih _ hm d t post' _ r c (by omega) (by omega) e5 hr, zkU (ho _ hm) (by omega) (by omega) e5⟩
  have hN : za5 60 t [] (a : Int) = mk12 none n ((za1 t (a : Int)).map (za5 60 t [])) := by
   show za5 (59 + 1) t [] (a : Int) = _
   rw [za5, Int.toNat_natCast, e1]
   have hm : (za1 t (a : Int)).map (za5 59 t []) = (za1 t (a : Int)).map (za5 60 t []) := by
    refine List.map_congr_left (fun p hp => ?_)
    obtain ⟨i, hi, rfl⟩ := List.getElem_of_mem hp
    have := (hb i (by omega)).2.2
    simpa [List.getD, hi] using this
   rw [hm]
   rfl
  rw [hN, za3, Int.toNat_natCast, e1]
  simp only
  have hkd := zaV.1 hn
  have hpl : (za1 t (a : Int)).length = ks.length := e2
  rcases hkd with ⟨h1, h2, h3, h4⟩ | ⟨h1, h2, h3, h4⟩ | ⟨h1, h2, h3, h4⟩ | ⟨h1, h2, h3, h4⟩
  ·
   have hz : ks = [] := by
    have : za7 n = 0 := by unfold za7; rw [if_neg (by omega), if_neg (by omega), if_neg (by omega)]
    exact List.eq_nil_of_length_eq_zero (by omega)
   subst hz
   have hp0 : za1 t (a : Int) = [] := List.eq_nil_of_length_eq_zero hpl
   rw [if_pos h1, hp0]
   unfold mk12
   rw [if_neg (by omega), if_neg (by omega)]
   exact zh3 (k := 1) (Or.inl ⟨rfl, h2.1, h2.2⟩) hr
  ·
   have hz : ks = [] := by
    have : za7 n = 0 := by unfold za7; rw [if_neg (by omega), if_neg (by omega), if_neg (by omega)]
    exact List.eq_nil_of_length_eq_zero (by omega)
   subst hz
   have hp0 : za1 t (a : Int) = [] := List.eq_nil_of_length_eq_zero hpl
   rw [if_neg (by omega), if_pos h1, hp0]
   unfold mk12
   rw [if_neg (by omega), if_neg (by omega)]
   exact zh3 (k := 2) (Or.inr ⟨rfl, h2.1, h2.2⟩) hr
  ·
   rw [if_neg (by omega), if_neg (by omega)]
   by_cases h7 : n.1 = 7
   ·
    have hk2 : ks.length = 3 := by rw [hk]; exact zbn h7
    obtain ⟨k1, k2, k3, rfl⟩ : ∃ x y z, ks = [x, y, z] := by
     match ks, hk2 with
     | [x, y, z], _ => exact ⟨x, y, z, rfl⟩
    rw [if_pos h7]
    unfold mk12
    rw [if_neg (by omega), if_pos h7, zan (by omega), zan (by omega), zan (by omega)]
    obtain ⟨b0, g0, _⟩ := hb 0 (by simp)
    obtain ⟨b1, g1, _⟩ := hb 1 (by simp)
    obtain ⟨b2, g2, _⟩ := hb 2 (by simp)
    have hl : (n :: [k1, k2, k3].flatten).length = k1.length + k2.length + k3.length + 1 := by simp; omega
    rw [hl]
    exact into_if (g0 r c hr) (g1 r _ hr) (g2 r _ hr) hr b0 b1 b2
   ·
    have h36 : 3 ≤ n.1 ∧ n.1 ≤ 6 := by omega
    have hk2 : ks.length = 2 := by rw [hk]; exact zaX h36
    obtain ⟨k1, k2, rfl⟩ : ∃ x y, ks = [x, y] := by
     match ks, hk2 with
     | [x, y], _ => exact ⟨x, y, rfl⟩
    rw [if_neg h7, if_neg (by omega)]
    unfold mk12
    rw [if_pos h36, zan (by omega), zan (by omega)]
    obtain ⟨b0, g0, _⟩ := hb 0 (by simp)
    obtain ⟨b1, g1, _⟩ := hb 1 (by simp)
    have hl : (n :: [k1, k2].flatten).length = k1.length + k2.length + 1 := by simp
    have hl' : (n :: [k1, k2].flatten).length = k2.length + k1.length + 1 := by rw [hl]; omega
    simp only [show ([k1, k2] : List (List Nd)).getD 0 [] = k1 from rfl, show ([k1, k2] : List (List Nd)).getD 1 [] = k2 from rfl] at g0 g1
    unfold zck
    simp only
    generalize za5 60 t [] ((za1 t (a : Int)).getD 0 0) = x at b0 g0 ⊢
    generalize za5 60 t [] ((za1 t (a : Int)).getD 1 0) = y at b1 g1 ⊢
    by_cases hyx : y ≤ x
    ·
     rw [if_pos hyx, hl]
     have hg := zh2 (g0 r c hr) (g1 (r + 1) _ (by omega)) hr h36 b0 b1 (Or.inl ⟨rfl, rfl⟩)
     have hmx : (if x = y then x + 1 else max x y) = max x (y + 1) := by split <;> omega
     rw [hmx]
     exact hg
    ·
     rw [if_neg hyx, hl']
     have hg := zh2 (g1 r c hr) (g0 (r + 1) _ (by omega)) hr h36 b1 b0 (Or.inr ⟨rfl, rfl⟩)
     have hmx : (if x = y then x + 1 else max x y) = max y (x + 1) := by split <;> omega
     rw [hmx]
     exact hg
  ·
   rw [if_neg (by omega), if_neg (by omega), if_neg (by omega), if_pos h1]
   unfold mk12
   rw [if_neg (by omega), if_neg (by omega)]
   have hsz : (za1 t (a : Int)).map (fun p => (endV t p - p).toNat) = ks.map List.length := by
    refine List.ext_getElem (by simp [hpl]) (fun i q1 q2 => ?_)
    rw [List.length_map] at q1 q2
    obtain ⟨post', e4, e5⟩ := e3 i q2
    have hm : ks.getD i [] ∈ ks := zbo q2
    have he := zdd e5 (ho _ hm)
    have hg : (za1 t (a : Int))[i] = (za1 t (a : Int)).getD i 0 := by simp [List.getD, q1]
    have hg2 : ks.getD i [] = ks[i] := by simp [List.getD, q2]
    rw [List.getElem_map, List.getElem_map, hg, e4, he, ← hg2]
    omega
   have hall : ∀ p ∈ za1 t (a : Int), 1 ≤ za5 60 t [] p ∧ ∀ r c, 0 ≤ r → G13 ((fun p => (endV t p - p).toNat) p) (za3 d t p r c) r c (za5 60 t [] p) := fun p hp => by
    obtain ⟨i, hi, rfl⟩ := List.getElem_of_mem hp
    have hi2 : i < ks.length := by omega
    obtain ⟨b, g, _⟩ := hb i hi2
    have hg : (za1 t (a : Int)).getD i 0 = (za1 t (a : Int))[i] := by simp [List.getD, hi]
    have hs : (endV t (za1 t (a : Int))[i] - (za1 t (a : Int))[i]).toNat = (ks.getD i []).length := by
     have hq := congrArg (fun l => l.getD i 0) hsz
     have q1 : ((za1 t (a : Int)).map (fun p => (endV t p - p).toNat)).getD i 0 = (endV t (za1 t (a : Int))[i] - (za1 t (a : Int))[i]).toNat := by simp [List.getD, hi]
     have q2 : (ks.map List.length).getD i 0 = (ks.getD i []).length := by simp [List.getD, hi2]
     rw [← q1, ← q2]
     exact hq
    rw [hg] at b g
    simp only
    rw [hs]
    exact ⟨b, g⟩
   obtain ⟨i1, i2, i3, i4⟩ := zm7 (za3 d t) (za5 60 t []) (fun p => (endV t p - p).toNat) (za1 t (a : Int)) r c hr hall
   rw [hsz, ← sum_flat] at i1
   have hkn : (za7 n : Int) = n.2.1 := by
    unfold za7
    rw [if_neg (by omega), if_neg (by omega), if_pos h1]
    omega
   have h4' := i4 1 (by omega)
   exact zla (s := ks.flatten.length) (by omega) i2 (i3 1) h4'.1 h2.1 h2.2 (by omega) hr h3 h4
theorem zc4 {t : List Nd} (h : zaI t = true) : zbV (za9 t) = true ∧ regsV (za9 t) = needT t ∧ (za9 t).length ≤ 121 ∧ 1 ≤ (za9 t).length ∧ (za9 t).countP (fun i => i.1 == 10) = 1 := by
 obtain ⟨h60, ho⟩ := zaM.1 h
 have hg := zl9 ho 60 t [] 0 0 0 h60 h60 (by simp) (Int.le_refl 0)
 have hb := zeD ho [] 60 t [] 0 h60 (by simp)
 rw [show ((0 : Nat) : Int) = 0 from rfl] at hg hb
 have hc : za9 t = za3 60 t 0 0 0 ++ [(10, 0, 0, 0, [])] := by unfold za9; rw [if_pos h]
 have hn : needT t = za5 60 t [] 0 := by unfold needT; rw [if_pos h]
 rw [hc, hn]
 generalize za3 60 t 0 0 0 = x at hg ⊢
 generalize za5 60 t [] 0 = m at hg hb ⊢
 have hl : (x ++ [((10, 0, 0, 0, []) : In13)]).length = x.length + 1 := by simp
 have hlen := hg.len
 have hcode : zbV (x ++ [((10, 0, 0, 0, []) : In13)]) = true := by
  unfold zbV
  refine decide_eq_true ⟨by rw [hl]; omega, fun i hi => ?_, Or.inl ?_⟩
  ·
   rw [hl]
   rcases List.mem_append.1 hi with hi | hi
   ·
    obtain ⟨q1, q2⟩ := hg.ok (Int.le_refl 0) (by omega) (by omega) i hi
    exact ⟨q1, fun e => by have := q2 e; omega⟩
   ·
    rw [List.mem_singleton] at hi
    subst hi
    exact ⟨by decide, fun e => by simp at e⟩
  ·
   rw [hl]; simp [List.getD]
 refine ⟨hcode, ?_, by rw [hl]; omega, by rw [hl]; omega, ?_⟩
 ·
  unfold regsV
  rw [if_pos hcode, zbr, hg.top]
  have e1 : mx13 [((10, 0, 0, 0, []) : In13)] = 1 := by decide
  rw [e1]
  omega
 ·
  rw [List.countP_append]
  have : x.countP (fun i => i.1 == 10) = 0 := by
   rw [List.countP_eq_zero]
   intro i hi
   have := hg.noEnd i hi
   simpa using this
  rw [this]
  rfl
end Go.Proofs.YtkpdoedpkncboaaGreat
