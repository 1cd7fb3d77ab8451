/-
  Parts of one proof, one behind the other: Math16, LsA.
-/
import Derived.Test.YtenaaneckobdpaaGreatP26
import Derived.Test.YtenaaneckobdpaaGreatP16
import Derived.Test.YtenaaneckobdpaaGreatP5
import Derived.Test.YtenaaneckobdpaaGreatP25
import Derived.Test.YtenaaneckobdpaaGreatP22
namespace Go.Proofs.YtenaaneckobdpaaGreat
open Go.RowKit
def zbq (ts : List (List UInt8)) : List (List UInt8) := ts.foldl put8 []
theorem ze0 : ∀ (ts z : List (List UInt8)), Rise z → Rise (ts.foldl put8 z)
 | [], _, h => h
 | s :: ts, z, h => ze0 ts (put8 z s) (zcL h)
theorem zbn (ts : List (List UInt8)) : Rise (zbq ts) := ze0 ts [] List.Pairwise.nil
theorem zeH {x : List UInt8} : ∀ (ts z : List (List UInt8)), x ∈ ts.foldl put8 z ↔ x ∈ ts ∨ x ∈ z
 | [], z => by simp
 | s :: ts, z => by
  rw [List.foldl_cons, zeH ts (put8 z s), zcB, List.mem_cons]
  constructor
  ·
   rintro (h | h | h)
   ·
    exact Or.inl (Or.inr h)
   ·
    exact Or.inl (Or.inl h)
   ·
    exact Or.inr h
  ·
   rintro ((h | h) | h)
   ·
    exact Or.inr (Or.inl h)
   ·
    exact Or.inl h
   ·
    exact Or.inr (Or.inr h)
theorem zbi {x : List UInt8} {ts : List (List UInt8)} : x ∈ zbq ts ↔ x ∈ ts := by
 unfold zbq
 rw [zeH]
 simp
theorem zeo {xs ys : List (List UInt8)} (hx : Rise xs) (hy : Rise ys) (h : ∀ a, a ∈ xs ↔ a ∈ ys) : xs = ys :=
 List.Perm.eq_of_pairwise (le := fun a b : List UInt8 => Op.bytesLess a b = true) (fun a b _ _ h1 h2 => by
  have := zbZ h1 h2
  rw [zc9] at this
  cases this) hx hy ((List.perm_ext_iff_of_nodup hx.nodup hy.nodup).2 h)
theorem zhH {ts zs : List (List UInt8)} (hz : Rise zs) (h : ∀ a, a ∈ zs ↔ a ∈ ts) : zs = zbq ts := zeo hz (zbn ts) (fun a => (h a).trans zbi.symm)
theorem zdH (ts : List (List UInt8)) (s : List UInt8) : zbq (ts ++ [s]) = put8 (zbq ts) s := by unfold zbq; rw [List.foldl_append]; rfl
theorem zdg : ∀ (ts z : List (List UInt8)), (ts.foldl put8 z).length ≤ z.length + ts.length
 | [], z => by simp
 | s :: ts, z => by
  have h1 := zdg ts (put8 z s)
  have h2 := (zhJ z s).2
  simp only [List.foldl_cons, List.length_cons]
  omega
theorem zcp (ts : List (List UInt8)) : (zbq ts).length ≤ ts.length := by
 have := zdg ts []
 simpa [zbq] using this
theorem zjp {ts : List (List UInt8)} {s : List UInt8} (h : Rise ts) (hs : s ∈ ts) : put8 ts s = ts := zeo (zcL h) h (fun a => by
 rw [zcB]
 exact ⟨fun e => e.elim (fun e => e ▸ hs) id, Or.inr⟩)
theorem zhI {ts : List (List UInt8)} {s : List UInt8} (h : Rise ts) (hs : s ∉ ts) : (put8 ts s).length = ts.length + 1 :=
 ((List.perm_ext_iff_of_nodup (zcL h).nodup (List.nodup_cons.2 ⟨hs, h.nodup⟩)).2 (fun a => by rw [zcB, List.mem_cons])).length_eq
theorem ze2 : ∀ (ts z : List (List UInt8)), Rise z → ((ts.foldl put8 z).length = z.length + ts.length ↔ ts.Nodup ∧ ∀ x ∈ ts, x ∉ z)
 | [], z, _ => by simp
 | s :: ts, z, hz => by
  rw [List.foldl_cons]
  by_cases hs : s ∈ z
  ·
   rw [zjp hz hs]
   have h1 := zdg ts z
   constructor
   ·
    intro h; simp only [List.length_cons] at h; omega
   ·
    intro h; exact absurd hs (h.2 s List.mem_cons_self)
  ·
   have h1 := ze2 ts (put8 z s) (zcL hz)
   rw [zhI hz hs] at h1
   rw [List.length_cons, show z.length + (ts.length + 1) = z.length + 1 + ts.length by omega, h1, List.nodup_cons]
   constructor
   ·
    rintro ⟨h2, h3⟩
    refine ⟨⟨fun e => h3 s e (zcB.2 (Or.inl rfl)), h2⟩, fun x hx => ?_⟩
    rcases List.mem_cons.1 hx with rfl | hx
    ·
     exact hs
    ·
     exact fun e => h3 x hx (zcB.2 (Or.inr e))
   ·
    rintro ⟨⟨h2, h3⟩, h4⟩
    refine ⟨h3, fun x hx e => ?_⟩
    rcases zcB.1 e with rfl | e
    ·
     exact h2 hx
    ·
     exact h4 x (List.mem_cons_of_mem _ hx) e
theorem zih {ts : List (List UInt8)} : (zbq ts).length = ts.length ↔ ts.Nodup := by
 have := ze2 ts [] List.Pairwise.nil
 simpa [zbq] using this
def za2 (os : List Ob) : List Rt := os.flatMap (fun o => o.2.2)
def zaw (rs : List Rt) : List (List UInt8) := rs.map (fun r => r.1)
def zb1 (os : List Ob) : Bool := os.all objB && decide (os.length ≤ 8)
abbrev Fc := List UInt8 × Int
def calR (c : List In13) : List Fc := (c.filter (fun i => decide (i.1 = 9))).map (fun i => (i.2.2.2.2, i.2.2.1))
def za1 (rs : List Rt) : List Fc := rs.flatMap (fun r => calR r.2.2)
def zaQ (rs : List Rt) : List (List UInt8) := zbq (zaw rs)
def outN (rs : List Rt) (cs : List Fc) : List (List UInt8) := (cs.map (fun c => c.1)).filter (fun s => decide (s ∉ zaw rs))
def zaF (rs : List Rt) (cs : List Fc) : List (List UInt8) := zbq (outN rs cs)
def zbN (rs : List Rt) (cs : List Fc) : Bool := cs.all (fun c => rs.any (fun r => decide (r.1 = c.1 ∧ r.2.1 = c.2)))
def zau (os : List Ob) : List (List UInt8) := if zb1 os = true then zaQ (za2 os) else []
def zax (os : List Ob) : List (List UInt8) := if zb1 os = true then zaF (za2 os) (za1 (za2 os)) else []
def zbb (os : List Ob) : Int :=
 if os = [] ∨ zb1 os = false then 4
 else if ¬ (zaw (za2 os)).Nodup then 1
 else if zaF (za2 os) (za1 (za2 os)) ≠ [] then 2
 else if zbN (za2 os) (za1 (za2 os)) = false then 3
 else 0
def zaM (os : List Ob) : List Rt := if zbb os = 0 then zao (za2 os) else []
theorem zam {os : List Ob} (h : zb1 os = true) : (∀ o ∈ os, objB o = true) ∧ os.length ≤ 8 := by
 unfold zb1 at h
 rw [Bool.and_eq_true, List.all_eq_true, decide_eq_true_eq] at h
 exact h
theorem zg7 {os : List Ob} (h : ¬ os.length ≤ 8) : zb1 os = false := by unfold zb1; rw [decide_eq_false h, Bool.and_false]
theorem zhO {os : List Ob} {j : Nat} (hj : j < os.length) (h : objB (os.getD j ob0) = false) : zb1 os = false := by
 rcases e : zb1 os with _ | _
 ·
  rfl
 ·
  have := (zam e).1 (os.getD j ob0) (by rw [List.getD_eq_getElem?_getD, List.getElem?_eq_getElem hj]; exact List.getElem_mem hj)
  rw [h] at this
  cases this
theorem zg6 {os : List Ob} (h8 : os.length ≤ 8) (h : ∀ j, j < os.length → objB (os.getD j ob0) = true) : zb1 os = true := by
 unfold zb1
 rw [decide_eq_true h8, Bool.and_true, List.all_eq_true]
 intro o ho
 obtain ⟨j, hj, rfl⟩ := List.mem_iff_getElem.1 ho
 have := h j hj
 rwa [List.getD_eq_getElem?_getD, List.getElem?_eq_getElem hj] at this
theorem zjw {o : Ob} (h : objB o = true) : zhv o.2.2 := riseR_of (fun i hi => by
 have := ((zbD h).one (i + 1) hi).1.2.1 (by omega)
 rwa [Nat.add_sub_cancel] at this)
theorem zh1 {o : Ob} (h : objB o = true) {r : Rt} (hr : r ∈ o.2.2) : rtB r = true := by
 obtain ⟨j, hj, rfl⟩ := List.mem_iff_getElem.1 hr
 have := ((zbD h).one j hj).1.1
 rwa [List.getD_eq_getElem?_getD, List.getElem?_eq_getElem hj] at this
theorem zdp {os : List Ob} (h : zb1 os = true) {r : Rt} (hr : r ∈ za2 os) : rtB r = true := by
 obtain ⟨o, ho, hr⟩ := List.mem_flatMap.1 hr
 exact zh1 ((zam h).1 o ho) hr
theorem zbs {os : List Ob} (h : ∀ o ∈ os, objB o = true) : os.length ≤ (za2 os).length ∧ (za2 os).length ≤ 8 * os.length := by
 induction os with
 | nil => simp [za2]
 | cons o os ih =>
  have h1 := ih (fun x hx => h x (List.mem_cons_of_mem _ hx))
  have h2 := (zbD (h o List.mem_cons_self)).l
  simp only [za2, List.flatMap_cons, List.length_append, List.length_cons] at h1 ⊢
  omega
theorem zg1 (xs ys : List Ob) : za2 (xs ++ ys) = za2 xs ++ za2 ys := by unfold za2; exact List.flatMap_append
theorem zcU (os : List Ob) (k : Nat) (hk : k < os.length) : za2 (os.take (k + 1)) = za2 (os.take k) ++ (os.getD k ob0).2.2 := by
 rw [List.take_succ_eq_append_getElem hk, zg1, List.getD_eq_getElem?_getD, List.getElem?_eq_getElem hk]
 simp [za2]
theorem zcn (xs ys : List Rt) : za1 (xs ++ ys) = za1 xs ++ za1 ys := by unfold za1; exact List.flatMap_append
theorem ze5 (rs : List Rt) (k : Nat) (hk : k < rs.length) : za1 (rs.take (k + 1)) = za1 (rs.take k) ++ calR (rs.getD k rt0).2.2 := by
 rw [List.take_succ_eq_append_getElem hk, zcn, List.getD_eq_getElem?_getD, List.getElem?_eq_getElem hk]
 simp [za1]
theorem zgF (c : List In13) (k : Nat) (hk : k < c.length) : calR (c.take (k + 1)) = if (c.getD k in0).1 = 9 then calR (c.take k) ++ [((c.getD k in0).2.2.2.2, (c.getD k in0).2.2.1)] else calR (c.take k) := by
 have hg : c.getD k in0 = c[k] := by rw [List.getD_eq_getElem?_getD, List.getElem?_eq_getElem hk]; rfl
 rw [List.take_succ_eq_append_getElem hk, hg]
 unfold calR
 rw [List.filter_append, List.map_append]
 split
 ·
  rename_i h
  simp [h]
 ·
  rename_i h
  simp [h]
def ofN (rs : List Rt) (s : List UInt8) : List Rt := rs.filter (fun r => decide (r.1 = s))
theorem zct (xs ys : List Rt) (s : List UInt8) : ofN (xs ++ ys) s = ofN xs s ++ ofN ys s := List.filter_append ..
theorem zg5 {rs : List Rt} (hr : zhv rs) {s : List UInt8} {j : Nat} (hj : j < rs.length) (h : (rs.getD j rt0).1 = s) : ofN rs s = [rs.getD j rt0] := by
 have hd : rs = rs.take j ++ rs.getD j rt0 :: rs.drop (j + 1) := by
  have hg : rs.getD j rt0 = rs[j] := by rw [List.getD_eq_getElem?_getD, List.getElem?_eq_getElem hj]; rfl
  rw [hg, ← List.drop_eq_getElem_cons hj, List.take_append_drop]
 have h1 : ofN (rs.take j) s = [] := by
  unfold ofN
  rw [List.filter_eq_nil_iff]
  intro a ha
  obtain ⟨i, hi, rfl⟩ := List.mem_iff_getElem.1 ha
  rw [List.length_take] at hi
  have := hr i j (by omega) hj
  rw [List.getElem_take, decide_eq_true_eq]
  intro e
  rw [h, List.getD_eq_getElem?_getD, List.getElem?_eq_getElem (by omega), Option.getD_some, e, zc9] at this
  cases this
 have h2 : ofN (rs.drop (j + 1)) s = [] := by
  unfold ofN
  rw [List.filter_eq_nil_iff]
  intro a ha
  obtain ⟨i, hi, rfl⟩ := List.mem_iff_getElem.1 ha
  rw [List.length_drop] at hi
  have := hr j (j + 1 + i) (by omega) (by omega)
  rw [List.getElem_drop, decide_eq_true_eq]
  intro e
  rw [h, List.getD_eq_getElem?_getD, List.getElem?_eq_getElem (by omega), Option.getD_some, e, zc9] at this
  cases this
 have h3 : ofN (rs.getD j rt0 :: rs.drop (j + 1)) s = rs.getD j rt0 :: ofN (rs.drop (j + 1)) s := List.filter_cons_of_pos (decide_eq_true h)
 rw [hd, zct, h1, List.nil_append]
 rw [← hd, h3, h2]
theorem zdk (s : List UInt8) : ∀ (rs : List Rt) (k : Nat), zbQ s rs k = -1 ∧ (∀ r ∈ rs, r.1 ≠ s) ∨ ∃ j, j < rs.length ∧ zbQ s rs k = ((k + j : Nat) : Int) ∧ (rs.getD j rt0).1 = s
 | [], _ => Or.inl ⟨rfl, fun r hr => by cases hr⟩
 | r :: rs, k => by
  rw [zbQ]
  split
  ·
   rename_i h
   exact Or.inr ⟨0, by simp, by simp, h⟩
  ·
   rename_i h
   rcases zdk s rs (k + 1) with ⟨h1, h2⟩ | ⟨j, h1, h2, h3⟩
   ·
    refine Or.inl ⟨h1, fun x hx => ?_⟩
    rcases List.mem_cons.1 hx with rfl | hx
    ·
     exact h
    ·
     exact h2 x hx
   ·
    exact Or.inr ⟨j + 1, by simpa using h1, by rw [h2]; congr 1; omega, h3⟩
theorem at14_ofN {rs : List Rt} (hr : zhv rs) (s : List UInt8) : (at14 rs s = -1 ∧ ofN rs s = []) ∨ ∃ j : Nat, j < rs.length ∧ at14 rs s = (j : Int) ∧ ofN rs s = [rs.getD j rt0] := by
 unfold at14
 rcases zdk s rs 0 with ⟨h1, h2⟩ | ⟨j, h1, h2, h3⟩
 ·
  refine Or.inl ⟨h1, ?_⟩
  unfold ofN
  rw [List.filter_eq_nil_iff]
  intro a ha
  rw [decide_eq_true_eq]
  exact h2 a ha
 ·
  exact Or.inr ⟨j, h1, by rw [h2, Nat.zero_add], zg5 hr h1 h3⟩
theorem zer {rs : List Rt} {s : List UInt8} {r : Rt} : r ∈ ofN rs s ↔ r ∈ rs ∧ r.1 = s := by unfold ofN; rw [List.mem_filter, decide_eq_true_eq]
theorem zi7 : ∀ (ks : List (List UInt8)) (rs : List Rt), ks.Nodup → (∀ r ∈ rs, r.1 ∈ ks) → (ks.flatMap (ofN rs)).Perm rs
 | [], rs, _, h => by
  cases rs with
  | nil => exact List.Perm.nil
  | cons r rs => exact absurd (h r List.mem_cons_self) (by simp)
 | s :: ks, rs, hn, h => by
  obtain ⟨hs, hn⟩ := List.nodup_cons.1 hn
  have ih := zi7 ks (rs.filter (fun r => !decide (r.1 = s))) hn (fun r hr => by
   obtain ⟨h1, h2⟩ := List.mem_filter.1 hr
   rcases List.mem_cons.1 (h r h1) with e | e
   ·
    simp [e] at h2
   ·
    exact e)
  have he : ks.flatMap (ofN (rs.filter (fun r => !decide (r.1 = s)))) = ks.flatMap (ofN rs) := by
   rw [List.flatMap_def, List.flatMap_def]
   refine congrArg List.flatten (List.map_congr_left (fun k hk => ?_))
   unfold ofN
   rw [List.filter_filter]
   refine List.filter_congr (fun r _ => ?_)
   by_cases e : r.1 = k
   ·
    have : ¬ k = s := fun e2 => hs (e2 ▸ hk)
    simp [e, this]
   ·
    simp [e]
  rw [he] at ih
  rw [List.flatMap_cons]
  exact (List.Perm.append_left _ ih).trans (List.filter_append_perm _ rs)
theorem byN_sort {ks : List (List UInt8)} (hk : Rise ks) (rs : List Rt) : zdE (ks.flatMap (ofN rs)) := by
 induction ks with
 | nil => exact List.Pairwise.nil
 | cons s ks ih =>
  obtain ⟨h1, h2⟩ := List.pairwise_cons.1 hk
  rw [List.flatMap_cons]
  refine List.pairwise_append.2 ⟨?_, ih h2, fun a ha b hb => ?_⟩
  ·
   refine List.pairwise_of_forall_mem_list (fun a ha b hb => ?_)
   rw [(zer.1 ha).2, (zer.1 hb).2, zc9]
  ·
   obtain ⟨k, hk, hb⟩ := List.mem_flatMap.1 hb
   rw [(zer.1 ha).2, (zer.1 hb).2]
   exact zh6 (h1 k hk)
theorem zhR {ts : List (List UInt8)} (h : ts.Nodup) {i j : Nat} (hi : i < ts.length) (hj : j < ts.length) (e : ts[i] = ts[j]) : i = j := by
 rcases Nat.lt_trichotomy i j with g | g | g
 ·
  exact absurd e (List.pairwise_iff_getElem.1 h i j hi hj g)
 ·
  exact g
 ·
  exact absurd e.symm (List.pairwise_iff_getElem.1 h j i hj hi g)
theorem zhN {rs : List Rt} (h : (zaw rs).Nodup) : ∀ a ∈ rs, ∀ b ∈ rs, a.1 = b.1 → a = b := by
 intro a ha b hb e
 obtain ⟨i, hi, rfl⟩ := List.mem_iff_getElem.1 ha
 obtain ⟨j, hj, rfl⟩ := List.mem_iff_getElem.1 hb
 have := zhR h (i := i) (j := j) (by simpa [zaw] using hi) (by simpa [zaw] using hj) (by simpa [zaw] using e)
 subst this
 rfl
theorem byN_all {rs : List Rt} (h : (zaw rs).Nodup) : (zaQ rs).flatMap (ofN rs) = zao rs :=
 zem (zhN h) (zi7 _ _ (zbn _).nodup (fun r hr => zbi.2 (List.mem_map.2 ⟨r, hr, rfl⟩))) (byN_sort (zbn _) rs)
theorem zjt {rs : List Rt} {s : List UInt8} (h : 1 < (ofN rs s).length) : ¬ (zaw rs).Nodup := by
 intro hn
 have h1 : ((ofN rs s).map (fun r => r.1)).Nodup := hn.sublist (List.Sublist.map _ List.filter_sublist)
 have h2 : ((ofN rs s).map (fun r => r.1)) = List.replicate (ofN rs s).length s := List.eq_replicate_iff.2 ⟨by simp, fun x hx => by
  obtain ⟨r, hr, rfl⟩ := List.mem_map.1 hx
  exact (zer.1 hr).2⟩
 rw [h2, List.nodup_replicate] at h1
 omega
theorem zju {rs : List Rt} (h : ∀ s ∈ zaQ rs, (ofN rs s).length ≤ 1) : (zaw rs).Nodup := by
 rw [List.nodup_iff_count]
 intro s
 by_cases hs : s ∈ zaw rs
 ·
  have h1 := h s (zbi.2 hs)
  have h2 : (zaw rs).count s = (ofN rs s).length := by
   unfold zaw ofN
   rw [List.count_eq_countP, List.countP_map, List.countP_eq_length_filter]
   congr 1
   refine List.filter_congr (fun r _ => ?_)
   rw [Bool.eq_iff_iff]
   simp [Function.comp]
  omega
 ·
  rw [List.count_eq_zero.2 hs]
  omega
theorem zdi {rs : List Rt} {c : Fc} : c ∈ za1 rs ↔ ∃ r ∈ rs, ∃ i ∈ r.2.2, i.1 = 9 ∧ c = (i.2.2.2.2, i.2.2.1) := by
 unfold za1 calR
 constructor
 ·
  intro h
  obtain ⟨r, hr, h⟩ := List.mem_flatMap.1 h
  obtain ⟨i, hi, rfl⟩ := List.mem_map.1 h
  obtain ⟨hi, h9⟩ := List.mem_filter.1 hi
  exact ⟨r, hr, i, hi, of_decide_eq_true h9, rfl⟩
 ·
  rintro ⟨r, hr, i, hi, h9, rfl⟩
  exact List.mem_flatMap.2 ⟨r, hr, List.mem_map.2 ⟨i, List.mem_filter.2 ⟨hi, decide_eq_true h9⟩, rfl⟩⟩
theorem zf8 {os : List Ob} (h : zb1 os = true) (h0 : os ≠ []) (hn : (zaw (za2 os)).Nodup) : zbM (zao (za2 os)) = zbN (za2 os) (za1 (za2 os)) := by
 have hp := zb0 (za2 os)
 have hs := zcy (za2 os)
 have hl := zbs (zam h).1
 have h8 := (zam h).2
 have h1 : 1 ≤ os.length := by cases os with | nil => exact absurd rfl h0 | cons _ _ => simp
 have hlen := hp.length_eq
 have hnp : (zaw (zao (za2 os))).Nodup := (hp.map (fun r : Rt => r.1)).nodup_iff.2 hn
 have hrt : ∀ r ∈ zao (za2 os), rtB r = true := fun r hr => zdp h (hp.mem_iff.1 hr)
 have hmem : ∀ r, r ∈ zao (za2 os) ↔ r ∈ za2 os := fun r => hp.mem_iff
 generalize za2 os = rs at *
 generalize zao rs = m at *
 have hrise : zhv m := fun i j hij hj => by
  have h2 := List.pairwise_iff_getElem.1 hs i j (by omega) hj hij
  have h3 := zhR hnp (i := i) (j := j) (by simp [zaw]; omega) (by simpa [zaw] using hj)
  simp only [zaw, List.getElem_map] at h3
  rw [List.getD_eq_getElem?_getD, List.getElem?_eq_getElem (by omega : i < m.length), List.getD_eq_getElem?_getD, List.getElem?_eq_getElem hj]
  simp only [Option.getD_some]
  rcases e : Op.bytesLess (m[i]).1 (m[j]).1 with _ | _
  ·
   have := h3 (zcN e h2)
   omega
  ·
   rfl
 have hget : ∀ j, (hj : j < m.length) → m.getD j rt0 = m[j] := fun j hj => by rw [List.getD_eq_getElem?_getD, List.getElem?_eq_getElem hj]; rfl
 have hR : rtsB m 64 = true := by
  refine decide_eq_true ⟨by omega, fun i hi => by rw [hget i hi]; exact hrt _ (List.getElem_mem hi), fun i hi => zhV.2 (hrise i (i + 1) (by omega) (by omega))⟩
 rw [ziD, hR, Bool.true_and, Bool.eq_iff_iff, decide_eq_true_eq]
 unfold zbN
 rw [List.all_eq_true]
 constructor
 ·
  intro hc c hcm
  obtain ⟨r, hr, i, hi, h9, rfl⟩ := zdi.1 hcm
  obtain ⟨j, hj, rfl⟩ := List.mem_iff_getElem.1 ((hmem r).2 hr)
  have h2 := List.all_eq_true.1 (hc j hj) i (by rw [hget j hj]; exact hi)
  unfold clsB at h2
  simp only [h9, ne_eq, not_true_eq_false, decide_false, Bool.false_or, Bool.and_eq_true, decide_eq_true_eq] at h2
  rcases zdk i.2.2.2.2 m 0 with ⟨e, _⟩ | ⟨q, hq, e, hqn⟩
  ·
   have := h2.1
   rw [at14, e] at this
   omega
  ·
   rw [at14, e, Nat.zero_add, Int.toNat_natCast] at h2
   refine List.any_eq_true.2 ⟨m[q], (hmem _).1 (List.getElem_mem hq), decide_eq_true ?_⟩
   rw [hget q hq] at h2 hqn
   exact ⟨hqn, h2.2⟩
 ·
  intro hc j hj
  rw [List.all_eq_true]
  intro i hi
  unfold clsB
  by_cases h9 : i.1 = 9
  ·
   have hcm : (i.2.2.2.2, i.2.2.1) ∈ za1 rs := zdi.2 ⟨m[j], (hmem _).1 (List.getElem_mem hj), i, by rw [← hget j hj]; exact hi, h9, rfl⟩
   obtain ⟨r, hr, hd⟩ := List.any_eq_true.1 (hc _ hcm)
   obtain ⟨e1, e2⟩ := of_decide_eq_true hd
   obtain ⟨q, hq, rfl⟩ := List.mem_iff_getElem.1 ((hmem r).2 hr)
   have ha := at14_yes hrise hq (s := i.2.2.2.2) (by rw [hget q hq]; exact e1)
   rw [ha, Int.toNat_natCast, hget q hq, e2]
   simp
  ·
   simp [h9]
set_option maxHeartbeats 4000000 in
set_option maxRecDepth 100000 in
theorem zfk (a : Option Addr) (len cap : Nat) (os : List Ob) (w : World) (hin : zc1 w a len os) (hlen : len ≤ 1048576) (hsh : zdl os) :
 Calls Tryz.prog 27 #[.slice a len cap] w fun e w' => e = .returned (.bool (zb1 os)) ∧ Below w.heap.size w w' := by
 have hl := hin.1
 have HI : Hid (zc1 w a len os) := hin
 have HS : Hid (zdl os) := hsh
 have HB0 : Hid (Below w.heap.size w w) := Below.refl _ w
 have HNo : Hid (∀ j, j < len → objB (os.getD j ob0) = false → zb1 os = false) := fun j hj e => zhO (by rw [hl]; exact hj) e
 have HYes : Hid ((∀ j, j < len → objB (os.getD j ob0) = true) → zb1 os = decide ((len : Int) ≤ 8)) := fun hj => by
  by_cases h8 : len ≤ 8
  ·
   rw [zg6 (by rw [hl]; exact h8) (fun j hj' => hj j (by rw [← hl]; exact hj')), decide_eq_true (by omega)]
  ·
   rw [zg7 (by rw [hl]; exact h8), decide_eq_false (by omega)]
 generalize zb1 os = res at HNo HYes ⊢
 clear hin hsh hl
 go_enter Tryz.func27, Tryz.ntmps27
 go_wp2
 go_loopw [3] (fun iv wr => ∃ k : Nat, iv = .int .i64 (k : Int) ∧ k ≤ len ∧ Hid (∀ j, j < k → objB (os.getD j ob0) = true) ∧ Hid (Below w.heap.size w wr)) (fun iv _ => len - (intOf iv).toNat)
 case atStart => exact ⟨0, rfl, Nat.zero_le _, (fun j hj => absurd hj (Nat.not_lt_zero _)), HB0⟩
 case round =>
  obtain ⟨k, rfl, hk, HA, HB⟩ := hrel
  clear HB0
  by_cases hlt : (k : Int) < (len : Int)
  ·
   obtain ⟨b, off, rfl, hbl, c0, ia, il, ic, fa, fl, fc, c1, c2, hii, hff⟩ := (HI.out.below HB.out).2 k (by omega)
   have hts := HS.out k
   have hno := HNo.out k (by omega)
   have hst : objB (os.getD k ob0) = true → ∀ j, j < k + 1 → objB (os.getD j ob0) = true := fun h j hj => by
    rcases Nat.lt_or_ge j k with g | g
    ·
     exact HA.out j g
    ·
     obtain rfl : j = k := by omega
     exact h
   obtain ⟨o, ho⟩ : ∃ o, os.getD k ob0 = o := ⟨_, rfl⟩
   rw [ho] at c0 hii hff hts hno hst
   obtain ⟨nm, ims, rs⟩ := o
   simp only at c0 hii hff hts
   obtain rfl : ims.length = il := hii.1
   obtain rfl : rs.length = fl := hff.1
   have HC : Hid (_) := zdV nm ia ims.length ic fa rs.length fc ims rs wr hii hff hts.2.1 hts.2.2.2.1 hts.1 hts.2.2.1 hts.2.2.2.2
   rcases hb1 : objB (nm, ims, rs) with _ | _
   ·
    have HR : Hid (res = false) := hno hb1
    rw [hb1] at HC
    clear hno hst ho hb1 hii hff hts HA
    go_wp2_with fail
    refine Calls.mono HC.out ?_
    rintro e w1 ⟨rfl, hb1⟩
    have HB1 : Hid (Below w.heap.size w w1) := HB.out.trans (hb1.mono HB.out.size)
    clear hb1 HC
    go_wp2
    go_ret
    exact ⟨by rw [HR.out]; rfl, HB1.out⟩
   ·
    have HS2 : Hid (∀ j, j < k + 1 → objB (os.getD j ob0) = true) := hst hb1
    rw [hb1] at HC
    clear hno hst ho hb1 hii hff hts HA
    go_wp2_with fail
    refine Calls.mono HC.out ?_
    rintro e w1 ⟨rfl, hb1⟩
    have HB1 : Hid (Below w.heap.size w w1) := HB.out.trans (hb1.mono HB.out.size)
    clear hb1 HC
    go_wp2
    go_roundw
    case rel => exact ⟨k + 1, by go_num, by omega, HS2, HB1⟩
    case measure => simp [intOf]; omega
  ·
   obtain rfl : k = len := by omega
   have HR : Hid (res = decide ((k : Int) ≤ 8)) := HYes.out HA.out
   go_wp2
   go_ret
   exact ⟨by rw [HR.out]; rfl, HB.out⟩
set_option maxHeartbeats 8000000 in
set_option maxRecDepth 100000 in
theorem zel (a : Option Addr) (len cap : Nat) (os : List Ob) (w : World) (hin : zc1 w a len os) (hB : zb1 os = true) :
 Calls Tryz.prog 30 #[.slice a len cap] w fun e w' => ∃ g c, e = .returned (.slice (some ⟨g, 0, none⟩) (zaQ (za2 os)).length c) ∧ w'.ownsRow w.heap.size 9 1 (.slice (some ⟨g, 0, none⟩) (zaQ (za2 os)).length c) (zaQ (za2 os)).length (strV (zaQ (za2 os))) ∧ Below w.heap.size w w' := by
 have hl := hin.1
 have h8 : len ≤ 8 := by have := (zam hB).2; omega
 have HI : Hid (zc1 w a len os) := hin
 have HOb : Hid (∀ k, k < len → za2 (os.take (k + 1)) = za2 (os.take k) ++ (os.getD k ob0).2.2 ∧ (os.getD k ob0).2.2.length ≤ 8 ∧ (za2 (os.take k)).length ≤ 64) := fun k hk => by
  have hm := (zam hB).1
  refine ⟨zcU os k (by omega), (zbD (hm (os.getD k ob0) (by rw [List.getD_eq_getElem?_getD, List.getElem?_eq_getElem (by omega)]; exact List.getElem_mem (by omega)))).l.2, ?_⟩
  have := (zbs (os := os.take k) (fun o ho => hm o (List.mem_of_mem_take ho))).2
  rw [List.length_take] at this
  omega
 have HAll : Hid (za2 (os.take len) = za2 os) := by exact (by rw [List.take_of_length_le (by omega)] : za2 (os.take len) = za2 os)
 have HX0 : Hid ((w.alloc (.cells #[] 9)).ownsRow w.heap.size 9 1 (.slice (some ⟨w.heap.size, 0, none⟩) 0 0) 0 (strV []) ∧ Below w.heap.size w (w.alloc (.cells #[] 9))) := ⟨World.ownsRow_lit w #[] 0 (Nat.le_refl _) (by decide) rfl, (Below.refl _ _).alloc (Nat.le_refl _) _⟩
 clear hin hB hl
 go_enter Tryz.func30, Tryz.ntmps30
 go_wp2
 go_loopw [3, 4] (fun vv iv wr => ∃ (k g c : Nat) (ts : List (List UInt8)), iv = .int .i64 (k : Int) ∧ k ≤ len ∧ vv = .slice (some ⟨g, 0, none⟩) ts.length c ∧ Hid (ts = zaQ (za2 (os.take k))) ∧ Hid (wr.ownsRow w.heap.size 9 1 (.slice (some ⟨g, 0, none⟩) ts.length c) ts.length (strV ts) ∧ Below w.heap.size w wr)) (fun _ iv _ => len - (intOf iv).toNat)
 case atStart => exact ⟨0, w.heap.size, 0, [], rfl, Nat.zero_le _, rfl, (by simp [zaQ, za2, zaw, zbq] : ([] : List (List UInt8)) = zaQ (za2 (os.take 0))), HX0⟩
 case round =>
  obtain ⟨k, g, c, ts, rfl, hk, rfl, HM, HX⟩ := hrel
  clear HX0
  by_cases hlt : (k : Int) < (len : Int)
  ·
   obtain ⟨hst, hle, h64⟩ := HOb.out k (by omega)
   obtain ⟨b, off, rfl, hbl, d0, ia, il, ic, fa, fl, fc, d1, d2, hii, hff⟩ := HI.out.2 k (by omega)
   obtain ⟨o, ho⟩ : ∃ o, os.getD k ob0 = o := ⟨_, rfl⟩
   rw [ho] at hst hle hff
   obtain ⟨nm, ims, rs⟩ := o
   simp only at hst hle hff
   have c2 := (HX.out.2.cell (p := ⟨b, off + k * 3 + 2, none⟩) hbl).trans d2
   obtain rfl : rs.length = fl := hff.1
   have HF : Hid (zbp w fa rs.length rs) := hff
   have HD2 : Hid (w.cell? ⟨b, off + k * 3 + 2, none⟩ = some (.slice fa rs.length fc)) := d2
   obtain ⟨qs, hqs⟩ : ∃ qs, za2 (os.take k) = qs := ⟨_, rfl⟩
   rw [hqs] at hst h64
   rw [hqs] at HM
   have HTk : Hid (∀ j, j < rs.length → zaQ (qs ++ rs.take (j + 1)) = put8 (zaQ (qs ++ rs.take j)) (rs.getD j rt0).1) := fun j hj => by
    have hg : rs.getD j rt0 = rs[j] := by rw [List.getD_eq_getElem?_getD, List.getElem?_eq_getElem hj]; rfl
    rw [hg, List.take_succ_eq_append_getElem hj, ← List.append_assoc]
    unfold zaQ zaw
    rw [List.map_append]
    exact zdH _ _
   have HEn : Hid (zaQ (qs ++ rs.take rs.length) = zaQ (za2 (os.take (k + 1)))) := by exact (by rw [List.take_of_length_le (Nat.le_refl _), hst] : zaQ (qs ++ rs.take rs.length) = zaQ (za2 (os.take (k + 1))))
   have HZ : Hid (ts = zaQ (qs ++ rs.take 0)) := by exact (by rw [List.take_zero, List.append_nil]; exact HM.out : ts = zaQ (qs ++ rs.take 0))
   have HBd : Hid (∀ j, j ≤ rs.length → (zaQ (qs ++ rs.take j)).length ≤ 1000) := fun j hj => by
    have h1 := zcp (zaw (qs ++ rs.take j))
    have h2 : (zaw (qs ++ rs.take j)).length ≤ 72 := by unfold zaw; rw [List.length_map, List.length_append, List.length_take]; omega
    unfold zaQ; omega
   obtain ⟨m, hm⟩ : ∃ m, rs.length = m := ⟨_, rfl⟩
   rw [hm] at c2 HF HD2 HTk HEn hle HBd
   clear hst ho hff hqs HM hm d0 d1 d2 hii
   go_wp2
   go_loopw [3, 5] (fun vv jv wx => ∃ (j g c : Nat) (us : List (List UInt8)), jv = .int .i64 (j : Int) ∧ j ≤ m ∧ vv = .slice (some ⟨g, 0, none⟩) us.length c ∧ Hid (us = zaQ (qs ++ rs.take j)) ∧ Hid (wx.ownsRow w.heap.size 9 1 (.slice (some ⟨g, 0, none⟩) us.length c) us.length (strV us) ∧ Below w.heap.size w wx)) (fun _ jv _ => m - (intOf jv).toNat)
   case atStart => exact ⟨0, g, c, ts, rfl, Nat.zero_le _, rfl, HZ, HX⟩
   case round =>
    clear HX c2 HZ
    obtain ⟨j, g, c, us, rfl, hj, rfl, HM, HX⟩ := hrel
    have c2 := (HX.out.2.cell (p := ⟨b, off + k * 3 + 2, none⟩) hbl).trans HD2.out
    by_cases hjm : (j : Int) < (m : Int)
    ·
     obtain ⟨b2, off2, rfl, hbl2, e0, _⟩ := (HF.out.below HX.out.2).2 j (by omega)
     have hst := HTk.out j (by omega)
     have hbd := HBd.out j (by omega)
     rw [← HM.out] at hst hbd
     obtain ⟨rn, hrn⟩ : ∃ rn, (rs.getD j rt0).1 = rn := ⟨_, rfl⟩
     rw [hrn] at hst e0
     have HC : Hid (_) := ziX w.heap.size g c us rn wr HX.out.1 HX.out.2.size (by omega)
     have HSt : Hid (zaQ (qs ++ rs.take (j + 1)) = put8 us rn) := hst
     have HB : Hid (Below w.heap.size w wr) := HX.out.2
     clear hst hrn HX HM
     go_wp2_with fail
     refine Calls.mono HC.out ?_
     rintro e w1 ⟨g1, c1, rfl, hr1, hb1⟩
     have HX2 : Hid (w1.ownsRow w.heap.size 9 1 (.slice (some ⟨g1, 0, none⟩) (put8 us rn).length c1) (put8 us rn).length (strV (put8 us rn)) ∧ Below w.heap.size w w1) := ⟨hr1, HB.out.trans (hb1.mono HB.out.size)⟩
     clear hr1 hb1 HC
     generalize put8 us rn = vs at HX2 HSt
     go_wp2
     go_roundw
     case rel => exact ⟨j + 1, g1, c1, vs, by go_num, by omega, rfl, HSt.out.symm, HX2⟩
     case measure => simp [intOf]; omega
    ·
     obtain rfl : j = m := by omega
     have HM2 : Hid (us = zaQ (za2 (os.take (k + 1)))) := by exact (by rw [← HEn.out]; exact HM.out : us = zaQ (za2 (os.take (k + 1))))
     go_wp2
     go_roundw
     case rel => exact ⟨k + 1, g, c, us, by go_num, by omega, rfl, HM2, HX⟩
     case measure => simp [intOf]; omega
  ·
   obtain rfl : k = len := by omega
   have HM2 : Hid (ts = zaQ (za2 os)) := by exact (by rw [← HAll.out]; exact HM.out : ts = zaQ (za2 os))
   go_wp2
   go_ret
   exact ⟨g, c, by rw [← HM2.out]; rfl, by rw [← HM2.out]; exact HX.out.1, HX.out.2⟩
set_option maxHeartbeats 2000000 in
set_option maxRecDepth 100000 in
theorem zgU (a : Option Addr) (len cap : Nat) (os : List Ob) (w : World) (hin : zc1 w a len os) (hlen : len ≤ 1048576) (hsh : zdl os) :
 Calls Tryz.prog 12 #[.slice a len cap] w fun e w' => ∃ g c, e = .returned (.slice (some ⟨g, 0, none⟩) (zau os).length c) ∧ w'.ownsRow w.heap.size 9 1 (.slice (some ⟨g, 0, none⟩) (zau os).length c) (zau os).length (strV (zau os)) ∧ Below w.heap.size w w' := by
 have HC : Hid (_) := zfk a len cap os w hin hlen hsh
 rcases hB : zb1 os with _ | _
 ·
  have HV : Hid (zau os = []) := by exact (by unfold zau; rw [hB]; rfl : zau os = [])
  rw [hB] at HC
  clear hin hsh hB
  go_enter Tryz.func12, Tryz.ntmps12
  go_wp2_with fail
  refine Calls.mono HC.out ?_
  rintro e w1 ⟨rfl, hb1⟩
  have HR : Hid ((w1.alloc (.cells #[] 9)).ownsRow w.heap.size 9 1 (.slice (some ⟨w1.heap.size, 0, none⟩) 0 0) 0 (strV []) ∧ Below w.heap.size w (w1.alloc (.cells #[] 9))) := ⟨World.ownsRow_lit w1 #[] 0 hb1.size (by decide) rfl, hb1.alloc hb1.size _⟩
  clear hb1 HC
  go_wp2
  go_ret
  rw [HV.out]
  exact ⟨_, _, rfl, HR.out.1, HR.out.2⟩
 ·
  have HV : Hid (zau os = zaQ (za2 os)) := by exact (by unfold zau; rw [if_pos hB] : zau os = zaQ (za2 os))
  have HD : Hid (∀ X, Below w.heap.size w X → Calls Tryz.prog 30 #[.slice a len cap] X fun e w' => ∃ g c, e = .returned (.slice (some ⟨g, 0, none⟩) (zaQ (za2 os)).length c) ∧ w'.ownsRow X.heap.size 9 1 (.slice (some ⟨g, 0, none⟩) (zaQ (za2 os)).length c) (zaQ (za2 os)).length (strV (zaQ (za2 os))) ∧ Below X.heap.size X w') := fun X hX => zel a len cap os X (hin.below hX) hB
  rw [hB] at HC
  rw [HV.out]
  clear hin hsh hB
  generalize zaQ (za2 os) = ts at HD ⊢
  go_enter Tryz.func12, Tryz.ntmps12
  go_wp2_with fail
  refine Calls.mono HC.out ?_
  rintro e w1 ⟨rfl, hb1⟩
  have HC2 : Hid (_) := HD.out w1 hb1
  have HB1 : Hid (Below w.heap.size w w1) := hb1
  clear HC HD hb1
  go_wp2_with fail
  refine Calls.mono HC2.out ?_
  rintro e w2 ⟨g, c, rfl, hr2, hb2⟩
  have HR : Hid (w2.ownsRow w.heap.size 9 1 (.slice (some ⟨g, 0, none⟩) ts.length c) ts.length (strV ts) ∧ Below w.heap.size w w2) := ⟨zai hr2 HB1.out.size, HB1.out.trans (hb2.mono HB1.out.size)⟩
  clear HC2 hr2 hb2 HB1
  go_wp2
  go_ret
  exact ⟨g, c, rfl, HR.out.1, HR.out.2⟩
end Go.Proofs.YtenaaneckobdpaaGreat
