/-
  Plain facts for FnTorn: frames one behind the other, whatever the last one lost.
-/
import Derived.Test.YtdjbcjmnegjndaaMath2G
namespace Go.Proofs.Ytdjbcjmnegjndaa

def catF : List (List UInt8) → List UInt8
  | [] => []
  | t :: r => framedL t ++ catF r

theorem catF_len (ts : List (List UInt8)) : (catF ts).length = framesU ts := by
  induction ts with
  | nil => rfl
  | cons t r ih => simp only [catF, framesU, List.length_append, framedL_len, ih]

theorem catF_snoc (ts : List (List UInt8)) (t : List UInt8) : catF (ts ++ [t]) = catF ts ++ framedL t := by
  induction ts with
  | nil => simp [catF]
  | cons a r ih => simp only [List.cons_append, catF, ih, List.append_assoc]

def shortF (ts : List (List UInt8)) : Prop := ∀ t ∈ ts, t.length ≤ 20000

/-- Whole frames are read one by one. -/
theorem framesGo_cat (ts : List (List UInt8)) (hs : shortF ts) (k : Nat) (hk : ts.length ≤ k) (r : List UInt8) : framesGo k (catF ts ++ r) = ts ++ framesGo (k - ts.length) r := by
  induction ts generalizing k with
  | nil => simp [catF]
  | cons t q ih =>
    obtain ⟨j, rfl⟩ : ∃ j, k = j + 1 := ⟨k - 1, by simp only [List.length_cons] at hk; omega⟩
    have hf := first_framed t (hs t List.mem_cons_self) (catF q ++ r)
    simp only [catF, List.append_assoc]
    rw [framesGo_yes j _ hf.1, hf.2.1, List.drop_left' (framedL_len t), ih (fun x hx => hs x (List.mem_cons_of_mem _ hx)) j (by simp only [List.length_cons] at hk; omega)]
    simp only [List.cons_append, List.length_cons, Nat.add_sub_add_right]

/-- What is read are whole frames, and they are the text's beginning. -/
theorem framesGo_is (k : Nat) (l : List UInt8) : shortF (framesGo k l) ∧ l = catF (framesGo k l) ++ l.drop (framesU (framesGo k l)) := by
  induction k generalizing l with
  | zero => exact ⟨(fun t h => by cases h), by simp [framesGo, catF, framesU]⟩
  | succ k ih =>
    rcases hb : firstB l with _ | _
    · rw [framesGo_no _ _ hb]; exact ⟨(fun t h => by cases h), by simp [catF, framesU]⟩
    · rw [framesGo_yes k l hb]
      have hf := first_is l hb
      have hi := ih (l.drop (16 + (firstT l).length))
      refine ⟨?_, ?_⟩
      · intro t ht
        rcases List.mem_cons.1 ht with e | ht
        · rw [e]; exact hf.1
        · exact hi.1 t ht
      · conv => lhs; rw [hf.2.2]
        simp only [catF, framesU, List.append_assoc]
        congr 1
        conv => lhs; rw [hi.2]
        rw [List.drop_drop]

/-- A frame that lost its end is none. -/
theorem first_cut (l : List UInt8) (hl : l.length ≤ 20000) (k : Nat) (hk : k < 16 + l.length) : firstB ((framedL l).take k) = false := by
  rcases hb : firstB ((framedL l).take k) with _ | _
  · rfl
  · have hf := first_is _ hb
    have hfit := first_fits _ hb
    have hlen := framedL_len l
    have e1 : ((framedL l).take k).length = k := by rw [List.length_take]; omega
    rw [e1] at hfit
    have e3 : ((framedL l).take k).take 8 = hexL l.length := by
      rw [List.take_take, Nat.min_eq_left (by omega)]; exact framed_8 l
    have e4 : ((framedL l).take k).take 8 = hexL (firstT ((framedL l).take k)).length := by
      conv => lhs; rw [hf.2.2]
      rw [List.take_append_of_le_length (by rw [framedL_len]; omega)]
      exact framed_8 _
    rw [e3] at e4
    have := hexL_inj _ _ (by omega) (by have := hf.1; omega) e4
    omega

/-- The last frame is cut: all ahead of it stay. -/
theorem frames_torn (ts : List (List UInt8)) (t : List UInt8) (hs : shortF (ts ++ [t])) (hk : ts.length ≤ 399) (c : Nat) (hc0 : 0 < c) (hc : c ≤ 16 + t.length) :
    framesL ((catF (ts ++ [t])).take (framesU (ts ++ [t]) - c)) = ts := by
  have hst : shortF ts := fun x hx => hs x (List.mem_append_left _ hx)
  have ht : t.length ≤ 20000 := hs t (List.mem_append_right _ (List.mem_singleton.2 rfl))
  have e : (catF (ts ++ [t])).take (framesU (ts ++ [t]) - c) = catF ts ++ (framedL t).take (16 + t.length - c) := by
    rw [catF_snoc, framesU_snoc, List.take_append, catF_len, List.take_of_length_le (by rw [catF_len]; omega)]
    congr 2
    omega
  unfold framesL
  rw [e, framesGo_cat ts hst 400 (by omega), framesGo_no _ _ (first_cut t ht _ (by omega)), List.append_nil]

/-- One frame more behind. -/
theorem frames_more (ts : List (List UInt8)) (t : List UInt8) (hs : shortF ts) (ht : t.length ≤ 20000) (hk : ts.length ≤ 399) : framesL (catF ts ++ framedL t) = ts ++ [t] := by
  have hst : shortF (ts ++ [t]) := fun x hx => by
    rcases List.mem_append.1 hx with h | h
    · exact hs x h
    · rw [List.mem_singleton.1 h]; exact ht
  have h := framesGo_cat (ts ++ [t]) hst 400 (by rw [List.length_append, List.length_singleton]; omega) []
  rw [List.append_nil, catF_snoc, framesGo_no _ [] (by decide +kernel), List.append_nil] at h
  exact h

theorem frames_is (l : List UInt8) : shortF (framesL l) ∧ l.take (framesU (framesL l)) = catF (framesL l) ∧ framesU (framesL l) ≤ l.length := by
  have h := framesGo_is 400 l
  have e := congrArg List.length h.2
  rw [List.length_append, catF_len] at e
  refine ⟨h.1, ?_, by unfold framesL; omega⟩
  conv => lhs; arg 2; rw [h.2]
  exact List.take_left' (catF_len _)

theorem frames_few (ts : List (List UInt8)) : 16 * ts.length ≤ framesU ts := by
  induction ts with
  | nil => exact Nat.le_refl _
  | cons t r ih => simp only [List.length_cons, framesU]; omega

theorem take_getD {α : Type} (fs : List α) (k : Nat) (d : α) (h : k < fs.length) : fs.take (k + 1) = fs.take k ++ [fs.getD k d] := by
  rw [List.take_succ_eq_append_getElem h, List.getD_eq_getElem?_getD, List.getElem?_eq_getElem h]; rfl

theorem catF_take (fs : List (List UInt8)) (k : Nat) (h : k < fs.length) : catF (fs.take (k + 1)) = catF (fs.take k) ++ framedL (fs.getD k []) := by
  rw [take_getD fs k [] h, catF_snoc]

theorem framesU_append (a b : List (List UInt8)) : framesU (a ++ b) = framesU a + framesU b := by
  induction a with
  | nil => simp [framesU]
  | cons t r ih => simp only [List.cons_append, framesU, ih]; omega

theorem framesU_take (fs : List (List UInt8)) (k : Nat) : framesU (fs.take k) ≤ framesU fs := by
  have h := framesU_append (fs.take k) (fs.drop k)
  rw [List.take_append_drop] at h
  omega

theorem shortF_getD (fs : List (List UInt8)) (h : shortF fs) (k : Nat) : (fs.getD k []).length ≤ 20000 := by
  rw [List.getD_eq_getElem?_getD]
  rcases hx : fs[k]? with _ | x
  · simp
  · exact h x (List.mem_of_getElem? hx)

end Go.Proofs.Ytdjbcjmnegjndaa
