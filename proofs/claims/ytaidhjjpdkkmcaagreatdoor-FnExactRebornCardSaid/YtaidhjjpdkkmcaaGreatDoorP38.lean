/-
  Parts of one proof, one behind the other: TkM2, DkB, NewM, Math18B, Math18R, Math18C, Math18D, LendS, RetS.
-/
import Derived.Test.YtaidhjjpdkkmcaaGreatDoorP37
import Derived.Test.YtaidhjjpdkkmcaaGreatDoorP31
import Derived.Test.YtaidhjjpdkkmcaaGreatDoorP29
import Derived.Test.YtaidhjjpdkkmcaaGreatDoorP36
import Derived.Test.YtaidhjjpdkkmcaaGreatDoorP1
import Derived.Test.YtaidhjjpdkkmcaaGreatDoorP28
import Derived.Test.YtaidhjjpdkkmcaaGreatDoorP33
import Derived.Test.YtaidhjjpdkkmcaaGreatDoorP32
import Derived.Test.YtaidhjjpdkkmcaaGreatDoorP4
import Derived.Deep.RegionHeld3
import Derived.Test.YtaidhjjpdkkmcaaGreatDoorP3
import Derived.Test.YtaidhjjpdkkmcaaGreatDoorP2

/-! A desk's marks, also where it has no task at all (nil). -/
namespace Go.Proofs.YtaidhjjpdkkmcaaGreatDoor
open Go.RowKit

set_option maxHeartbeats 1000000 in
set_option maxRecDepth 100000 in
theorem markTaskN (w : World) (k0 : Nat) : Calls Tryz.prog 30 #[.slice none 0 0, .int .i64 k0] w fun e w' => e = .returned (.int .i64 (k0 : Int)) ∧ w' = w := by
 go_enter Tryz.func30, Tryz.ntmps30
 go_wp2
 go_loopw [1, 5] (fun k i wr => k = .int .i64 (k0 : Int) ∧ i = .int .i64 0 ∧ wr = w) (fun _ _ _ => 0)
 case atStart => exact ⟨rfl, rfl, rfl⟩
 case round =>
  obtain ⟨rfl, rfl, rfl⟩ := hrel
  go_wp2
  go_ret
  exact ⟨rfl, rfl⟩
set_option maxHeartbeats 1000000 in
set_option maxRecDepth 100000 in
theorem heldTaskN (w : World) (k0 : Nat) : Calls Tryz.prog 31 #[.slice none 0 0, .int .i64 k0] w fun e w' => e = .returned (.int .i64 (k0 : Int)) ∧ w' = w := by
 go_enter Tryz.func31, Tryz.ntmps31
 go_wp2
 go_loopw [1, 5] (fun k i wr => k = .int .i64 (k0 : Int) ∧ i = .int .i64 0 ∧ wr = w) (fun _ _ _ => 0)
 case atStart => exact ⟨rfl, rfl, rfl⟩
 case round =>
  obtain ⟨rfl, rfl, rfl⟩ := hrel
  go_wp2
  go_ret
  exact ⟨rfl, rfl⟩
theorem markTaskV (w : World) (base k0 : Nat) (v : Value) (xs : List TV) (hn : xs.length ≤ 1100000) (hk0 : 0 < k0) (hk1 : tend k0 xs ≤ 30000000) (hls : ∀ x ∈ xs, x.1.2.1.length ≤ 1100000) (hap : ApartR (xs.map tvT)) (h : TksOwn w base v xs) :
 Calls Tryz.prog 30 #[v, .int .i64 k0] w fun e w' => e = .returned (.int .i64 ((tend k0 xs : Nat) : Int)) ∧ TksOwn w' base v (tmark k0 xs) ∧ WroteR w w' (TkBlocks v xs) := by
 rcases own_forms h.row with ⟨rfl, h0, _⟩ | ⟨g, cp, rfl⟩
 ·
  obtain rfl : xs = [] := List.eq_nil_of_length_eq_zero h0
  refine (markTaskN w k0).mono ?_
  rintro e w' ⟨rfl, rfl⟩
  exact ⟨rfl, TksOwn.nil _ _, WroteR.refl _ _⟩
 ·
  exact markTaskSC w base g cp k0 xs hn hk0 hk1 hls hap h
theorem heldTaskV (w : World) (base k0 : Nat) (v : Value) (xs : List TV) (hn : xs.length ≤ 1100000) (hk0 : 0 < k0) (hk1 : tend k0 xs ≤ 30000000) (hls : ∀ x ∈ xs, x.1.2.1.length ≤ 1100000) (h : TksOwn w base v (tmark k0 xs)) :
 Calls Tryz.prog 31 #[v, .int .i64 k0] w fun e w' => e = .returned (.int .i64 ((tend k0 xs : Nat) : Int)) ∧ w.grownBy w' none := by
 have hrow := h.row
 rw [tmark_len] at hrow
 rcases own_forms hrow with ⟨rfl, h0, _⟩ | ⟨g, cp, rfl⟩
 ·
  obtain rfl : xs = [] := List.eq_nil_of_length_eq_zero h0
  refine (heldTaskN w k0).mono ?_
  rintro e w' ⟨rfl, rfl⟩
  exact ⟨rfl, World.grownBy.refl _ _⟩
 ·
  exact heldTaskSC w base g cp k0 xs hn hk0 hk1 hls h

set_option maxHeartbeats 1000000 in
set_option maxRecDepth 100000 in
theorem markDeskV (w : World) (base k0 : Nat) (v v1 v2 v3 : Value) (xs : List TV) (hn : xs.length ≤ 1100000) (hk0 : 0 < k0) (hk1 : tend k0 xs ≤ 30000000) (hls : ∀ x ∈ xs, x.1.2.1.length ≤ 1100000) (hap : ApartR (xs.map tvT)) (h : TksOwn w base v xs) :
 Calls Tryz.prog 11 #[.agg #[v, v1, v2, v3], .int .i64 k0] w fun e w' => e = .returned (.int .i64 ((tend k0 xs : Nat) : Int)) ∧ TksOwn w' base v (tmark k0 xs) ∧ WroteR w w' (TkBlocks v xs) := by
 obtain ⟨D, hD⟩ : ∃ D, w.heap.size = D := ⟨_, rfl⟩
 obtain ⟨W, hW⟩ : ∃ W, w.alloc (.cells #[v, v1, v2, v3] 26) = W := ⟨_, rfl⟩
 have bD := B4.new w v v1 v2 v3 26
 rw [hW, hD] at bD
 have hbW : Below w.heap.size w W := by rw [← hW]; exact (Below.refl _ _).alloc (Nat.le_refl _) _
 have HC : Hid (_) := markTaskV W base k0 v xs hn hk0 hk1 hls hap (h.below hbW)
 have HB : Hid (Below w.heap.size w W) := hbW
 have k0c := bD.c0
 clear h hbW hap hls bD
 go_enter Tryz.func11, Tryz.ntmps11
 go_wp2_with fail
 refine Calls.mono HC.out ?_
 rintro e w1 ⟨rfl, ho, hw⟩
 have HF : Hid (TksOwn w1 base v (tmark k0 xs) ∧ WroteR w w1 (TkBlocks v xs)) := ⟨ho, (WroteR.of_below HB.out).trans hw⟩
 clear ho hw HC
 go_wp2
 go_ret
 exact ⟨rfl, HF.out⟩
set_option maxHeartbeats 1000000 in
set_option maxRecDepth 100000 in
theorem heldDeskV (w : World) (base k0 : Nat) (v v1 v2 v3 : Value) (xs : List TV) (hn : xs.length ≤ 1100000) (hk0 : 0 < k0) (hk1 : tend k0 xs ≤ 30000000) (hls : ∀ x ∈ xs, x.1.2.1.length ≤ 1100000) (h : TksOwn w base v (tmark k0 xs)) :
 Calls Tryz.prog 12 #[.agg #[v, v1, v2, v3], .int .i64 k0] w fun e w' => e = .returned (.int .i64 ((tend k0 xs : Nat) : Int)) ∧ w.grownBy w' none := by
 obtain ⟨D, hD⟩ : ∃ D, w.heap.size = D := ⟨_, rfl⟩
 obtain ⟨W, hW⟩ : ∃ W, w.alloc (.cells #[v, v1, v2, v3] 26) = W := ⟨_, rfl⟩
 have bD := B4.new w v v1 v2 v3 26
 rw [hW, hD] at bD
 have hbW : Below w.heap.size w W := by rw [← hW]; exact (Below.refl _ _).alloc (Nat.le_refl _) _
 have HC : Hid (_) := heldTaskV W base k0 v xs hn hk0 hk1 hls (h.below hbW)
 have HB : Hid (w.grownBy W none) := by rw [← hW]; exact World.grownBy_alloc w _ _
 have hge : ¬ ((tend k0 xs : Nat) : Int) < 0 := by omega
 have k0c := bD.c0
 generalize tend k0 xs = z at HC hge ⊢
 clear h hbW hls hk1 bD
 go_enter Tryz.func12, Tryz.ntmps12
 go_wp2_with fail
 refine Calls.mono HC.out ?_
 rintro e w1 ⟨rfl, hg⟩
 have HG : Hid (w.grownBy w1 none) := HB.out.trans hg
 clear HC hg
 go_wp2
 go_ret
 exact ⟨rfl, HG.out⟩

end Go.Proofs.YtaidhjjpdkkmcaaGreatDoor

/-! How great the desks are that chapter 18's functions hand out. -/
namespace Go.Proofs.YtaidhjjpdkkmcaaGreatDoor
open Go.RowKit

end Go.Proofs.YtaidhjjpdkkmcaaGreatDoor

/-! How great the new desk's tasks are. -/
namespace Go.Proofs.YtaidhjjpdkkmcaaGreatDoor
open Go.RowKit

theorem tend_nine {xs : List TV} {n : Nat} (hl : xs.length = n) (h9 : n ≤ 9) (h : ∀ x ∈ xs, x.1.2.1.length ≤ 1048576) : tend 1 xs ≤ 30000000 := by
 have key : ∀ (l : List TV) (k : Nat), (∀ x ∈ l, x.1.2.1.length ≤ 1048576) → tend k l ≤ k + l.length * 1048581 := by
  intro l
  induction l with
  | nil => intro k _; simp [tend]
  | cons x r ih =>
   intro k hk
   have h1 := hk x (List.mem_cons.2 (Or.inl rfl))
   have h2 := ih (k + 5 + x.1.2.1.length) (fun y hy => hk y (List.mem_cons.2 (Or.inr hy)))
   simp only [tend, List.length_cons]
   omega
 have := key xs 1 h
 omega

end Go.Proofs.YtaidhjjpdkkmcaaGreatDoor

/-! Plain facts of chapter 18: a journal is done again. -/
namespace Go.Proofs.YtaidhjjpdkkmcaaGreatDoor

/-- What lies ahead of the place where some frames end is these frames. -/
theorem framesGo_pre : ∀ (n : Nat) (l : List UInt8) (j : Nat), l.take (framesU ((framesGo n l).take j)) = (((framesGo n l).take j).map framedL).flatten
 | 0, l, j => by simp [framesGo, framesU]
 | n + 1, l, 0 => by simp [framesU]
 | n + 1, l, j + 1 => by
  rcases hb : firstB l with _ | _
  ·
   rw [framesGo_no _ _ hb]; simp [framesU]
  ·
   rw [framesGo_yes _ _ hb, List.take_succ_cons, List.map_cons, List.flatten_cons, framesU]
   have hf := first_is l hb
   have ih := framesGo_pre n (l.drop (16 + (firstT l).length)) j
   have hl := framedL_len (firstT l)
   rw [← ih]
   generalize framesU ((framesGo n (l.drop (16 + (firstT l).length))).take j) = u
   have he := hf.2.2
   clear hf ih hb
   generalize firstT l = t at he hl ⊢
   generalize hr : l.drop (16 + t.length) = r at he ⊢
   rw [he, List.take_append, hl, List.take_of_length_le (by rw [hl]; omega), show 16 + t.length + u - (16 + t.length) = u by omega]
theorem frames_pre (l : List UInt8) (j : Nat) : l.take (framesU ((framesL l).take j)) = (((framesL l).take j).map framedL).flatten := framesGo_pre 400 l j

/-- A number that is written has no blank. -/
theorem intL_noblank {a : Int} (h0 : -2147483648 ≤ a) (h1 : a ≤ 2147483647) : ∀ c ∈ intL a, c ≠ 32 := by
 have h := (readB_iff.1 (read_of_int a h0 h1).1).2.1
 intro c hc e
 subst e
 unfold bodyL at h
 split at h
 ·
  rename_i hn
  unfold negB at hn
  rcases hi : intL a with _ | ⟨d, r⟩
  ·
   rw [hi] at hc; cases hc
  ·
   rw [hi] at hc hn h
   rcases List.mem_cons.1 hc with e | e
   ·
    subst e
    simp at hn
   ·
    have := h 32 e
    unfold isDig at this
    revert this; decide
 ·
  have := h 32 hc
  unfold isDig at this
  revert this; decide
def startW : List UInt8 := [115, 116, 97, 114, 116]
def doneW : List UInt8 := [100, 111, 110, 101]
/-- The text of a start, read word by word. -/
def isStart (f : List UInt8) (n : Int) : Prop := ∃ w, splitL 32 f = [startW, w] ∧ readB w = true ∧ readV w = n
theorem isStart_iff {f : List UInt8} {n : Int} (h0 : -2147483648 ≤ n) (h1 : n ≤ 2147483647) : isStart f n ↔ f = startW ++ 32 :: intL n := by
 constructor
 ·
  rintro ⟨w, hs, hb, hv⟩
  have hj := joinBy_split 32 f []
  rw [show splitGo 32 [] f = [startW, w] from hs] at hj
  have hi : intL n = w := by
   rw [← hv]
   have hr := read_int w hb
   unfold intL
   split
   ·
    rename_i h; exact hr.2 h
   ·
    rename_i h; exact hr.1 (by omega)
  rw [joinBy_cons _ _ _ (by simp)] at hj
  rw [hi]
  simpa [joinBy] using hj.symm
 ·
  intro e
  obtain ⟨hb, hv⟩ := read_of_int n h0 h1
  refine ⟨intL n, ?_, hb, hv⟩
  rw [e, show startW ++ 32 :: intL n = joinBy 32 [startW, intL n] by rw [joinBy_cons _ _ _ (by simp)]; simp [joinBy]]
  refine split_join 32 _ (by simp) (fun x hx => ?_)
  simp only [List.mem_cons, List.not_mem_nil, or_false] at hx
  rcases hx with rfl | rfl
  ·
   decide
  ·
   exact intL_noblank h0 h1
/-- The text of a task that is done, read word by word. -/
def isDone (f : List UInt8) (k key : Int) : Prop := ∃ w u, splitL 32 f = [doneW, w, u] ∧ (readB w = true ∧ readV w = k) ∧ (readB u = true ∧ readV u = key)
theorem isDone_iff {f : List UInt8} {k key : Int} (h0 : -2147483648 ≤ k) (h1 : k ≤ 2147483647) (h2 : -2147483648 ≤ key) (h3 : key ≤ 2147483647) : isDone f k key ↔ f = doneW ++ 32 :: (intL k ++ 32 :: intL key) := by
 have hread : ∀ (w : List UInt8) (n : Int), readB w = true → readV w = n → intL n = w := by
  intro w n hb hv
  rw [← hv]
  have hr := read_int w hb
  unfold intL
  split
  ·
   rename_i h; exact hr.2 h
  ·
   rename_i h; exact hr.1 (by omega)
 constructor
 ·
  rintro ⟨w, u, hs, ⟨hb, hv⟩, ⟨hc, hu⟩⟩
  have hj := joinBy_split 32 f []
  rw [show splitGo 32 [] f = [doneW, w, u] from hs] at hj
  rw [joinBy_cons _ _ _ (by simp), joinBy_cons _ _ _ (by simp)] at hj
  rw [hread w k hb hv, hread u key hc hu]
  simpa [joinBy] using hj.symm
 ·
  intro e
  obtain ⟨hb, hv⟩ := read_of_int k h0 h1
  obtain ⟨hc, hu⟩ := read_of_int key h2 h3
  refine ⟨intL k, intL key, ?_, ⟨hb, hv⟩, ⟨hc, hu⟩⟩
  rw [e, show doneW ++ 32 :: (intL k ++ 32 :: intL key) = joinBy 32 [doneW, intL k, intL key] by rw [joinBy_cons _ _ _ (by simp), joinBy_cons _ _ _ (by simp)]; simp [joinBy]]
  refine split_join 32 _ (by simp) (fun x hx => ?_)
  simp only [List.mem_cons, List.not_mem_nil, or_false] at hx
  rcases hx with rfl | rfl | rfl
  ·
   decide
  ·
   exact intL_noblank h0 h1
  ·
   exact intL_noblank h2 h3

end Go.Proofs.YtaidhjjpdkkmcaaGreatDoor

/-! Plain facts of chapter 18: what came back (Returned). -/
namespace Go.Proofs.YtaidhjjpdkkmcaaGreatDoor
open Go.RowKit

/-- 'done', the task's number, its key. -/
def doneT (k key : Int) : List UInt8 := (([100, 111, 110, 101, 32] ++ intL k) ++ [32]) ++ intL key
def lineR (k key : Int) : List UInt8 := framedS (doneT k key)
theorem intL_len64 {n : Int} (h0 : -9223372036854775808 ≤ n) (h1 : n ≤ 9223372036854775807) : (intL n).length ≤ 21 := by
 have h := digL_len 19 n.natAbs (by omega)
 unfold intL
 split
 ·
  simp only [List.length_cons]; omega
 ·
  omega
theorem doneT_len {k key : Int} (h0 : -9223372036854775808 ≤ k) (h1 : k ≤ 9223372036854775807) (h2 : -9223372036854775808 ≤ key) (h3 : key ≤ 9223372036854775807) : (doneT k key).length ≤ 100 := by
 have a := intL_len64 h0 h1
 have b := intL_len64 h2 h3
 unfold doneT
 simp only [List.length_append, List.length_cons, List.length_nil]
 omega
theorem lineR_len {k key : Int} (h0 : -9223372036854775808 ≤ k) (h1 : k ≤ 9223372036854775807) (h2 : -9223372036854775808 ≤ key) (h3 : key ≤ 9223372036854775807) : (lineR k key).length ≤ 1000 := by
 have a := doneT_len h0 h1 h2 h3
 unfold lineR
 rw [framedS_yes _ (by omega)]
 have h8 : ∀ n, (hexL n).length = 8 := fun _ => rfl
 unfold framedL
 simp only [List.length_append, h8]
 omega
def retCode (d : Dk) (k e key : Int) : Int :=
 if (k < 0 ∨ (d.1.length : Int) ≤ k) ∨ key18 key = false then 3
 else if 60000 < d.2.2.2.length + (lineR k key).length then 3
 else if e ≠ d.2.1 then 1
 else if (d.1.getD k.toNat ta0).2.2.1 = 2 then 2
 else if free18 d.1 (d.1.getD k.toNat ta0) = false then 4 else 0
def done18 (t : Ta) (key : Int) : Ta := (t.1, t.2.1, 2, 0, 0, key)
def ret18 (d : Dk) (k e key : Int) : Dk × Int :=
 if retCode d k e key = 0 then ((d.1.set k.toNat (done18 (d.1.getD k.toNat ta0) key), d.2.1, d.2.2.1, d.2.2.2 ++ lineR k key), 0) else (d, retCode d k e key)
def returnedV (d : Dk) (k e key : Int) : Dk × Int := if deskB d = true then ret18 d k e key else (dk0, 3)
end Go.Proofs.YtaidhjjpdkkmcaaGreatDoor

/-! Plain facts of chapter 18: what Reborn answers. -/
namespace Go.Proofs.YtaidhjjpdkkmcaaGreatDoor

/-- One frame of a journal, done again. -/
def okDone (ts : List Ta) (f : List UInt8) (k key : Int) : Prop :=
 f = doneT k key ∧ (0 ≤ k ∧ k < (ts.length : Int)) ∧ key18 key = true ∧ (ts.getD k.toNat ta0).2.2.1 ≠ 2 ∧ free18 ts (ts.getD k.toNat ta0) = true
instance (ts : List Ta) (f : List UInt8) (k key : Int) : Decidable (okDone ts f k key) := by unfold okDone; infer_instance
noncomputable def numAt (f : List UInt8) (i : Nat) : Int := readV ((splitL 32 f).getD i [])
noncomputable def step18 (ts : List Ta) (last : Int) (f : List UInt8) : Option (List Ta × Int) :=
 if f = startT (last + 1) then some (ts, last + 1)
 else if okDone ts f (numAt f 1) (numAt f 2) then some (ts.set (numAt f 1).toNat (done18 (ts.getD (numAt f 1).toNat ta0) (numAt f 2)), last)
 else none
theorem doneT_words (k key : Int) : doneT k key = doneW ++ 32 :: (intL k ++ 32 :: intL key) := by unfold doneT doneW; simp
theorem startT_words (n : Int) : startT n = startW ++ 32 :: intL n := by unfold startT startW; simp
/-- A done that is right is read as it was written. -/
theorem okDone_nums {ts : List Ta} {f : List UInt8} {k key : Int} (hl : ts.length ≤ 8) (h : okDone ts f k key) : numAt f 1 = k ∧ numAt f 2 = key := by
 obtain ⟨h1, h2, h3, _⟩ := h
 have hk : 0 ≤ key ∧ key ≤ 2147483646 := by unfold key18 inB at h3; exact of_decide_eq_true h3
 obtain ⟨w, u, hs, ⟨_, hv⟩, ⟨_, hu⟩⟩ := (isDone_iff (f := f) (k := k) (key := key) (by omega) (by omega) (by omega) (by omega)).2 (by rw [h1, doneT_words])
 unfold numAt
 rw [hs]
 exact ⟨hv, hu⟩
theorem start_not_done {n k key : Int} : startT n ≠ doneT k key := by
 rw [doneT_words]
 unfold startT doneW
 intro e
 simp at e
theorem step18_start {ts : List Ta} {last : Int} {f : List UInt8} (h : f = startT (last + 1)) : step18 ts last f = some (ts, last + 1) := if_pos h
theorem step18_done {ts : List Ta} {last k key : Int} {f : List UInt8} (hl : ts.length ≤ 8) (h : okDone ts f k key) : step18 ts last f = some (ts.set k.toNat (done18 (ts.getD k.toNat ta0) key), last) := by
 obtain ⟨e1, e2⟩ := okDone_nums hl h
 unfold step18
 rw [if_neg (by rw [h.1]; exact fun e => start_not_done e.symm), e1, e2, if_pos h]
theorem step18_none {ts : List Ta} {last : Int} {f : List UInt8} (h1 : f ≠ startT (last + 1)) (h2 : ∀ k key, ¬ okDone ts f k key) : step18 ts last f = none := by
 unfold step18
 rw [if_neg h1, if_neg (h2 _ _)]

/-- The frames of a journal, done again as long as they are right. -/
noncomputable def againGo : List (List UInt8) → List Ta → Int → Nat → List Ta × Int × Nat
 | [], ts, last, u => (ts, last, u)
 | f :: r, ts, last, u =>
  match step18 ts last f with
  | some p => againGo r p.1 p.2 (u + (16 + f.length))
  | none => (ts, last, u)
theorem againGo_end {fs : List (List UInt8)} {ts : List Ta} {last : Int} {u i : Nat} (hi : fs.length ≤ i) : againGo (fs.drop i) ts last u = (ts, last, u) := by
 rw [List.drop_of_length_le hi]; rfl
theorem againGo_yes {fs : List (List UInt8)} {ts ts' : List Ta} {last last' : Int} {i : Nat} (hi : i < fs.length) (h : step18 ts last (fs.getD i []) = some (ts', last')) :
 againGo (fs.drop i) ts last (framesU (fs.take i)) = againGo (fs.drop (i + 1)) ts' last' (framesU (fs.take (i + 1))) := by
 have hg : fs.getD i [] = fs[i] := by simp [List.getD, hi]
 rw [hg] at h
 rw [List.drop_eq_getElem_cons hi, againGo, h, List.take_succ_eq_append_getElem hi, framesU_snoc]
theorem againGo_no {fs : List (List UInt8)} {ts : List Ta} {last : Int} {u i : Nat} (hi : i < fs.length) (h : step18 ts last (fs.getD i []) = none) : againGo (fs.drop i) ts last u = (ts, last, u) := by
 have hg : fs.getD i [] = fs[i] := by simp [List.getD, hi]
 rw [hg] at h
 rw [List.drop_eq_getElem_cons hi, againGo, h]

/-- What Reborn answers. -/
noncomputable def rebD (ps : List Pk) (jr : List UInt8) : Dk :=
 let r := againGo (framesL jr) (newV ps).1.1 0 0
 (r.1, r.2.1 + 1, 0, jr.take r.2.2 ++ startL (r.2.1 + 1))
noncomputable def rebV (ps : List Pk) (jr : List UInt8) : Dk × Bool := if (newV ps).2 = true ∧ deskB (rebD ps jr) = true then (rebD ps jr, true) else (dk0, false)
theorem step18_len {ts ts' : List Ta} {last last' : Int} {f : List UInt8} (h : step18 ts last f = some (ts', last')) : ts'.length = ts.length ∧ last ≤ last' ∧ last' ≤ last + 1 := by
 unfold step18 at h
 split at h
 ·
  injection h with h; injection h with h1 h2; subst h1; subst h2; exact ⟨rfl, by omega, by omega⟩
 ·
  split at h
  ·
   injection h with h; injection h with h1 h2; subst h1; subst h2; exact ⟨by simp, by omega, by omega⟩
  ·
   cases h
theorem againGo_len : ∀ (fs : List (List UInt8)) (ts : List Ta) (last : Int) (u : Nat), (againGo fs ts last u).1.length = ts.length ∧ last ≤ (againGo fs ts last u).2.1 ∧ (againGo fs ts last u).2.1 ≤ last + fs.length
 | [], ts, last, u => by simp [againGo]
 | f :: r, ts, last, u => by
  rcases hs : step18 ts last f with _ | ⟨ts', l'⟩
  ·
   rw [againGo, hs]
   refine ⟨rfl, Int.le_refl _, by simp only [List.length_cons]; omega⟩
  ·
   have e : againGo (f :: r) ts last u = againGo r ts' l' (u + (16 + f.length)) := by rw [againGo, hs]
   rw [e]
   obtain ⟨h1, h2, h3⟩ := step18_len hs
   obtain ⟨g1, g2, g3⟩ := againGo_len r ts' l' (u + (16 + f.length))
   exact ⟨g1.trans h1, by omega, by simp only [List.length_cons]; omega⟩

end Go.Proofs.YtaidhjjpdkkmcaaGreatDoor

/-! Plain facts of chapter 18: a frame of a journal done again, word by word; how long a journal of right frames is. -/
namespace Go.Proofs.YtaidhjjpdkkmcaaGreatDoor

theorem splitL_len (c : UInt8) (l : List UInt8) : 1 ≤ (splitL c l).length := by
 have : ∀ (l acc : List UInt8), 1 ≤ (splitGo c acc l).length := by
  intro l
  induction l with
  | nil => intro acc; simp [splitGo]
  | cons a r ih =>
   intro acc
   unfold splitGo
   split
   ·
    simp
   ·
    exact ih _
 exact this l []
theorem splitL_part (c : UInt8) (l : List UInt8) (i : Nat) : ((splitL c l).getD i []).length ≤ l.length := by
 by_cases hi : i < (splitL c l).length
 ·
  have hg : (splitL c l).getD i [] = (splitL c l)[i] := by simp [List.getD, hi]
  rw [hg]
  have h1 : ((splitL c l)[i]).length ≤ (splitL c l).flatten.length := by
   have hm := List.getElem_mem hi
   generalize (splitL c l)[i] = x at hm ⊢
   generalize splitL c l = ws at hm ⊢
   clear hi hg
   induction ws with
   | nil => cases hm
   | cons a r ih =>
    rw [List.flatten_cons, List.length_append]
    rcases List.mem_cons.1 hm with e | h
    ·
     subst e; omega
    ·
     have := ih h; omega
  have h2 := splitGo_flat c l []
  have h3 : (splitL c l).flatten.length ≤ l.length := by simpa [splitL] using h2
  omega
 ·
  rw [List.getD_eq_getElem?_getD, List.getElem?_eq_none (by omega)]
  simp
theorem splitL_count (c : UInt8) (l : List UInt8) : (splitL c l).length ≤ l.length + 1 := by
 have : ∀ (l acc : List UInt8), (splitGo c acc l).length ≤ l.length + 1 := by
  intro l
  induction l with
  | nil => intro acc; simp [splitGo]
  | cons a r ih =>
   intro acc
   unfold splitGo
   split
   ·
    have := ih []
    simp only [List.length_cons]
    omega
   ·
    have := ih (acc ++ [a])
    simp only [List.length_cons]
    first | omega | exact Nat.le_succ_of_le (ih _)
 exact this l []
theorem start_read {f : List UInt8} {n : Int} (h0 : -2147483648 ≤ n) (h1 : n ≤ 2147483647) (h : f = startT n) : ∃ w, splitL 32 f = [startW, w] ∧ readB w = true ∧ readV w = n :=
 (isStart_iff h0 h1).2 (by rw [h, startT_words])
theorem done_read {f : List UInt8} {k key : Int} (h0 : -2147483648 ≤ k) (h1 : k ≤ 2147483647) (h2 : -2147483648 ≤ key) (h3 : key ≤ 2147483647) (h : f = doneT k key) : ∃ w u, splitL 32 f = [doneW, w, u] ∧ (readB w = true ∧ readV w = k) ∧ (readB u = true ∧ readV u = key) :=
 (isDone_iff h0 h1 h2 h3).2 (by rw [h, doneT_words])
theorem key18_bd {key : Int} (h : key18 key = true) : 0 ≤ key ∧ key ≤ 2147483646 := by unfold key18 inB at h; exact of_decide_eq_true h

/-- A start is right: its one number is the next. -/
theorem again_start {f : List UInt8} {last : Int} {ws : List (List UInt8)} (hw : splitL 32 f = ws) (h2 : ws.length = 2) (h0 : ws.getD 0 [] = startW) (hb : readB (ws.getD 1 []) = true) (hl0 : 0 ≤ last) (hl1 : last ≤ 1000) (hv : readV (ws.getD 1 []) = last + 1) : f = startT (last + 1) := by
 rw [startT_words]
 refine (isStart_iff (by omega) (by omega)).1 ⟨ws.getD 1 [], ?_, hb, hv⟩
 rw [hw]
 match ws, h2, h0 with
 | [a, b], _, h0 => simp at h0; rw [h0]; rfl
theorem again_done {ts : List Ta} {f : List UInt8} {ws : List (List UInt8)} {k key : Int} (hw : splitL 32 f = ws) (h3 : ws.length = 3) (h0 : ws.getD 0 [] = doneW) (hb : readB (ws.getD 1 []) = true) (hc : readB (ws.getD 2 []) = true) (hk : readV (ws.getD 1 []) = k) (hy : readV (ws.getD 2 []) = key)
 (hi : 0 ≤ k ∧ k < (ts.length : Int)) (h8 : ts.length ≤ 8) (hkey : key18 key = true) (hst : (ts.getD k.toNat ta0).2.2.1 ≠ 2) (hfr : free18 ts (ts.getD k.toNat ta0) = true) : okDone ts f k key := by
 have hkb := key18_bd hkey
 refine ⟨?_, hi, hkey, hst, hfr⟩
 rw [doneT_words]
 refine (isDone_iff (by omega) (by omega) (by omega) (by omega)).1 ⟨ws.getD 1 [], ws.getD 2 [], ?_, ⟨hb, hk⟩, ⟨hc, hy⟩⟩
 rw [hw]
 match ws, h3, h0 with
 | [a, b, c], _, h0 => simp at h0; rw [h0]; rfl
/-- What is no right start and no right done, word by word. -/
structure NotAgain (ts : List Ta) (last : Int) (ws : List (List UInt8)) : Prop where
 st : ∀ w, ws = [startW, w] → readB w = true → readV w = last + 1 → False
 dn : ∀ w u, ws = [doneW, w, u] → readB w = true → readB u = true → 0 ≤ readV w ∧ readV w < (ts.length : Int) → key18 (readV u) = true → (ts.getD (readV w).toNat ta0).2.2.1 ≠ 2 → free18 ts (ts.getD (readV w).toNat ta0) = true → False
theorem again_none {ts : List Ta} {f : List UInt8} {last : Int} {ws : List (List UInt8)} (hw : splitL 32 f = ws) (h8 : ts.length ≤ 8) (hl0 : 0 ≤ last) (hl1 : last ≤ 1000) (h : NotAgain ts last ws) : step18 ts last f = none := by
 refine step18_none (fun e => ?_) (fun k key hd => ?_)
 ·
  obtain ⟨w, h1, h2, h3⟩ := start_read (by omega) (by omega) e
  exact h.st w (hw.symm.trans h1) h2 h3
 ·
  obtain ⟨h1, h2, h3, h4, h5⟩ := hd
  have hkb := key18_bd h3
  obtain ⟨w, u, g1, ⟨g2, g3⟩, ⟨g4, g5⟩⟩ := done_read (by omega) (by omega) (by omega) (by omega) h1
  subst g3 g5
  exact h.dn w u (hw.symm.trans g1) g2 g4 h2 h3 h4 h5
theorem notAgain_num {ts : List Ta} {last : Int} {ws : List (List UInt8)} {i : Nat} (h1 : 1 ≤ i) (hi : i < ws.length) (hb : readB (ws.getD i []) = false) : NotAgain ts last ws := by
 refine ⟨fun w e h _ => ?_, fun w u e h h' _ _ _ _ => ?_⟩
 ·
  subst e
  obtain rfl : i = 1 := by simp at hi; omega
  simp at hb
  rw [h] at hb; cases hb
 ·
  subst e
  simp only [List.length_cons, List.length_nil] at hi
  obtain rfl | rfl : i = 1 ∨ i = 2 := by omega
  ·
   simp at hb; rw [h] at hb; cases hb
  ·
   simp at hb; rw [h'] at hb; cases hb
theorem startW_ne : startW ≠ doneW := by decide
theorem notAgain_start {ts : List Ta} {last : Int} {ws : List (List UInt8)} (h0 : ws.getD 0 [] = startW) (h : ws.length = 2 → readV (ws.getD 1 []) ≠ last + 1) : NotAgain ts last ws := by
 refine ⟨fun w e _ hv => ?_, fun w u e _ _ _ _ _ _ => ?_⟩
 ·
  subst e
  exact h rfl hv
 ·
  subst e
  exact startW_ne h0.symm
theorem notAgain_done {ts : List Ta} {last : Int} {ws : List (List UInt8)} (h0 : ws.getD 0 [] = doneW) (h : ws.length = 3 → 0 ≤ readV (ws.getD 1 []) ∧ readV (ws.getD 1 []) < (ts.length : Int) → key18 (readV (ws.getD 2 [])) = true → (ts.getD (readV (ws.getD 1 [])).toNat ta0).2.2.1 ≠ 2 → free18 ts (ts.getD (readV (ws.getD 1 [])).toNat ta0) = true → False) : NotAgain ts last ws := by
 refine ⟨fun w e _ hv => ?_, fun w u e _ _ h2 h3 h4 h5 => ?_⟩
 ·
  subst e
  exact startW_ne h0
 ·
  subst e
  exact h rfl h2 h3 h4 h5
theorem notAgain_word {ts : List Ta} {last : Int} {ws : List (List UInt8)} (h0 : ws.getD 0 [] ≠ startW) (h1 : ws.getD 0 [] ≠ doneW) : NotAgain ts last ws := by
 refine ⟨fun w e _ _ => ?_, fun w u e _ _ _ _ _ _ => ?_⟩
 ·
  subst e; exact h0 rfl
 ·
  subst e; exact h1 rfl

/-! What the journal's loops hold. -/
/-- The numbers of the words 1 to m. -/
noncomputable def numsW (ws : List (List UInt8)) (m : Nat) : List Int := (List.range m).map fun j => readV (ws.getD (j + 1) [])
theorem numsW_len (ws : List (List UInt8)) (m : Nat) : (numsW ws m).length = m := by simp [numsW]
theorem numsW_snoc (ws : List (List UInt8)) (m : Nat) : numsW ws (m + 1) = numsW ws m ++ [readV (ws.getD (m + 1) [])] := by
 unfold numsW
 rw [List.range_succ, List.map_append]
 rfl
theorem numsW_at (ws : List (List UInt8)) {m j : Nat} (h : j < m) : (numsW ws m).getD j 0 = readV (ws.getD (j + 1) []) := by
 unfold numsW
 rw [List.getD_eq_getElem?_getD, List.getElem?_map, List.getElem?_range h]
 rfl

theorem done18_open {t : Ta} {key : Int} (h : t.2.2.2.1 = 0 ∧ t.2.2.2.2.1 = 0) : done18 t key = (t.1, t.2.1, 2, t.2.2.2.1, t.2.2.2.2.1, key) := by unfold done18; rw [h.1, h.2]

/-- What holds of the tasks as the journal is done again: nobody has a lease; names, needs are as they were. -/
structure Again18 (ts0 ts : List Ta) : Prop where
 len : ts.length = ts0.length
 idle : ∀ j, (ts.getD j ta0).2.2.2.1 = 0 ∧ (ts.getD j ta0).2.2.2.2.1 = 0
 same : ∀ j, (ts.getD j ta0).1 = (ts0.getD j ta0).1 ∧ (ts.getD j ta0).2.1 = (ts0.getD j ta0).2.1
theorem Again18.refl {ts : List Ta} (h : ∀ j, (ts.getD j ta0).2.2.2.1 = 0 ∧ (ts.getD j ta0).2.2.2.2.1 = 0) : Again18 ts ts := ⟨rfl, h, fun _ => ⟨rfl, rfl⟩⟩
theorem Again18.set {ts0 ts : List Ta} (h : Again18 ts0 ts) {i : Nat} (hi : i < ts.length) (key : Int) : Again18 ts0 (ts.set i (done18 (ts.getD i ta0) key)) := by
 refine ⟨by rw [List.length_set]; exact h.len, fun j => ?_, fun j => ?_⟩
 ·
  rw [getD_set18 _ _ _ _ hi]
  split
  ·
   exact ⟨rfl, rfl⟩
  ·
   exact h.idle j
 ·
  rw [getD_set18 _ _ _ _ hi]
  split
  ·
   rename_i e; subst e; exact h.same _
  ·
   exact h.same j
theorem Again18.short {ts0 ts : List Ta} (h : Again18 ts0 ts) (hs : ShortTa ts0) : ShortTa ts := fun j => by
 rw [(h.same j).1, (h.same j).2]; exact hs j
theorem Again18.needs {ts0 ts : List Ta} (h : Again18 ts0 ts) (hn : ∀ p, p < ts0.length → ∀ q, q < (ts0.getD p ta0).2.1.length → 0 ≤ (ts0.getD p ta0).2.1.getD q 0 ∧ (ts0.getD p ta0).2.1.getD q 0 < ts0.length) :
 ∀ p, p < ts.length → ∀ q, q < (ts.getD p ta0).2.1.length → 0 ≤ (ts.getD p ta0).2.1.getD q 0 ∧ (ts.getD p ta0).2.1.getD q 0 < ts.length := fun p hp q hq => by
 rw [(h.same p).2] at hq ⊢
 rw [h.len] at hp ⊢
 exact hn p hp q hq

/-- What has been done again of a journal, after i frames. -/
structure AgainAt (fs : List (List UInt8)) (ts0 ts : List Ta) (last : Int) (i : Nat) : Prop where
 go : againGo fs ts0 0 0 = againGo (fs.drop i) ts last (framesU (fs.take i))
 le : i ≤ fs.length
 ag : Again18 ts0 ts
 l0 : 0 ≤ last
 l1 : last ≤ i
 used : framesU (fs.take i) ≤ 116 * i
theorem AgainAt.zero {fs : List (List UInt8)} {ts0 : List Ta} (h : ∀ j, (ts0.getD j ta0).2.2.2.1 = 0 ∧ (ts0.getD j ta0).2.2.2.2.1 = 0) : AgainAt fs ts0 ts0 0 0 :=
 ⟨by simp [framesU], Nat.zero_le _, Again18.refl h, Int.le_refl _, Int.le_refl _, by simp [framesU]⟩
theorem AgainAt.start {fs : List (List UInt8)} {ts0 ts : List Ta} {last : Int} {i : Nat} (h : AgainAt fs ts0 ts last i) (hi : i < fs.length) (h4 : fs.length ≤ 400) (hf : fs.getD i [] = startT (last + 1)) : AgainAt fs ts0 ts (last + 1) (i + 1) := by
 have h1 := h.l0
 have h2 := h.l1
 have h3 := h.used
 have hg : fs.getD i [] = fs[i] := by simp [List.getD, hi]
 have hl := startT_len (n := last + 1) (by omega) (by omega)
 rw [← hf, hg] at hl
 refine ⟨h.go.trans (againGo_yes hi (step18_start hf)), hi, h.ag, by omega, by omega, ?_⟩
 rw [List.take_succ_eq_append_getElem hi, framesU_snoc]
 omega
theorem AgainAt.done {fs : List (List UInt8)} {ts0 ts : List Ta} {last k key : Int} {i : Nat} (h : AgainAt fs ts0 ts last i) (hi : i < fs.length) (h8 : ts0.length ≤ 8) (hd : okDone ts (fs.getD i []) k key) : AgainAt fs ts0 (ts.set k.toNat (done18 (ts.getD k.toNat ta0) key)) last (i + 1) := by
 have h1 := h.l0
 have h2 := h.l1
 have h3 := h.used
 have hg : fs.getD i [] = fs[i] := by simp [List.getD, hi]
 obtain ⟨d1, d2, d3, _⟩ := id hd
 have hkb := key18_bd d3
 have hln := h.ag.len
 have hl := doneT_len (k := k) (key := key) (by omega) (by omega) (by omega) (by omega)
 rw [← d1, hg] at hl
 refine ⟨h.go.trans (againGo_yes hi (step18_done (by omega) hd)), hi, h.ag.set (by omega) key, h1, by omega, ?_⟩
 rw [List.take_succ_eq_append_getElem hi, framesU_snoc]
 omega
theorem AgainAt.no {fs : List (List UInt8)} {ts0 ts : List Ta} {last : Int} {i : Nat} (h : AgainAt fs ts0 ts last i) (hi : i < fs.length) (hs : step18 ts last (fs.getD i []) = none) : againGo fs ts0 0 0 = (ts, last, framesU (fs.take i)) := h.go.trans (againGo_no hi hs)
theorem AgainAt.stop {fs : List (List UInt8)} {ts0 ts : List Ta} {last : Int} {i : Nat} (h : AgainAt fs ts0 ts last i) (hi : fs.length ≤ i) : againGo fs ts0 0 0 = (ts, last, framesU (fs.take i)) := h.go.trans (againGo_end hi)
/-- The journal of right frames, written again. -/
def wrote18 (fs : List (List UInt8)) (i : Nat) : List UInt8 := ((fs.take i).map framedL).flatten
theorem wrote18_zero (fs : List (List UInt8)) : wrote18 fs 0 = [] := by simp [wrote18]
theorem wrote18_snoc {fs : List (List UInt8)} {i : Nat} (hi : i < fs.length) : wrote18 fs (i + 1) = wrote18 fs i ++ framedL (fs.getD i []) := by
 have hg : fs.getD i [] = fs[i] := by simp [List.getD, hi]
 unfold wrote18
 rw [List.take_succ_eq_append_getElem hi, hg, List.map_append, List.flatten_append, List.map_cons, List.map_nil, List.flatten_cons, List.flatten_nil, List.append_nil]
theorem wrote18_len (fs : List (List UInt8)) (i : Nat) : (wrote18 fs i).length = framesU (fs.take i) := by
 unfold wrote18
 generalize fs.take i = l
 induction l with
 | nil => rfl
 | cons a r ih =>
  rw [List.map_cons, List.flatten_cons, List.length_append, ih, framedL_len, framesU]
theorem wrote18_pre (jr : List UInt8) (i : Nat) : jr.take (framesU ((framesL jr).take i)) = wrote18 (framesL jr) i := frames_pre jr i

end Go.Proofs.YtaidhjjpdkkmcaaGreatDoor

/-! The contracts of chapter 18's specification: l18Free, l18Lend, Lent. -/
namespace Go.Proofs.YtaidhjjpdkkmcaaGreatDoor
open Go.RowKit

set_option maxHeartbeats 2000000 in
set_option maxRecDepth 100000 in
theorem specFree (a : Option Addr) (len cap : Nat) (ts : List Ta) (ep nw : Int) (jr : List UInt8) (p : Nat) (w : World) (hin : TasksIn w a len ts) (hsh : ShortTa ts) (hlen : len ≤ 1048576) (hp : p < len)
 (hnd : ∀ q, q < (ts.getD p ta0).2.1.length → 0 ≤ (ts.getD p ta0).2.1.getD q 0 ∧ (ts.getD p ta0).2.1.getD q 0 < len) :
 Calls Tryz.prog 40 #[.agg #[.slice a len cap, .int .i64 ep, .int .i64 nw, .string ⟨jr.toArray⟩], .int .i64 (p : Int)] w
  fun e w' => e = .returned (.bool (free18 ts (ts.getD p ta0))) ∧ Below w.heap.size w w' := by
 obtain rfl : ts.length = len := hin.1
 obtain ⟨W, hW⟩ : ∃ W, w.alloc (.cells #[.slice a ts.length cap, .int .i64 ep, .int .i64 nw, .string ⟨jr.toArray⟩] 26) = W := ⟨_, rfl⟩
 have hbW : Below w.heap.size w W := by rw [← hW]; exact (Below.refl _ _).alloc (Nat.le_refl _) _
 have hA : W.heap[w.heap.size]? = some (.cells #[.slice a ts.length cap, .int .i64 ep, .int .i64 nw, .string ⟨jr.toArray⟩] 26) := by rw [← hW]; exact heap_alloc_new w _
 obtain ⟨D, hD⟩ : ∃ D, w.heap.size = D := ⟨_, rfl⟩
 rw [hD] at hA
 have k0 : W.cell? ⟨D, 0, none⟩ = some (.slice a ts.length cap) := by simp [World.cell?, hA]
 have hI := hin.below hbW
 have HB : Hid (∀ Z, Below W.heap.size W Z → Below D w Z) := fun Z hz => hD ▸ hbW.trans (hz.mono hbW.size)
 have hDl : D < W.heap.size := World.block_lt_of_cell? W ⟨D, 0, none⟩ k0
 have HK : Hid (∀ Z, Below W.heap.size W Z → Z.cell? ⟨D, 0, none⟩ = some (.slice a ts.length cap)) := fun Z hz => (hz.cell (p := ⟨D, 0, none⟩) hDl).trans k0
 have HB0 : Hid (Below W.heap.size W W) := Below.refl _ _
 obtain ⟨b, off, rfl, hbl, _, ⟨na, nc, c1, hn⟩, _⟩ := hI.2 p hp
 have HC1 : Hid (∀ Z, Below W.heap.size W Z → Z.cell? ⟨b, off + p * 6 + 1, none⟩ = some (.slice na (ts.getD p ta0).2.1.length nc)) := fun Z hz => (hz.cell (p := ⟨b, off + p * 6 + 1, none⟩) hbl).trans c1
 have HI : Hid (TasksIn W (some ⟨b, off, none⟩) ts.length ts) := hI
 have HN : Hid (∀ i, i < (ts.getD p ta0).2.1.length → (ts.getD ((ts.getD p ta0).2.1.getD i 0).toNat ta0).2.2.1 ≠ 2 → free18 ts (ts.getD p ta0) = false) := fun i hi h => free18_no hi h
 have HY : Hid ((∀ i, i < (ts.getD p ta0).2.1.length → (ts.getD ((ts.getD p ta0).2.1.getD i 0).toNat ta0).2.2.1 = 2) → free18 ts (ts.getD p ta0) = true) := fun h => free18_yes h
 have hnl := (hsh p).2
 generalize free18 ts (ts.getD p ta0) = res at HN HY ⊢
 generalize (ts.getD p ta0).2.1 = ns at HN HY c1 HC1 hn hnd hnl
 have HM : Hid (AsIn W na ns) := hn
 have HD : Hid (∀ q, q < ns.length → 0 ≤ ns.getD q 0 ∧ ns.getD q 0 < ts.length) := hnd
 clear hin hsh hbW hA hI hn hnd hDl
 go_enter Tryz.func40, Tryz.ntmps40
 go_wp2
 go_loopw [5] (fun iv wr => ∃ i : Nat, iv = .int .i64 (i : Int) ∧ i ≤ ns.length ∧ Hid (∀ q, q < i → (ts.getD (ns.getD q 0).toNat ta0).2.2.1 = 2) ∧ Hid (Below W.heap.size W wr)) (fun iv _ => ns.length - (intOf iv).toNat)
 case atStart => exact ⟨0, rfl, by omega, (fun q hq => by omega), HB0⟩
 case round =>
  obtain ⟨i, rfl, hi, HA, HBr⟩ := hrel
  clear k0 c1 HB0
  have k0 := HK.out wr HBr.out
  have c1 := HC1.out wr HBr.out
  by_cases hlt : (i : Int) < (ns.length : Int)
  ·
   obtain ⟨nb, no, rfl, _, d0⟩ := (HM.out.below HBr.out) i (by omega)
   obtain ⟨h0, h1⟩ := HD.out i (by omega)
   have HNi : Hid (_) := HN.out i (by omega)
   obtain ⟨y, hy⟩ : ∃ y, ns.getD i 0 = y := ⟨_, rfl⟩
   rw [hy] at d0 h0 h1 HNi
   obtain ⟨m, rfl⟩ : ∃ m : Nat, y = (m : Int) := ⟨y.toNat, by omega⟩
   obtain ⟨b', off', e, _, _, _, c2, _⟩ := (HI.out.below HBr.out).2 m (by omega)
   injection e with e
   injection e with e1 e2 _
   subst e1 e2
   obtain ⟨x, hx⟩ : ∃ x, (ts.getD m ta0).2.2.1 = x := ⟨_, rfl⟩
   rw [hx] at c2
   by_cases h2 : x = 2
   ·
    have HR : Hid (∀ q, q < i + 1 → (ts.getD (ns.getD q 0).toNat ta0).2.2.1 = 2) := fun q hq => by
     rcases Nat.lt_or_ge q i with g | g
     ·
      exact HA.out q g
     ·
      obtain rfl : q = i := by omega
      rw [hy, Int.toNat_natCast, hx]; exact h2
    clear HA hx hy HNi
    subst h2
    have HBd : Hid (Below W.heap.size W wr.drew) := HBr.out.trans (by exact ⟨rfl, rfl, rfl, Nat.le_refl _, fun _ _ => rfl⟩)
    go_wp2
    refine wp_region_held_drew (S := (fun Z => Z.cell? ⟨D, 0, none⟩ = some (.slice (some ⟨b, off, none⟩) ts.length cap) ∧ Z.cell? ⟨b, off + p * 6 + 1, none⟩ = some (.slice (some ⟨nb, no, none⟩) ns.length nc) ∧ Z.cell? ⟨nb, no + i, none⟩ = some (.int .i64 (m : Int)) ∧ Z.cell? ⟨b, off + m * 6 + 2, none⟩ = some (.int .i64 2))) (by kernel_rfl) ?_ (fun hHeld => ?_)
    ·
     exact ⟨k0, c1, d0, c2⟩
    refine tkO [(0, 17), (1, 18), (2, 19), (3, 20), (4, 21), (5, 22), (6, 23), (7, 24), (8, 25), (9, 26), (10, 27), (11, 28), (12, 29), (13, 30), (14, 31)] ?_
    repeat (refine tkY ?_ rfl (by rfl) ?_ ?_; rotate_left; (focus (intro wq hSw; (try dsimp only at hSw); first | (go_simp; done) | (go_simp; with_reducible rfl))); simp only [zP])
    refine tkZ ?_
    refine wpAnyH_done (by kernel_rfl) ?_ _
    go_wp2
    go_roundw
    case rel => exact ⟨i + 1, by go_num, by omega, HR, HBd⟩
    case measure => simp [intOf]; omega
   ·
    have HF : Hid (res = false) := HNi.out (by rw [Int.toNat_natCast, hx]; exact h2)
    have hxb : (x != 2) = true := by simp [h2]
    have HBd : Hid (Below W.heap.size W wr.drew) := HBr.out.trans (by exact ⟨rfl, rfl, rfl, Nat.le_refl _, fun _ _ => rfl⟩)
    clear HA hx hy HN HY HNi
    go_wp2
    refine wp_region_held_drew (S := (fun Z => Z.cell? ⟨D, 0, none⟩ = some (.slice (some ⟨b, off, none⟩) ts.length cap) ∧ Z.cell? ⟨b, off + p * 6 + 1, none⟩ = some (.slice (some ⟨nb, no, none⟩) ns.length nc) ∧ Z.cell? ⟨nb, no + i, none⟩ = some (.int .i64 (m : Int)) ∧ Z.cell? ⟨b, off + m * 6 + 2, none⟩ = some (.int .i64 x))) (by kernel_rfl) ?_ (fun hHeld => ?_)
    ·
     exact ⟨k0, c1, d0, c2⟩
    refine tkO [(0, 17), (1, 18), (2, 19), (3, 20), (4, 21), (5, 22), (6, 23), (7, 24), (8, 25), (9, 26), (10, 27), (11, 28), (12, 29), (13, 30), (14, 31)] ?_
    repeat (refine tkY ?_ rfl (by rfl) ?_ ?_; rotate_left; (focus (intro wq hSw; (try dsimp only at hSw); first | (go_simp; done) | (go_simp; with_reducible rfl))); simp only [zP])
    refine tkZ ?_
    refine wpAnyH_done (by kernel_rfl) ?_ _
    go_wp2
    go_ret
    exact ⟨by rw [HF.out]; rfl, hD ▸ HB.out _ HBd.out⟩
  ·
   have HF : Hid (res = true) := HY.out (fun q hq => HA.out q (by omega))
   clear HA HN HY
   go_wp2
   go_ret
   exact ⟨by rw [HF.out]; rfl, hD ▸ HB.out _ HBr.out⟩


/-- The needs of a right desk's task are tasks ahead of it. -/
theorem needs_of {d : Dk} (h : DeskP d) {p : Nat} (hp : p < d.1.length) : ∀ q, q < (d.1.getD p ta0).2.1.length → 0 ≤ (d.1.getD p ta0).2.1.getD q 0 ∧ (d.1.getD p ta0).2.1.getD q 0 < d.1.length := fun q hq => by
 obtain ⟨_, h2, _⟩ := h.one p hp
 unfold taskB needsB at h2
 rw [Bool.and_eq_true] at h2
 have h3 := of_decide_eq_true h2.1 q hq
 unfold need18 at h3
 omega
theorem getD_xs {xs : List TV} {ts : List Ta} (h : xs.map (·.1) = ts) {i : Nat} (hi : i < xs.length) : xs[i].1 = ts.getD i ta0 := by
 rw [← h, getD_map_tk]; simp [List.getD, hi]


end Go.Proofs.YtaidhjjpdkkmcaaGreatDoor

/-! The contracts of chapter 18's specification: l18Return, Returned. -/
namespace Go.Proofs.YtaidhjjpdkkmcaaGreatDoor
open Go.RowKit


end Go.Proofs.YtaidhjjpdkkmcaaGreatDoor
