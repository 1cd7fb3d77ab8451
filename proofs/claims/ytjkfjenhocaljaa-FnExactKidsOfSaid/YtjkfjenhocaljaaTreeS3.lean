/-
  The contracts of chapter 6's specification: TreeOk; a node and a tree are shown.
-/
import Derived.Test.YtjkfjenhocaljaaTreeS2
import Derived.Test.YtjkfjenhocaljaaChunkS
import Derived.Deep.RegionHeld3
namespace Go.Proofs.Ytjkfjenhocaljaa
open Go.RowKit

set_option maxHeartbeats 1000000 in
set_option maxRecDepth 100000 in
theorem specTreeOk (a : Option Addr) (len cap : Nat) (ns : List Nd) (w : World) (hin : NodesIn w a len ns) (hsh : ShortT ns) (hlen : len ≤ 1048576) :
    Calls Try.prog 26 #[.slice a len cap] w fun e w' => e = .returned (.bool (treeB ns)) ∧ Below w.heap.size w w' := by
  obtain rfl : ns.length = len := hin.1
  have HC : Hid (_) := fun W (h : NodesIn W a ns.length ns) => specEndOf a ns.length cap ns 0 W h hsh hlen
  have HI : Hid (NodesIn w a ns.length ns) := hin
  clear hin hsh
  by_cases h : 1 ≤ (ns.length : Int) ∧ (ns.length : Int) ≤ 60
  · have HB : Hid (inB (ns.length : Int) 1 60 = true) := inB_yes _ _ _ h.1 h.2
    have HT : Hid (treeB ns = (endV ns 0 == (ns.length : Int))) := by
      exact (by unfold treeB; rw [Bool.eq_iff_iff, decide_eq_true_iff, beq_iff_eq]; constructor; exact fun x => x.2; exact fun x => ⟨by omega, x⟩ : treeB ns = (endV ns 0 == (ns.length : Int)))
    go_enter Try.func26, Try.ntmps26
    go_wp2_with fail
    refine (specIn _ _ _ _).mono ?_
    rintro e w1 ⟨rfl, rfl⟩
    rw [HB.out]
    go_wp2_with fail
    refine Calls.mono (HC.out _ HI.out) ?_
    rintro e w2 ⟨rfl, hb2⟩
    go_wp2
    go_ret
    exact ⟨by rw [HT.out]; rfl, hb2⟩
  · have HB : Hid (inB (ns.length : Int) 1 60 = false) := inB_no _ _ _ (by omega)
    have HT : Hid (treeB ns = false) := by exact (decide_eq_false (fun x => h (by omega)) : treeB ns = false)
    go_enter Try.func26, Try.ntmps26
    go_wp2_with fail
    refine (specIn _ _ _ _).mono ?_
    rintro e w1 ⟨rfl, rfl⟩
    rw [HB.out]
    go_wp2
    go_ret
    exact ⟨by rw [HT.out]; rfl, Below.refl _ _⟩

theorem intL_short (a : Int) (h0 : -2147483648 ≤ a) (h1 : a ≤ 2147483647) : (intL a).length ≤ 11 := by
  have h := digL_len 9 a.natAbs (by omega)
  unfold intL
  split
  · simp; omega
  · omega


theorem show_len (n : Nd) (h : nodeB n = true) : (showN n).length ≤ 30 := by
  obtain ⟨k, a, p, f⟩ := n
  have hp := nodeB_iff.1 h
  unfold nodeP at hp
  simp only at hp
  rcases hp with ⟨rfl, ⟨h0, h1⟩, rfl, rfl⟩ | ⟨rfl, ⟨h0, h1⟩, rfl, rfl⟩ | ⟨hk, rfl, rfl, rfl⟩ | ⟨rfl, ⟨h0, h1⟩, hpn, hfn⟩
  · have hs : showN (1, a, [], []) = intL a := by unfold showN; simp
    rw [hs]; have := intL_short a h0 h1; omega
  · have hs : showN (2, a, [], []) = 36 :: intL a := by unfold showN; simp
    rw [hs]; have := intL_short a (by omega) (by omega); simp; omega
  · rcases (show k = 3 ∨ k = 4 ∨ k = 5 ∨ k = 6 ∨ k = 7 by omega) with rfl | rfl | rfl | rfl | rfl <;> (unfold showN; simp)
  · have hs : showN (8, a, p, f) = (64 :: p) ++ [46] ++ f ++ [47] ++ intL a := by unfold showN; simp
    rw [hs]
    have := intL_short a (by omega) (by omega)
    have := (name_letters hpn).1
    have := (name_letters hfn).1
    simp; omega

theorem joinBy_len (ws : List (List UInt8)) (m : Nat) (h : ∀ x ∈ ws, x.length ≤ m) : (joinBy 32 ws).length ≤ ws.length * (m + 1) := by
  induction ws with
  | nil => simp [joinBy]
  | cons x r ih =>
    have hx := h x (by simp)
    have ir := ih (fun y hy => h y (by simp [hy]))
    rw [List.length_cons, Nat.add_mul, Nat.one_mul]
    by_cases hr : r = []
    · subst hr; simp [joinBy]; omega
    · rw [joinBy_cons 32 x r hr]; simp only [List.length_append, List.length_singleton]; omega

theorem showL_len (ns : List Nd) (h : ∀ n ∈ ns, nodeB n = true) : (showL ns).length ≤ ns.length * 31 := by
  have := joinBy_len (ns.map showN) 30 (by intro x hx; obtain ⟨n, hn, rfl⟩ := List.mem_map.1 hx; exact show_len n (h n hn))
  rw [List.length_map] at this
  exact this

theorem showL_step (ns : List Nd) (k : Nat) (hk : k < ns.length) : showL (ns.take (k + 1)) = if k = 0 then showN (ns.getD k nd0) else showL (ns.take k) ++ [32] ++ showN (ns.getD k nd0) := by
  unfold showL
  have h := joinBy_step 32 (ns.map showN) k (by simpa using hk)
  rw [← List.map_take, ← List.map_take] at h
  have hg : (ns.map showN).getD k [] = showN (ns.getD k nd0) := by simp [List.getD, hk]
  rw [hg] at h
  exact h

theorem showL_take (ns : List Nd) (k : Nat) : (showL (ns.take k)).length ≤ (showL ns).length := by
  unfold showL
  have := joinBy_take 32 (ns.map showN) k
  rw [← List.map_take] at this
  exact this



end Go.Proofs.Ytjkfjenhocaljaa
