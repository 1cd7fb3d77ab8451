/-
  The contracts of the landed code of chapter 3: Taken, StoreOk, Fetched, keepCode.
-/
import Derived.Test.YtfjpbbacibfnmaaByKey2
import Derived.Test.YtfjpbbacibfnmaaClone
namespace Go.Proofs.Ytfjpbbacibfnmaa
open Go.RowKit Go.Maps

theorem below_in {w w1 : World} {o : Obj} {B : Nat} (h : Below B (w.alloc o) w1) (hB : w.heap.size ≤ B) : Below w.heap.size w w1 :=
  ((Below.refl _ w).alloc (Nat.le_refl _) o).trans (h.mono hB)

set_option maxHeartbeats 1000000 in
theorem implTaken (room : Int) (a : Option Addr) (len cap : Nat) (bs : List Bl) (w : World) (hin : BlobsIn w a len cap bs) (hl : takenL bs ≤ 1048576) (hlen : len ≤ 1048576) :
    Calls Try.prog 20 #[.agg #[.int .i64 room, .slice a len cap]] w fun e w' => e = .returned (.int .i64 (takenI room bs)) ∧ Below w.heap.size w w' := by
  go_enter Try.func20, Try.ntmps20
  go_wp2_with fail
  refine (implByKeyOf room a len cap bs _ (hin.alloc _) hl hlen).mono ?_
  rintro e w1 ⟨rfl, D, hown, hM, hb⟩
  go_wp2
  go_ret
  exact ⟨rfl, below_in hb (by simp)⟩

set_option maxHeartbeats 1000000 in
theorem implStoreOk (room : Int) (a : Option Addr) (len cap : Nat) (bs : List Bl) (w : World) (hin : BlobsIn w a len cap bs) (hl : takenL bs ≤ 1048576) (hlen : len ≤ 1048576) :
    Calls Try.prog 18 #[.agg #[.int .i64 room, .slice a len cap]] w fun e w' => e = .returned (.bool (okB room bs)) ∧ Below w.heap.size w w' := by
  have HE : Hid ((takenI room bs != -1) = okB room bs) := by
    unfold takenI
    cases okB room bs
    · rfl
    · exact (by rw [if_pos rfl, bne_iff_ne]; omega : ((if true = true then (takenL bs : Int) else -1) != -1) = true)
  go_enter Try.func18, Try.ntmps18
  go_wp2_with fail
  refine (implTaken room a len cap bs _ (hin.alloc _) hl hlen).mono ?_
  rintro e w1 ⟨rfl, hb⟩
  go_wp2
  go_ret
  exact ⟨by rw [← HE.out]; rfl, below_in hb (by simp)⟩

set_option maxHeartbeats 1000000 in
theorem implFetched (room key : Int) (a : Option Addr) (len cap : Nat) (bs : List Bl) (w : World) (hin : BlobsIn w a len cap bs) (hl : takenL bs ≤ 1048576) (hlen : len ≤ 1048576) :
    Calls Try.prog 15 #[.agg #[.int .i64 room, .slice a len cap], .int .i64 key] w fun e w' => e = .returned (.tuple #[.string ⟨(fetchedT room bs key).toArray⟩, .bool (fetchedB room bs key)]) ∧ Below w.heap.size w w' := by
  obtain ⟨e1, e2⟩ := fetched_storeL room bs key
  rw [e1, e2]
  have hle : (fetchT (storeL room bs) key).length ≤ 1048576 := by
    cases hf : fetchB (storeL room bs) key
    · rw [fetchT_none _ _ hf]; simp
    · have h1 := fetch_place (storeL_rises room bs) key hf
      have h2 := getD_len (storeL room bs) (placeL key (storeL room bs))
      rw [h1] at h2
      have := (storeL_sub room bs).1
      simp at h2
      omega
  clear e1 e2
  obtain ⟨l, hL⟩ : ∃ l, storeL room bs = l := ⟨_, rfl⟩
  have HL : Hid (storeL room bs = l) := hL
  rw [hL] at hle ⊢
  clear hL
  go_enter Try.func15, Try.ntmps15
  go_wp2_with fail
  refine (implByKeyOf room a len cap bs _ (hin.alloc _) hl hlen).mono ?_
  rintro e w1 ⟨rfl, D, hown, hM, hb⟩
  have hb1 := below_in hb (by simp)
  clear hb
  simp only [World.size_alloc] at hown ⊢
  rw [HL.out] at hM
  have hs1 := hb1.size
  cases hf : fetchB l key
  · have hlk := look_no true hown hM hf
    have HT : Hid (fetchT l key = []) := fetchT_none _ _ hf
    have HF : Hid (fetchB l key = false) := hf
    simp only [if_true] at hlk
    clear hf hown
    go_wp2_with fail
    refine (stringsClone [] _ (by simp)).mono ?_
    rintro e w2 ⟨rfl, hb2⟩
    go_wp2
    go_ret2
    exact ⟨by rw [HT.out, HF.out]; rfl, hb1.trans (below_in hb2 (by simp) |>.mono hs1)⟩
  · have hlk := look_yes true hown hM hf
    have HF : Hid (fetchB l key = true) := hf
    simp only [if_true] at hlk
    clear hf hown
    go_wp2_with fail
    refine (stringsClone (fetchT l key) _ hle).mono ?_
    rintro e w2 ⟨rfl, hb2⟩
    go_wp2
    go_ret2
    exact ⟨by rw [HF.out]; rfl, hb1.trans (below_in hb2 (by simp) |>.mono hs1)⟩

def codeOf (l : List Bl) (key : Int) (t : List UInt8) (left : Int) : Int := if fetchB l key = true then (if fetchT l key = t then 0 else 1) else if 20000 < t.length ∨ left < (t.length : Int) then 2 else 0

set_option maxHeartbeats 1000000 in
theorem implKeepCode (m n : Nat) (D : DataW Unit) (l : List Bl) (key left : Int) (t : List UInt8) (w : World) (hown : w.ownsMap Try.prog 2 blobR m n D) (hM : MapIs D l) (ht : t.length ≤ 1048576) :
    Calls Try.prog 46 #[.map (some m), .agg #[.int .i64 key, .string ⟨t.toArray⟩], .int .i64 left] w fun e w' => e = .returned (.int .i64 (codeOf l key t left)) ∧ Below w.heap.size w w' := by
  have hown1 := hown.alloc (.cells #[.int .i64 key, .string ⟨t.toArray⟩] 39)
  unfold codeOf
  cases hf : fetchB l key
  · have hlk := look_no true hown1 hM hf
    simp only [if_true] at hlk
    rw [if_neg (by simp)]
    clear hf hown hown1
    by_cases h1 : 20000 < (t.length : Int)
    · have hd1 : decide (20000 < (t.length : Int)) = true := decide_eq_true h1
      rw [if_pos (Or.inl (by omega))]
      go_enter Try.func46, Try.ntmps46
      go_wp2
      go_ret
      exact ⟨rfl, ((Below.refl _ w).alloc (Nat.le_refl _) _).alloc (by simp) _⟩
    · have hd1 : decide (20000 < (t.length : Int)) = false := decide_eq_false h1
      by_cases h2 : left < (t.length : Int)
      · have hd2 : decide (left < (t.length : Int)) = true := decide_eq_true h2
        rw [if_pos (Or.inr h2)]
        go_enter Try.func46, Try.ntmps46
        go_wp2
        go_ret
        exact ⟨rfl, ((Below.refl _ w).alloc (Nat.le_refl _) _).alloc (by simp) _⟩
      · have hd2 : decide (left < (t.length : Int)) = false := decide_eq_false h2
        rw [if_neg (by omega)]
        go_enter Try.func46, Try.ntmps46
        go_wp2
        go_ret
        exact ⟨rfl, ((Below.refl _ w).alloc (Nat.le_refl _) _).alloc (by simp) _⟩
  · have hlk := look_yes true hown1 hM hf
    simp only [if_true] at hlk
    rw [if_pos rfl]
    clear hf hown hown1
    generalize fetchT l key = u at *
    by_cases h1 : u = t
    · subst h1
      rw [if_pos rfl]
      go_enter Try.func46, Try.ntmps46
      go_wp2
      go_ret
      exact ⟨rfl, ((Below.refl _ w).alloc (Nat.le_refl _) _).alloc (by simp) _⟩
    · rw [if_neg h1]
      have hd : (u == t) = false := beq_eq_false_iff_ne.2 h1
      go_enter Try.func46, Try.ntmps46
      go_wp2
      go_ret
      exact ⟨rfl, ((Below.refl _ w).alloc (Nat.le_refl _) _).alloc (by simp) _⟩

end Go.Proofs.Ytfjpbbacibfnmaa
