/-
  FnStore returns true at every code and leaves it as it was: what is kept is fetched by its hash, all else stays, and no more is kept than there is room for.
-/
import Derived.Test.YtfjpbbacibfnmaaRows
import Derived.Test.YtfjpbbacibfnmaaMath1
import Derived.Test.YtfjpbbacibfnmaaMathT
import Derived.Test.YtfjpbbacibfnmaaOwn
import Derived.Test.YtfjpbbacibfnmaaHash
import Derived.Test.YtfjpbbacibfnmaaHexOf
import Derived.Test.YtfjpbbacibfnmaaTurned
import Derived.Test.YtfjpbbacibfnmaaLists
import Derived.Test.YtfjpbbacibfnmaaMath3
import Derived.Test.YtfjpbbacibfnmaaMath3D
import Derived.Test.YtfjpbbacibfnmaaStoreIn
import Derived.Test.YtfjpbbacibfnmaaStoreS
import Derived.Test.YtfjpbbacibfnmaaStoreS2
import Derived.Test.YtfjpbbacibfnmaaStoreS3
import Derived.Test.YtfjpbbacibfnmaaStoreS4
import Derived.Test.YtfjpbbacibfnmaaStoreS5
import Derived.Test.YtfjpbbacibfnmaaStoreL
import Derived.Test.YtfjpbbacibfnmaaStoreM
import Derived.Test.YtfjpbbacibfnmaaClone
import Derived.Test.YtfjpbbacibfnmaaMath3M
import Derived.Test.YtfjpbbacibfnmaaMapB
import Derived.Test.YtfjpbbacibfnmaaIter
import Derived.Test.YtfjpbbacibfnmaaIterC
import Derived.Test.YtfjpbbacibfnmaaByKey
import Derived.Test.YtfjpbbacibfnmaaByKey2
import Derived.Test.YtfjpbbacibfnmaaStoreJ
import Derived.Test.YtfjpbbacibfnmaaStoreOf
import Derived.Test.YtfjpbbacibfnmaaStoreI
import Derived.Test.YtfjpbbacibfnmaaDraw
import Derived.Test.YtfjpbbacibfnmaaDraw2
import Derived.Test.YtfjpbbacibfnmaaDraw3
import Derived.Test.YtfjpbbacibfnmaaDrawT
import Derived.Test.YtfjpbbacibfnmaaCodes
import Derived.Test.YtfjpbbacibfnmaaDrawS
import Derived.Test.YtfjpbbacibfnmaaDrawS2
import Derived.Test.YtfjpbbacibfnmaaBoxIn
import Derived.WalkKit
import Derived.ProofKit
import Derived.OpenShut
import Derived.ShutString
import Derived.ChangeOld
import Derived.Below
namespace Go.Proofs.Ytfjpbbacibfnmaa.fnStore
open Go.ChangeShapes Go.WideShapes Go.ChangeAt Go.RowKit
open Go.ChangeMaps (open_string shut_string)
set_option linter.unusedVariables false

theorem own : ownKnob Try.prog.godebug = none := by kernel_rfl
theorem laidOut : laidOutB Try.prog = true := by kernel_rfl

/-- WHAT THE WALK IS TOLD OF A SLICE OF INTEGERS THAT CAME IN: it is nil; or it leads to a row of 'cap' cells, the numbers 'zs' (the first 'len' are its elements, the rest its spare room), each fitting its kind. -/
def IsRow (k : IntKind) (w : World) (a : Option Addr) (len cap : Nat) (zs : List Int) : Prop :=
  (a = none ∧ len = 0 ∧ cap = 0 ∧ zs = []) ∨
  ∃ x, a = some x ∧ len ≤ cap ∧ cap ≤ maxLen ∧ zs.length = cap ∧ (∀ i, i < zs.length → w.cell? (x.add i) = some (.int k (zs.getD i 0))) ∧ ∀ n ∈ zs, (Lit.int k n).wf = true

/-! ### STEP 1: THE WALK: the Go text returns true, AND WRITES NOTHING THAT WAS THERE: 'Below w.heap.size w w'' (Derived/Below.lean: '.refl', '.alloc', '.drew', '.setCell' at a new block, '.trans'). Open each 'IsRow' by 'rcases' AHEAD of 'go_enter'; part every test ahead of the walk. -/
set_option maxHeartbeats 1000000 in
set_option maxRecDepth 1000000 in
theorem walk (a0 : Option Addr) (len0 cap0 : Nat) (z0 : List Int) (w : World) (w0 : IsRow .u8 w a0 len0 cap0 z0) :
    Calls Try.prog 3 #[.slice a0 len0 cap0] w fun e w' => e = .returned (.bool true) ∧ Below w.heap.size w w' := by
  have hcode : Code w w.heap.size a0 len0 := by
    rcases w0 with ⟨rfl, rfl, rfl, rfl⟩ | ⟨x, rfl, hl, hm, hz, hcell, hwz⟩
    · exact code_nil w
    · exact code_of w x len0 z0 hcell (by omega) hwz
  clear w0
  by_cases hbig : 4096 < (len0 : Int)
  · have hd : decide (4096 < (len0 : Int)) = true := decide_eq_true hbig
    go_enter Try.func3, Try.ntmps3
    go_wp2_with (go_at_call 11; refine (bigB _ _ _ _).mono ?_; rintro e w' ⟨rfl, rfl⟩)
    go_ret
    exact ⟨rfl, Below.refl _ _⟩
  · have hd : decide (4096 < (len0 : Int)) = false := decide_eq_false hbig
    have hself : ∀ n : Int, (n != n) = false := by simp
    have hselfb : ∀ b : Bool, (b != b) = false := by simp
    have hselfl : ∀ l : List UInt8, (l != l) = false := by simp
    have hselfe : ∀ l : List UInt8, (l == l) = true := by simp
    go_enter Try.func3, Try.ntmps3
    go_wp2_with fail
    refine (bigB _ _ _ _).mono ?_
    rintro e w1 ⟨rfl, rfl⟩
    go_wp2_with fail
    refine (drawKept _ _ _ _ (by omega) hcode).mono ?_
    rintro e w2 ⟨room, v2, bs, t, rfl, hown2, hbl, hbt, htl, hB2⟩
    obtain ⟨_, aS, capS, rfl, _⟩ := own_blobs hown2
    have hcode2 := hcode.later hB2
    clear hcode
    obtain ⟨w3, hw3⟩ : ∃ W, w2.alloc (.cells #[.int .i64 room, .slice aS bs.length capS] 26) = W := ⟨_, rfl⟩
    have hb3 : Below w2.heap.size w2 w3 := by rw [← hw3]; exact (Below.refl _ _).alloc (Nat.le_refl _) _
    have S3 : BoxIn w3 w2.heap.size room aS bs.length capS bs := by rw [← hw3]; exact ⟨by simp, by simp, (own_in2 hown2).alloc _⟩
    have hB3 := hB2.trans (hb3.mono hB2.size)
    clear hB2 hb3
    have hcode3 : Code w3 w3.heap.size a0 len0 := by rw [← hw3]; exact hcode2.kept (World.grownBy_alloc w2 _ none)
    clear hcode2 hown2
    obtain ⟨R, hR⟩ : ∃ R, keptR room bs = R := ⟨_, rfl⟩
    obtain ⟨C, hC⟩ : ∃ C, keptC room bs t = C := ⟨_, rfl⟩
    obtain ⟨X, hX⟩ : ∃ X, keptB room bs t = X := ⟨_, rfl⟩
    have hXl : X.length ≤ 7 ∧ takenL X ≤ 56 := by rw [← hX]; have := kept_small room bs t; omega
    have HR : Hid (keptR room bs = R ∧ keptC room bs t = C ∧ keptB room bs t = X) := ⟨hR, hC, hX⟩
    clear hR hC hX
    have S3c := S3.c0
    have S3d := S3.c1
    go_wp2_with fail
    refine (implKept room aS bs.length capS bs t _ S3.inn (by omega) (by omega) (by omega)).mono ?_
    rintro e w4 ⟨v4, rfl, hown4, hb4⟩
    rw [HR.out.1, HR.out.2.1]
    rw [HR.out.2.2] at hown4
    obtain ⟨_, aX, capX, rfl, _⟩ := own_blobs hown4
    have S4 := S3.below hb4
    have hB4 := hB3.trans (hb4.mono hB3.size)
    have hcode4 := hcode3.later hb4
    clear S3 S3c S3d hB3 hb4 hcode3
    obtain ⟨w5, hw5⟩ : ∃ W, w4.alloc (.cells #[.int .i64 R, .slice aX X.length capX] 26) = W := ⟨_, rfl⟩
    have hb5 : Below w4.heap.size w4 w5 := by rw [← hw5]; exact (Below.refl _ _).alloc (Nat.le_refl _) _
    have X5 : BoxIn w5 w4.heap.size R aX X.length capX X := by rw [← hw5]; exact ⟨by simp, by simp, (own_in2 hown4).alloc _⟩
    have S5 := S4.below hb5
    have hB5 := hB4.trans (hb5.mono hB4.size)
    clear S4
    clear hB4 hb5
    have hcode5 : Code w5 w5.heap.size a0 len0 := by rw [← hw5]; exact hcode4.kept (World.grownBy_alloc w4 _ none)
    clear hcode4 hown4
    go_wp2_with fail
    refine (drawFetched _ _ _ _ (by omega) hcode5).mono ?_
    rintro e w6 ⟨roomA, v6, qs, key, rfl, hown6, hal, hat, hb6⟩
    obtain ⟨_, aA, capA, rfl, _⟩ := own_blobs hown6
    have S6 := S5.below hb6
    have X6 := X5.below hb6
    have hB6 := hB5.trans (hb6.mono hB5.size)
    clear S5 X5 hB5 hb6 hcode5
    obtain ⟨w7, hw7⟩ : ∃ W, w6.alloc (.cells #[.int .i64 roomA, .slice aA qs.length capA] 26) = W := ⟨_, rfl⟩
    have hb7 : Below w6.heap.size w6 w7 := by rw [← hw7]; exact (Below.refl _ _).alloc (Nat.le_refl _) _
    have A7 : BoxIn w7 w6.heap.size roomA aA qs.length capA qs := by rw [← hw7]; exact ⟨by simp, by simp, (own_in2 hown6).alloc _⟩
    have S7 := S6.below hb7
    have X7 := X6.below hb7
    have hB7 := hB6.trans (hb7.mono hB6.size)
    clear S6 X6
    clear hB6 hb7
    clear hown6
    obtain ⟨fT, hfT⟩ : ∃ f, fetchedT roomA qs key = f := ⟨_, rfl⟩
    obtain ⟨fB, hfB⟩ : ∃ f, fetchedB roomA qs key = f := ⟨_, rfl⟩
    have HFH : Hid (fB = true → hashL fT = key) := by
      exact (by rw [← hfT, ← hfB]; exact fetched_hash roomA qs key : fB = true → hashL fT = key)
    have hfl : fT.length ≤ 1048576 := by rw [← hfT]; have := fetchedT_len roomA qs key; omega
    have HF : Hid (fetchedT roomA qs key = fT ∧ fetchedB roomA qs key = fB) := ⟨hfT, hfB⟩
    clear hfT hfB
    have A7c := A7.c0
    have A7d := A7.c1
    go_wp2_with fail
    refine (implFetched roomA key aA qs.length capA qs _ A7.inn (by omega) (by omega)).mono ?_
    rintro e w8 ⟨rfl, hb8⟩
    rw [HF.out.1, HF.out.2]
    have S8 := S7.below hb8
    have X8 := X7.below hb8
    have A8 := A7.below hb8
    have hB8 := hB7.trans (hb8.mono hB7.size)
    clear S7 X7 A7 A7c A7d hB7 hb8
    have S8c := S8.c0
    have S8d := S8.c1
    go_wp2_with fail
    refine (specKept room aS bs.length capS bs t _ S8.inn (by omega) (by omega) (by omega)).mono ?_
    rintro e w9 ⟨v9, rfl, hown9, hb9⟩
    rw [HR.out.1, HR.out.2.1]
    rw [HR.out.2.2] at hown9
    obtain ⟨_, aY, capY, rfl, _⟩ := own_blobs hown9
    have S9 := S8.below hb9
    have X9 := X8.below hb9
    have A9 := A8.below hb9
    have hB9 := hB8.trans (hb9.mono hB8.size)
    clear S8 S8c S8d X8 A8 hB8 hb9
    obtain ⟨w10, hw10⟩ : ∃ W, w9.alloc (.cells #[.int .i64 R, .slice aY X.length capY] 26) = W := ⟨_, rfl⟩
    have hb10 : Below w9.heap.size w9 w10 := by rw [← hw10]; exact (Below.refl _ _).alloc (Nat.le_refl _) _
    have Y10 : BoxIn w10 w9.heap.size R aY X.length capY X := by rw [← hw10]; exact ⟨by simp, by simp, (own_in2 hown9).alloc _⟩
    have S10 := S9.below hb10
    have X10 := X9.below hb10
    have A10 := A9.below hb10
    have hB10 := hB9.trans (hb10.mono hB9.size)
    clear S9 X9 A9
    clear hB9 hb10
    clear hown9
    obtain ⟨ok, hok⟩ : ∃ b, okB room bs = b := ⟨_, rfl⟩
    obtain ⟨tk, htk⟩ : ∃ b, takenI room bs = b := ⟨_, rfl⟩
    have HOK : Hid (okB room bs = ok ∧ takenI room bs = tk) := ⟨hok, htk⟩
    clear hok htk
    have S11 := S10.drew
    have X11 := X10.drew
    have A11 := A10.drew
    have Y11 := Y10.drew
    have HB11 : Hid (Below w1.heap.size w1 w10.drew) := hB10.trans ⟨rfl, rfl, rfl, Nat.le_refl _, fun _ _ => rfl⟩
    clear hB10
    have S10c := S10.c0
    have S10d := S10.c1
    have X10c := X10.c0
    have X10d := X10.c1
    have Y10c := Y10.c0
    have Y10d := Y10.c1
    go_wp2
    go_region_held3 (fun w' => w'.cell? ⟨w2.heap.size, 0, none⟩ = some (.int .i64 room) ∧ w'.cell? ⟨w2.heap.size, 1, none⟩ = some (.slice aS bs.length capS) ∧ w'.cell? ⟨w4.heap.size, 0, none⟩ = some (.int .i64 R) ∧ w'.cell? ⟨w4.heap.size, 1, none⟩ = some (.slice aX X.length capX) ∧ w'.cell? ⟨w9.heap.size, 0, none⟩ = some (.int .i64 R) ∧ w'.cell? ⟨w9.heap.size, 1, none⟩ = some (.slice aY X.length capY)) (go_keep) (first | (go_at_call 21; refine (specTaken room aS bs.length capS bs _ S15.inn (by omega) (by omega)).mono ?_; rintro e w16 ⟨rfl, hb16⟩; rw [HOK.out.2]; have S16 := S15.below hb16; have S16c := S16.c0; have S16d := S16.c1; have X16 := X15.below hb16; have X16c := X16.c0; have X16d := X16.c1; have A16 := A15.below hb16; have A16c := A16.c0; have A16d := A16.c1; have Y16 := Y15.below hb16; have Y16c := Y16.c0; have Y16d := Y16.c1) | (go_at_call 20; refine (implTaken room aS bs.length capS bs _ S14.inn (by omega) (by omega)).mono ?_; rintro e w15 ⟨rfl, hb15⟩; rw [HOK.out.2]; have S15 := S14.below hb15; have S15c := S15.c0; have S15d := S15.c1; have X15 := X14.below hb15; have X15c := X15.c0; have X15d := X15.c1; have A15 := A14.below hb15; have A15c := A15.c0; have A15d := A15.c1; have Y15 := Y14.below hb15; have Y15c := Y15.c0; have Y15d := Y15.c1) | (go_at_call 19; refine (specStoreOk room aS bs.length capS bs _ S13.inn (by omega) (by omega)).mono ?_; rintro e w14 ⟨rfl, hb14⟩; rw [HOK.out.1]; have S14 := S13.below hb14; have S14c := S14.c0; have S14d := S14.c1; have X14 := X13.below hb14; have X14c := X14.c0; have X14d := X14.c1; have A14 := A13.below hb14; have A14c := A14.c0; have A14d := A14.c1; have Y14 := Y13.below hb14; have Y14c := Y14.c0; have Y14d := Y14.c1) | (go_at_call 18; refine (implStoreOk room aS bs.length capS bs _ S12.inn (by omega) (by omega)).mono ?_; rintro e w13 ⟨rfl, hb13⟩; rw [HOK.out.1]; have S13 := S12.below hb13; have S13c := S13.c0; have S13d := S13.c1; have X13 := X12.below hb13; have X13c := X13.c0; have X13d := X13.c1; have A13 := A12.below hb13; have A13c := A13.c0; have A13d := A13.c1; have Y13 := Y12.below hb13; have Y13c := Y13.c0; have Y13d := Y13.c1) | (go_at_call 17; refine (likeStoreC R aX aY X.length capX capY X _ X11.inn Y11.inn (by omega)).mono ?_; rintro e w12 ⟨rfl, hb12⟩; have S12 := S11.below hb12; have S12c := S12.c0; have S12d := S12.c1; have X12 := X11.below hb12; have X12c := X12.c0; have X12d := X12.c1; have A12 := A11.below hb12; have A12c := A12.c0; have A12d := A12.c1; have Y12 := Y11.below hb12; have Y12c := Y12.c0; have Y12d := Y12.c1))
    have hs12 : w10.drew.heap.size ≤ w12.heap.size := hb12.size
    have HB16 : Hid (Below w1.heap.size w1 w16) := ((((HB11.out.trans (hb12.mono HB11.out.size)).trans (hb13.mono (Nat.le_trans HB11.out.size hb12.size))).trans (hb14.mono (Nat.le_trans (Nat.le_trans HB11.out.size hb12.size) hb13.size))).trans (hb15.mono (Nat.le_trans (Nat.le_trans (Nat.le_trans HB11.out.size hb12.size) hb13.size) hb14.size))).trans (hb16.mono (Nat.le_trans (Nat.le_trans (Nat.le_trans (Nat.le_trans HB11.out.size hb12.size) hb13.size) hb14.size) hb15.size))
    clear S10 S11 S12 S13 S14 S15 X10 X11 X12 X13 X14 X15 A10 A11 A12 A13 A14 A15 Y10 Y11 Y12 Y13 Y14 Y15 S12c S12d S13c S13d S14c S14d S15c S15d X12c X12d X13c X13d X14c X14d X15c X15d A12c A12d A13c A13d A14c A14d A15c A15d Y12c Y12d Y13c Y13d Y14c Y14d Y15c Y15d S10c S10d X10c X10d Y10c Y10d hb12 hb13 hb14 hb15 hb16 HB11 hs12 Y16 Y16c Y16d
    go_wp2_with fail
    refine (specFetched roomA key aA qs.length capA qs _ A16.inn (by omega) (by omega)).mono ?_
    rintro e w17 ⟨rfl, hb17⟩
    rw [HF.out.1, HF.out.2]
    have S17 := S16.below hb17
    have X17 := X16.below hb17
    have HB17 : Hid (Below w1.heap.size w1 w17) := HB16.out.trans (hb17.mono HB16.out.size)
    clear S16 S16c S16d X16 X16c X16d A16 A16c A16d hb17 HB16
    have S17c := S17.c0
    have S17d := S17.c1
    rcases fB with _ | _
    · go_wp2_with fail
      refine (specStoreOk room aS bs.length capS bs _ S17.inn (by omega) (by omega)).mono ?_
      rintro e w18 ⟨rfl, hb18⟩
      rw [HOK.out.1]
      have S18 := S17.below hb18
      have X18 := X17.below hb18
      have HB18 : Hid (Below w1.heap.size w1 w18) := HB17.out.trans (hb18.mono HB17.out.size)
      have S18c := S18.c0
      have S18d := S18.c1
      have X18c := X18.c0
      have X18d := X18.c1
      clear S17 S17c S17d X17 HB17 hb18
      rcases ok with _ | _
      · have HN : Hid (R = 0 ∧ C = 3 ∧ X = [] ∧ takenI room bs = -1) := by
          exact (by obtain ⟨r1, r2, r3⟩ := HR.out; rw [← r1, ← r2, ← r3]; unfold keptR keptC keptB takenI; rw [HOK.out.1]; exact ⟨rfl, rfl, rfl, rfl⟩ : R = 0 ∧ C = 3 ∧ X = [] ∧ takenI room bs = -1)
        obtain ⟨rfl, rfl, rfl, _⟩ := HN.out
        have hin0 : BlobsIn w18 none 0 0 [] := ⟨rfl, fun _ => ⟨rfl, rfl⟩, fun j hj => by omega⟩
        simp only [List.length_nil] at X18d
        go_wp2_with fail
        refine (likeStoreC 0 aX none 0 capX 0 [] _ X18.inn hin0 (by omega)).mono ?_
        rintro e w19 ⟨rfl, hb19⟩
        have S19 := S18.below hb19
        have HB19 : Hid (Below w1.heap.size w1 w19) := HB18.out.trans (hb19.mono HB18.out.size)
        have S19c := S19.c0
        have S19d := S19.c1
        clear S18 S18c S18d X18 X18c X18d hb19 HB18 hin0
        go_wp2_with fail
        refine (implTaken room aS bs.length capS bs _ S19.inn (by omega) (by omega)).mono ?_
        rintro e w20 ⟨rfl, hb20⟩
        rw [HN.out.2.2.2]
        go_wp2
        go_ret
        exact ⟨rfl, HB19.out.trans (hb20.mono HB19.out.size)⟩
      · by_cases hC : C = 0
        · subst hC
          obtain ⟨r1, r2, r3⟩ := HR.out
          have hokP : okP room bs := okB_iff.1 HOK.out.1
          have e1 : R = room := by rw [← r1]; unfold keptR; rw [HOK.out.1]; rfl
          have e2 : X = keepB room bs t := by rw [← r3]; unfold keptB; rw [HOK.out.1]; rfl
          have e3 : keepC room bs t = 0 := by rw [← r2]; unfold keptC; rw [HOK.out.1]; rfl
          subst e1
          have hokX : okP R X := by rw [e2]; exact keep_ok hokP
          obtain ⟨kt, hkt, hxt, hall⟩ := keep_there2 e3
          rw [← e2] at hkt hxt hall
          have HFA : Hid (∀ i, i < bs.length → fetchedT R X (bs.getD i (0, [])).1 = (bs.getD i (0, [])).2 ∧ fetchedB R X (bs.getD i (0, [])).1 = true) := by
            exact (fun i hi => by obtain ⟨j, hj, hje⟩ := hall i hi; have := ok_fetch hokX.2 j hj; rw [hje] at this; unfold fetchedT fetchedB; rw [okB_yes hokX]; exact ⟨this.2, this.1⟩ : ∀ i, i < bs.length → fetchedT R X (bs.getD i (0, [])).1 = (bs.getD i (0, [])).2 ∧ fetchedB R X (bs.getD i (0, [])).1 = true)
          have HFT : Hid (fetchedT R X (hashL t) = t ∧ fetchedB R X (hashL t) = true) := by
            exact (by have := ok_fetch hokX.2 kt hkt; rw [hxt] at this; unfold fetchedT fetchedB; rw [okB_yes hokX]; exact ⟨this.2, this.1⟩ : fetchedT R X (hashL t) = t ∧ fetchedB R X (hashL t) = true)
          have HKA : Hid (keptR R X = R ∧ keptC R X t = 0 ∧ keptB R X t = X ∧ okB R X = true) := by
            exact (by have := keep_again (room := R) hokX.2 kt hkt hxt; unfold keptR keptC keptB; rw [okB_yes hokX]; exact ⟨rfl, this.2, this.1, rfl⟩ : keptR R X = R ∧ keptC R X t = 0 ∧ keptB R X t = X ∧ okB R X = true)
          obtain ⟨tX, htX⟩ : ∃ tX, takenI R X = tX := ⟨_, rfl⟩
          have htle : tX ≤ R := by rw [← htX]; unfold takenI; rw [okB_yes hokX]; exact hokX.1.2.2
          have HTX : Hid (takenI R X = tX) := htX
          clear r1 r2 r3 hokP e2 e3 hokX kt hkt hxt hall htX
          go_wp2
          go_loopw [15] (fun i wr => ∃ k : Nat, k ≤ bs.length ∧ i = .int .i64 k ∧ BoxIn wr w2.heap.size R aS bs.length capS bs ∧ BoxIn wr w4.heap.size R aX X.length capX X ∧ Below w1.heap.size w1 wr) (fun i _ => bs.length - (intOf i).toNat)
          case atStart => exact ⟨0, Nat.zero_le _, rfl, S18, X18, HB18.out⟩
          case round =>
            obtain ⟨k, hk, rfl, Sr, Xr, hBr⟩ := hrel
            clear S18 S18c S18d X18 X18c X18d HB18
            have Src := Sr.c0
            have Srd := Sr.c1
            have Xrc := Xr.c0
            have Xrd := Xr.c1
            have HBr : Hid (Below w1.heap.size w1 wr) := hBr
            clear hBr
            by_cases hkl : (k : Int) < (bs.length : Int)
            · obtain ⟨b, off, rfl, hbl2, hcells⟩ := Sr.inn.at (by omega)
              obtain ⟨ck, ct⟩ := hcells k (by omega)
              obtain ⟨hfa1, hfa2⟩ := HFA.out k (by omega)
              obtain ⟨x, hx⟩ : ∃ x, bs.getD k (0, []) = x := ⟨_, rfl⟩
              rw [hx] at ck ct hfa1 hfa2
              obtain ⟨ky, u⟩ := x
              simp only at ck ct hfa1 hfa2
              have HFX : Hid (fetchedT R X ky = u ∧ fetchedB R X ky = true) := ⟨hfa1, hfa2⟩
              have Xrw := Xr.drew
              have Srw := Sr.drew
              clear hcells hx hfa1 hfa2
              go_wp2
              go_region_held3 (fun w' => w'.cell? ⟨w4.heap.size, 0, none⟩ = some (.int .i64 R) ∧ w'.cell? ⟨w4.heap.size, 1, none⟩ = some (.slice aX X.length capX) ∧ w'.cell? ⟨w2.heap.size, 1, none⟩ = some (.slice (some ⟨b, off, none⟩) bs.length capS) ∧ w'.cell? ⟨b, off + k * 2, none⟩ = some (.int .i64 ky)) (go_keep) (first | (go_at_call 15; refine (implFetched R ky aX X.length capX X _ Xrw.inn (by omega) (by omega)).mono ?_; rintro e w19 ⟨rfl, hb19⟩; rw [HFX.out.1, HFX.out.2]; have S19 := Srw.below hb19; have X19 := Xrw.below hb19; have S19d := S19.c1; have X19c := X19.c0; have X19d := X19.c1; have ck19 : w19.cell? ⟨b, off + k * 2, none⟩ = some (.int .i64 ky) := (hb19.cell (p := ⟨b, off + k * 2, none⟩) hbl2).trans ck; have ct19 : w19.cell? ⟨b, off + k * 2 + 1, none⟩ = some (.string ⟨u.toArray⟩) := (hb19.cell (p := ⟨b, off + k * 2 + 1, none⟩) hbl2).trans ct))
              have HB19 : Hid (Below w1.heap.size w1 w19) := HBr.out.trans ⟨hb19.os, hb19.tape, hb19.output, hb19.size, fun q hq => hb19.block q (Nat.lt_of_lt_of_le hq HBr.out.size)⟩
              clear Sr Xr Src Srd Xrc Xrd Xrw Srw hb19 ck ct HBr
              go_wp2
              go_roundw
              case rel => exact ⟨k + 1, by omega, by go_num, S19, X19, HB19.out⟩
              case measure => simp [intOf]; omega
            · have Xrw := Xr.drew
              go_wp2
              go_region_held3 (fun w' => w'.cell? ⟨w4.heap.size, 0, none⟩ = some (.int .i64 R) ∧ w'.cell? ⟨w4.heap.size, 1, none⟩ = some (.slice aX X.length capX)) (go_keep) (first | (go_at_call 15; refine (implFetched R (hashL t) aX X.length capX X _ Xrw.inn (by omega) (by omega)).mono ?_; rintro e w19 ⟨rfl, hb19⟩; rw [HFT.out.1, HFT.out.2]; have X19 := Xrw.below hb19; have X19c := X19.c0; have X19d := X19.c1) | (go_at_call 23; refine (specHashX t _ (by omega)).mono ?_; rintro e w18b ⟨rfl, rfl⟩))
              have HB19 : Hid (Below w1.heap.size w1 w19) := HBr.out.trans ⟨hb19.os, hb19.tape, hb19.output, hb19.size, fun q hq => hb19.block q (Nat.lt_of_lt_of_le hq HBr.out.size)⟩
              clear Sr Xr Src Srd Xrc Xrd Xrw hb19 HBr
              go_wp2_with fail
              refine (implKept R aX X.length capX X t _ X19.inn (by omega) (by omega) (by omega)).mono ?_
              rintro e w20 ⟨v20, rfl, hown20, hb20⟩
              rw [HKA.out.1, HKA.out.2.1]
              rw [HKA.out.2.2.1] at hown20
              obtain ⟨_, aZ, capZ, rfl, _⟩ := own_blobs hown20
              have X20 := X19.below hb20
              have HB20 : Hid (Below w1.heap.size w1 w20) := HB19.out.trans (hb20.mono HB19.out.size)
              clear X19 X19c X19d hb20 HB19
              obtain ⟨w21, hw21⟩ : ∃ W, w20.alloc (.cells #[.int .i64 R, .slice aZ X.length capZ] 26) = W := ⟨_, rfl⟩
              have hb21 : Below w20.heap.size w20 w21 := by rw [← hw21]; exact (Below.refl _ _).alloc (Nat.le_refl _) _
              have Z21 : BoxIn w21 w20.heap.size R aZ X.length capZ X := by rw [← hw21]; exact ⟨by simp, by simp, (own_in2 hown20).alloc _⟩
              have X21 := X20.below hb21
              have HB21 : Hid (Below w1.heap.size w1 w21) := HB20.out.trans (hb21.mono HB20.out.size)
              have X21c := X21.c0
              have X21d := X21.c1
              have Z21c := Z21.c0
              have Z21d := Z21.c1
              have X22 := X21.drew
              have Z22 := Z21.drew
              have htd : decide (tX ≤ R) = true := decide_eq_true htle
              clear X20 HB20 hb21 hown20
              go_wp2
              go_region_held3 (fun w' => w'.cell? ⟨w4.heap.size, 0, none⟩ = some (.int .i64 R) ∧ w'.cell? ⟨w4.heap.size, 1, none⟩ = some (.slice aX X.length capX) ∧ w'.cell? ⟨w20.heap.size, 0, none⟩ = some (.int .i64 R) ∧ w'.cell? ⟨w20.heap.size, 1, none⟩ = some (.slice aZ X.length capZ)) (go_keep) (first | (go_at_call 17; refine (likeStoreC R aZ aX X.length capZ capX X _ Z24.inn X24.inn (by omega)).mono ?_; rintro e w25 ⟨rfl, hb25⟩; have X25 := X24.below hb25; have X25c := X25.c0; have X25d := X25.c1; have Z25 := Z24.below hb25; have Z25c := Z25.c0; have Z25d := Z25.c1) | (go_at_call 20; refine (implTaken R aX X.length capX X _ X23.inn (by omega) (by omega)).mono ?_; rintro e w24 ⟨rfl, hb24⟩; rw [HTX.out]; have X24 := X23.below hb24; have X24c := X24.c0; have X24d := X24.c1; have Z24 := Z23.below hb24; have Z24c := Z24.c0; have Z24d := Z24.c1) | (go_at_call 18; refine (implStoreOk R aX X.length capX X _ X22.inn (by omega) (by omega)).mono ?_; rintro e w23 ⟨rfl, hb23⟩; rw [HKA.out.2.2.2]; have X23 := X22.below hb23; have X23c := X23.c0; have X23d := X23.c1; have Z23 := Z22.below hb23; have Z23c := Z23.c0; have Z23d := Z23.c1))
              have HB23 : Hid (Below w1.heap.size w1 w23) := HB21.out.trans ⟨hb23.os, hb23.tape, hb23.output, hb23.size, fun q hq => hb23.block q (Nat.lt_of_lt_of_le hq HB21.out.size)⟩
              have HB25 : Hid (Below w1.heap.size w1 w25) := (HB23.out.trans (hb24.mono HB23.out.size)).trans (hb25.mono (Nat.le_trans HB23.out.size hb24.size))
              clear hb23 hb24 hb25 HB23 HB21
              go_wp2
              go_ret
              exact ⟨rfl, HB25.out⟩
        · have HN : Hid (R = room ∧ X = bs) := by
            exact (by obtain ⟨r1, r2, r3⟩ := HR.out; rw [← r1, ← r3]; unfold keptR keptB; rw [HOK.out.1]; exact ⟨rfl, keep_same (by rw [← r2] at hC; unfold keptC at hC; rw [HOK.out.1] at hC; exact hC)⟩ : R = room ∧ X = bs)
          obtain ⟨rfl, rfl⟩ := HN.out
          have hCb : (C != 0) = true := bne_iff_ne.2 hC
          go_wp2_with fail
          refine (likeStoreC R aX aS X.length capX capS X _ X18.inn S18.inn (by omega)).mono ?_
          rintro e w19 ⟨rfl, hb19⟩
          go_wp2
          go_ret
          exact ⟨rfl, HB18.out.trans (hb19.mono HB18.out.size)⟩
    · have hhk : hashL fT = key := HFH.out rfl
      go_wp2_with fail
      refine (specHashX fT _ hfl).mono ?_
      rintro e w16b ⟨rfl, rfl⟩
      rw [hhk]
      clear hhk
      go_wp2_with fail
      refine (specStoreOk room aS bs.length capS bs _ S17.inn (by omega) (by omega)).mono ?_
      rintro e w18 ⟨rfl, hb18⟩
      rw [HOK.out.1]
      have S18 := S17.below hb18
      have X18 := X17.below hb18
      have HB18 : Hid (Below w1.heap.size w1 w18) := HB17.out.trans (hb18.mono HB17.out.size)
      have S18c := S18.c0
      have S18d := S18.c1
      have X18c := X18.c0
      have X18d := X18.c1
      clear S17 S17c S17d X17 HB17 hb18
      rcases ok with _ | _
      · have HN : Hid (R = 0 ∧ C = 3 ∧ X = [] ∧ takenI room bs = -1) := by
          exact (by obtain ⟨r1, r2, r3⟩ := HR.out; rw [← r1, ← r2, ← r3]; unfold keptR keptC keptB takenI; rw [HOK.out.1]; exact ⟨rfl, rfl, rfl, rfl⟩ : R = 0 ∧ C = 3 ∧ X = [] ∧ takenI room bs = -1)
        obtain ⟨rfl, rfl, rfl, _⟩ := HN.out
        have hin0 : BlobsIn w18 none 0 0 [] := ⟨rfl, fun _ => ⟨rfl, rfl⟩, fun j hj => by omega⟩
        simp only [List.length_nil] at X18d
        go_wp2_with fail
        refine (likeStoreC 0 aX none 0 capX 0 [] _ X18.inn hin0 (by omega)).mono ?_
        rintro e w19 ⟨rfl, hb19⟩
        have S19 := S18.below hb19
        have HB19 : Hid (Below w1.heap.size w1 w19) := HB18.out.trans (hb19.mono HB18.out.size)
        have S19c := S19.c0
        have S19d := S19.c1
        clear S18 S18c S18d X18 X18c X18d hb19 HB18 hin0
        go_wp2_with fail
        refine (implTaken room aS bs.length capS bs _ S19.inn (by omega) (by omega)).mono ?_
        rintro e w20 ⟨rfl, hb20⟩
        rw [HN.out.2.2.2]
        go_wp2
        go_ret
        exact ⟨rfl, HB19.out.trans (hb20.mono HB19.out.size)⟩
      · by_cases hC : C = 0
        · subst hC
          obtain ⟨r1, r2, r3⟩ := HR.out
          have hokP : okP room bs := okB_iff.1 HOK.out.1
          have e1 : R = room := by rw [← r1]; unfold keptR; rw [HOK.out.1]; rfl
          have e2 : X = keepB room bs t := by rw [← r3]; unfold keptB; rw [HOK.out.1]; rfl
          have e3 : keepC room bs t = 0 := by rw [← r2]; unfold keptC; rw [HOK.out.1]; rfl
          subst e1
          have hokX : okP R X := by rw [e2]; exact keep_ok hokP
          obtain ⟨kt, hkt, hxt, hall⟩ := keep_there2 e3
          rw [← e2] at hkt hxt hall
          have HFA : Hid (∀ i, i < bs.length → fetchedT R X (bs.getD i (0, [])).1 = (bs.getD i (0, [])).2 ∧ fetchedB R X (bs.getD i (0, [])).1 = true) := by
            exact (fun i hi => by obtain ⟨j, hj, hje⟩ := hall i hi; have := ok_fetch hokX.2 j hj; rw [hje] at this; unfold fetchedT fetchedB; rw [okB_yes hokX]; exact ⟨this.2, this.1⟩ : ∀ i, i < bs.length → fetchedT R X (bs.getD i (0, [])).1 = (bs.getD i (0, [])).2 ∧ fetchedB R X (bs.getD i (0, [])).1 = true)
          have HFT : Hid (fetchedT R X (hashL t) = t ∧ fetchedB R X (hashL t) = true) := by
            exact (by have := ok_fetch hokX.2 kt hkt; rw [hxt] at this; unfold fetchedT fetchedB; rw [okB_yes hokX]; exact ⟨this.2, this.1⟩ : fetchedT R X (hashL t) = t ∧ fetchedB R X (hashL t) = true)
          have HKA : Hid (keptR R X = R ∧ keptC R X t = 0 ∧ keptB R X t = X ∧ okB R X = true) := by
            exact (by have := keep_again (room := R) hokX.2 kt hkt hxt; unfold keptR keptC keptB; rw [okB_yes hokX]; exact ⟨rfl, this.2, this.1, rfl⟩ : keptR R X = R ∧ keptC R X t = 0 ∧ keptB R X t = X ∧ okB R X = true)
          obtain ⟨tX, htX⟩ : ∃ tX, takenI R X = tX := ⟨_, rfl⟩
          have htle : tX ≤ R := by rw [← htX]; unfold takenI; rw [okB_yes hokX]; exact hokX.1.2.2
          have HTX : Hid (takenI R X = tX) := htX
          clear r1 r2 r3 hokP e2 e3 hokX kt hkt hxt hall htX
          go_wp2
          go_loopw [15] (fun i wr => ∃ k : Nat, k ≤ bs.length ∧ i = .int .i64 k ∧ BoxIn wr w2.heap.size R aS bs.length capS bs ∧ BoxIn wr w4.heap.size R aX X.length capX X ∧ Below w1.heap.size w1 wr) (fun i _ => bs.length - (intOf i).toNat)
          case atStart => exact ⟨0, Nat.zero_le _, rfl, S18, X18, HB18.out⟩
          case round =>
            obtain ⟨k, hk, rfl, Sr, Xr, hBr⟩ := hrel
            clear S18 S18c S18d X18 X18c X18d HB18
            have Src := Sr.c0
            have Srd := Sr.c1
            have Xrc := Xr.c0
            have Xrd := Xr.c1
            have HBr : Hid (Below w1.heap.size w1 wr) := hBr
            clear hBr
            by_cases hkl : (k : Int) < (bs.length : Int)
            · obtain ⟨b, off, rfl, hbl2, hcells⟩ := Sr.inn.at (by omega)
              obtain ⟨ck, ct⟩ := hcells k (by omega)
              obtain ⟨hfa1, hfa2⟩ := HFA.out k (by omega)
              obtain ⟨x, hx⟩ : ∃ x, bs.getD k (0, []) = x := ⟨_, rfl⟩
              rw [hx] at ck ct hfa1 hfa2
              obtain ⟨ky, u⟩ := x
              simp only at ck ct hfa1 hfa2
              have HFX : Hid (fetchedT R X ky = u ∧ fetchedB R X ky = true) := ⟨hfa1, hfa2⟩
              have Xrw := Xr.drew
              have Srw := Sr.drew
              clear hcells hx hfa1 hfa2
              go_wp2
              go_region_held3 (fun w' => w'.cell? ⟨w4.heap.size, 0, none⟩ = some (.int .i64 R) ∧ w'.cell? ⟨w4.heap.size, 1, none⟩ = some (.slice aX X.length capX) ∧ w'.cell? ⟨w2.heap.size, 1, none⟩ = some (.slice (some ⟨b, off, none⟩) bs.length capS) ∧ w'.cell? ⟨b, off + k * 2, none⟩ = some (.int .i64 ky)) (go_keep) (first | (go_at_call 15; refine (implFetched R ky aX X.length capX X _ Xrw.inn (by omega) (by omega)).mono ?_; rintro e w19 ⟨rfl, hb19⟩; rw [HFX.out.1, HFX.out.2]; have S19 := Srw.below hb19; have X19 := Xrw.below hb19; have S19d := S19.c1; have X19c := X19.c0; have X19d := X19.c1; have ck19 : w19.cell? ⟨b, off + k * 2, none⟩ = some (.int .i64 ky) := (hb19.cell (p := ⟨b, off + k * 2, none⟩) hbl2).trans ck; have ct19 : w19.cell? ⟨b, off + k * 2 + 1, none⟩ = some (.string ⟨u.toArray⟩) := (hb19.cell (p := ⟨b, off + k * 2 + 1, none⟩) hbl2).trans ct))
              have HB19 : Hid (Below w1.heap.size w1 w19) := HBr.out.trans ⟨hb19.os, hb19.tape, hb19.output, hb19.size, fun q hq => hb19.block q (Nat.lt_of_lt_of_le hq HBr.out.size)⟩
              clear Sr Xr Src Srd Xrc Xrd Xrw Srw hb19 ck ct HBr
              go_wp2
              go_roundw
              case rel => exact ⟨k + 1, by omega, by go_num, S19, X19, HB19.out⟩
              case measure => simp [intOf]; omega
            · have Xrw := Xr.drew
              go_wp2
              go_region_held3 (fun w' => w'.cell? ⟨w4.heap.size, 0, none⟩ = some (.int .i64 R) ∧ w'.cell? ⟨w4.heap.size, 1, none⟩ = some (.slice aX X.length capX)) (go_keep) (first | (go_at_call 15; refine (implFetched R (hashL t) aX X.length capX X _ Xrw.inn (by omega) (by omega)).mono ?_; rintro e w19 ⟨rfl, hb19⟩; rw [HFT.out.1, HFT.out.2]; have X19 := Xrw.below hb19; have X19c := X19.c0; have X19d := X19.c1) | (go_at_call 23; refine (specHashX t _ (by omega)).mono ?_; rintro e w18b ⟨rfl, rfl⟩))
              have HB19 : Hid (Below w1.heap.size w1 w19) := HBr.out.trans ⟨hb19.os, hb19.tape, hb19.output, hb19.size, fun q hq => hb19.block q (Nat.lt_of_lt_of_le hq HBr.out.size)⟩
              clear Sr Xr Src Srd Xrc Xrd Xrw hb19 HBr
              go_wp2_with fail
              refine (implKept R aX X.length capX X t _ X19.inn (by omega) (by omega) (by omega)).mono ?_
              rintro e w20 ⟨v20, rfl, hown20, hb20⟩
              rw [HKA.out.1, HKA.out.2.1]
              rw [HKA.out.2.2.1] at hown20
              obtain ⟨_, aZ, capZ, rfl, _⟩ := own_blobs hown20
              have X20 := X19.below hb20
              have HB20 : Hid (Below w1.heap.size w1 w20) := HB19.out.trans (hb20.mono HB19.out.size)
              clear X19 X19c X19d hb20 HB19
              obtain ⟨w21, hw21⟩ : ∃ W, w20.alloc (.cells #[.int .i64 R, .slice aZ X.length capZ] 26) = W := ⟨_, rfl⟩
              have hb21 : Below w20.heap.size w20 w21 := by rw [← hw21]; exact (Below.refl _ _).alloc (Nat.le_refl _) _
              have Z21 : BoxIn w21 w20.heap.size R aZ X.length capZ X := by rw [← hw21]; exact ⟨by simp, by simp, (own_in2 hown20).alloc _⟩
              have X21 := X20.below hb21
              have HB21 : Hid (Below w1.heap.size w1 w21) := HB20.out.trans (hb21.mono HB20.out.size)
              have X21c := X21.c0
              have X21d := X21.c1
              have Z21c := Z21.c0
              have Z21d := Z21.c1
              have X22 := X21.drew
              have Z22 := Z21.drew
              have htd : decide (tX ≤ R) = true := decide_eq_true htle
              clear X20 HB20 hb21 hown20
              go_wp2
              go_region_held3 (fun w' => w'.cell? ⟨w4.heap.size, 0, none⟩ = some (.int .i64 R) ∧ w'.cell? ⟨w4.heap.size, 1, none⟩ = some (.slice aX X.length capX) ∧ w'.cell? ⟨w20.heap.size, 0, none⟩ = some (.int .i64 R) ∧ w'.cell? ⟨w20.heap.size, 1, none⟩ = some (.slice aZ X.length capZ)) (go_keep) (first | (go_at_call 17; refine (likeStoreC R aZ aX X.length capZ capX X _ Z24.inn X24.inn (by omega)).mono ?_; rintro e w25 ⟨rfl, hb25⟩; have X25 := X24.below hb25; have X25c := X25.c0; have X25d := X25.c1; have Z25 := Z24.below hb25; have Z25c := Z25.c0; have Z25d := Z25.c1) | (go_at_call 20; refine (implTaken R aX X.length capX X _ X23.inn (by omega) (by omega)).mono ?_; rintro e w24 ⟨rfl, hb24⟩; rw [HTX.out]; have X24 := X23.below hb24; have X24c := X24.c0; have X24d := X24.c1; have Z24 := Z23.below hb24; have Z24c := Z24.c0; have Z24d := Z24.c1) | (go_at_call 18; refine (implStoreOk R aX X.length capX X _ X22.inn (by omega) (by omega)).mono ?_; rintro e w23 ⟨rfl, hb23⟩; rw [HKA.out.2.2.2]; have X23 := X22.below hb23; have X23c := X23.c0; have X23d := X23.c1; have Z23 := Z22.below hb23; have Z23c := Z23.c0; have Z23d := Z23.c1))
              have HB23 : Hid (Below w1.heap.size w1 w23) := HB21.out.trans ⟨hb23.os, hb23.tape, hb23.output, hb23.size, fun q hq => hb23.block q (Nat.lt_of_lt_of_le hq HB21.out.size)⟩
              have HB25 : Hid (Below w1.heap.size w1 w25) := (HB23.out.trans (hb24.mono HB23.out.size)).trans (hb25.mono (Nat.le_trans HB23.out.size hb24.size))
              clear hb23 hb24 hb25 HB23 HB21
              go_wp2
              go_ret
              exact ⟨rfl, HB25.out⟩
        · have HN : Hid (R = room ∧ X = bs) := by
            exact (by obtain ⟨r1, r2, r3⟩ := HR.out; rw [← r1, ← r3]; unfold keptR keptB; rw [HOK.out.1]; exact ⟨rfl, keep_same (by rw [← r2] at hC; unfold keptC at hC; rw [HOK.out.1] at hC; exact hC)⟩ : R = room ∧ X = bs)
          obtain ⟨rfl, rfl⟩ := HN.out
          have hCb : (C != 0) = true := bne_iff_ne.2 hC
          go_wp2_with fail
          refine (likeStoreC R aX aS X.length capX capS X _ X18.inn S18.inn (by omega)).mono ?_
          rintro e w19 ⟨rfl, hb19⟩
          go_wp2
          go_ret
          exact ⟨rfl, HB18.out.trans (hb19.mono HB18.out.size)⟩

/-! ### THE ROW's STEP: WRITTEN OUT: LEAVE IT -/
set_option maxRecDepth 100000 in
theorem lifted (os : Os) (started : os.Started) (H : Type) (enc : TypeId × Value → H) :
    ReturnsInHanded {} Try.checked os 3 .any (Rows.fnStoreSpec.pre6 enc Try.prog Try.f3 Rows.fnStoreRow.domain false) (Rows.fnStoreSpec.post enc Try.prog Try.f3 false true false false) := by
  refine returnsInHanded_of_change (C := Try.checked) own started (by kernel_rfl) Try.func3
    (ChangeSpec.witness6 (enc := enc) (C := Try.checked) false ⟨#[], #[.slice none 0 0], []⟩ 8 (by kernel_rfl) (by kernel_rfl) (by kernel_rfl) (by kernel_rfl)) ?_
  intro W base args ds gs before hval0 hW hcnd _
  have hval : ∀ (j : Nat) t v, Try.f3.params[j]? = some t → args[j]? = some v → Value.okWide Try.prog W .any base t v := hval0
  have hW' := hW
  obtain ⟨p, q, hA0, hV, rfl, hfz, hnd⟩ := hW
  have hA : DataW.TrodAll enc Try.prog W 0 (fun _ => true) true Try.f3.params.toList args.toList ds p := hA0
  rw [Try.params3] at hA hval
  obtain ⟨v0, vs0, d0, ds0, p0, q0, hargs, rfl, rfl, h0, r0⟩ := trodAll_cons hA
  obtain ⟨rfl, rfl, rfl⟩ := trodAll_nil r0
  obtain rfl : args = #[v0] := by cases args; simp_all
  obtain ⟨rfl, rfl⟩ := trodVars_none hV
  obtain ⟨a0, len0, cap0, rfl⟩ := okWide_slice Try.underlying22 (hval 0 22 v0 rfl rfl)
  have k0 := h0
  have lt0 : ∀ x ∈ p0, x.block < W.heap.size := by obtain ⟨m, hm⟩ := k0; exact DataW.trod_lt m _ _ _ hm
  obtain ⟨z0, w0⟩ : ∃ zs, IsRow .u8 W a0 len0 cap0 zs := by
    obtain ⟨fuel, hf⟩ := h0
    rcases open_ints Try.underlying22 Try.underlying5 (by kernel_rfl) hf with ⟨hcs, _⟩ | ⟨x, l, c, zs, hcs, _, hl, hm, hz, _, hcell, hwz⟩
    · simp [Value.cells] at hcs
      obtain ⟨rfl, rfl, rfl⟩ := hcs
      exact ⟨[], .inl ⟨rfl, rfl, rfl, rfl⟩⟩
    · simp [Value.cells] at hcs
      obtain ⟨rfl, rfl, rfl⟩ := hcs
      exact ⟨zs, .inr ⟨_, rfl, hl, hm, by simpa using hz, hcell, hwz⟩⟩
  clear hA0 hval0
  refine (walk a0 len0 cap0 z0 W w0).mono fun e W' ⟨he, bel⟩ => ?_
  subst he
  exact ⟨_, rfl, _, _, _, [], _, [], hW', trodAll_mk1 (shut_bool Try.underlying4 _), (trodAll_cons_mk (Below.trod laidOut (by kernel_rfl) (of_decide_eq_true (by kernel_rfl)) k0 bel lt0) trodAll_mk0), rfl, bel.frame _, fun h => by cases h⟩

theorem over : Rows.fnStoreRow.holds Try.pinned (OpenSpec.ofChange Rows.fnStoreSpec) :=
  OpenClaim.holds_of_wide 3 Try.f3 rfl rfl rfl rfl rfl rfl rfl ⟨rfl, rfl, rfl, rfl, rfl⟩ rfl rfl rfl rfl rfl (by kernel_rfl) Try.func3 (by kernel_rfl)
    (of_decide_eq_true (by kernel_rfl)) (by unfold Func.isWrapper; first | (rw [if_pos (by decide +kernel)]; kernel_rfl) | (rw [if_neg (by decide +kernel)]; exact ⟨rfl, rfl⟩))
    (fun os started H enc _ => lifted os started H enc)

/-- ████ THE STATEMENT ████ -/
theorem proved : Rows.FnStoreSaid := over
#print axioms proved
end Go.Proofs.Ytfjpbbacibfnmaa.fnStore
