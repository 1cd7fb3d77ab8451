/-
  Parts of one proof, one behind the other: StepW, Math14, Math14R, Math14S, Math14I, ImgS, RtU, RtO, InsY, RtL, InsZ, RtIn, ImgK, Math14L, Math15.
-/
import Derived.Test.YtkpdoedpkncboaaGreatP21
import Derived.Test.YtkpdoedpkncboaaGreatP13
import Derived.Test.YtkpdoedpkncboaaGreatP14
import Derived.Test.YtkpdoedpkncboaaGreatP2
import Derived.Test.YtkpdoedpkncboaaGreatP15
import Derived.Deep.RegionHeld3
import Derived.Deep.Cut
import Derived.BigQuiet
import Derived.Test.YtkpdoedpkncboaaGreatP1
import Derived.SliceStrings
import Derived.Test.YtkpdoedpkncboaaGreatP9
namespace Go.Proofs.YtkpdoedpkncboaaGreat
open Go.RowKit
set_option maxHeartbeats 4000000 in
set_option maxRecDepth 100000 in
theorem zeN (a : Option Addr) (cap : Nat) (ns : List Nd) (w : World) (hin : za4 w a ns.length ns) (hint : IntT ns) (hsh : zam ns) (hb : zaI ns = true) :
 Calls Tryz.prog 45 #[.slice a ns.length cap] w fun e w' => ∃ v, e = .returned v ∧ w'.ownsRow w.heap.size 88 5 v (za9 ns).length (insV (za9 ns)) ∧ Below w.heap.size w w' := by
 obtain ⟨h60, hone⟩ := zaM.1 hb
 have hcl := (zc4 hb).2.2.1
 obtain ⟨D, hD⟩ : ∃ D : Nat, D = 60 := ⟨60, rfl⟩
 have hcv : za9 ns = za3 D ns 0 0 0 ++ [(10, 0, 0, 0, [])] := by rw [hD]; unfold za9; rw [if_pos hb]
 have HT : Hid (Calls Tryz.prog 74 #[.slice a ns.length cap] w fun e w' => e = .returned (.bool true) ∧ Below w.heap.size w w') := by
  have h := zd9 a ns.length cap ns w hin hint hsh (by omega)
  rw [hb] at h
  exact h
 have HC : Hid (∀ Y, Below w.heap.size w Y → Calls Tryz.prog 79 #[.slice a ns.length cap] Y fun e w' => ∃ gN, e = .returned (.slice (some ⟨gN, 0, none⟩) ns.length ns.length) ∧ Nr Y w' gN ns.length 0 (nd12 ns [])) := fun Y hy => zlw a cap ns Y (hin.below hy) hint hsh hb
 have HI : Hid (∀ (X Z : World) (g gN : Nat), Below w.heap.size w X → X.heap.size = g → Nr w X gN ns.length 0 (nd12 ns []) → Below X.heap.size X Z → Z.heap[g]? = some (.cells #[.slice a ns.length cap, .slice (some ⟨gN, 0, none⟩) ns.length ns.length, .slice none 0 0] 108 (0, 0)) → Z.heap.size = g + 1 → Wr13 X Z Z g (g + 1) (.slice a ns.length cap) (.slice (some ⟨gN, 0, none⟩) ns.length ns.length) (.slice none 0 0) (.slice none 0 0) [] ∧ Calls Tryz.prog 80 #[.pointer (some ⟨g, 0, none⟩), .int .i64 0, .int .i64 0] Z fun e w' => e = .returned (.tuple #[]) ∧ ∃ u, Wr13 X Z w' g (g + 1) (.slice a ns.length cap) (.slice (some ⟨gN, 0, none⟩) ns.length ns.length) (.slice none 0 0) u (za3 D ns 0 0 0)) := fun X Z g gN hX hg hnr hZ hblk hzs => by
  have hW : Wr13 X Z Z g (g + 1) (.slice a ns.length cap) (.slice (some ⟨gN, 0, none⟩) ns.length ns.length) (.slice none 0 0) (.slice none 0 0) [] :=
   Wr13.new (World.ownsRow_nil Z (g + 1) 88 5) hblk hZ (by omega) (by omega) (by omega)
  refine ⟨hW, ?_⟩
  have h := ziG X a cap ns gN g (g + 1) (hin.below hX) hint hsh h60 hb ⟨hnr.lt, fun q hq => hnr.rows q (Nat.zero_le _) hq⟩ D Z 0 0 (.slice none 0 0) [] hW (ziM hone) (by omega) (by omega) (by omega) (by rw [hD]; simp)
  exact h
 rw [hcv] at hcl ⊢
 obtain ⟨xs, hxs⟩ : ∃ xs, za3 D ns 0 0 0 = xs := ⟨_, rfl⟩
 rw [hxs] at HI hcl ⊢
 have hnl : xs.length ≤ 120 := by rw [List.length_append] at hcl; simp at hcl; omega
 obtain ⟨n, hn⟩ : ∃ n, ns.length = n := ⟨_, rfl⟩
 rw [hn] at HT HC HI ⊢
 clear hin hint hsh hb h60 hone hcl hcv hxs hn hD
 go_enter Tryz.func45, Tryz.ntmps45
 go_wp2_with fail
 refine Calls.mono HT.out ?_
 rintro e w1 ⟨rfl, hb1⟩
 go_wp2_with fail
 refine Calls.mono (HC.out _ hb1) ?_
 rintro e w2 ⟨gN, rfl, hnr⟩
 have hb2 : Below w.heap.size w w2 := hb1.trans (hnr.b.mono hb1.size)
 have hnr2 : Nr w w2 gN n 0 (nd12 ns []) := ⟨hnr.rows, hnr.ok, hnr.lt, Nat.le_trans hb1.size hnr.h0, hb2⟩
 have hA := heap_alloc_new w2 (.cells #[.slice a n cap, .slice (some ⟨gN, 0, none⟩) n n, .slice none 0 0] 108)
 have hbZ : Below w2.heap.size w2 (w2.alloc (.cells #[.slice a n cap, .slice (some ⟨gN, 0, none⟩) n n, .slice none 0 0] 108)) := (Below.refl _ _).alloc (Nat.le_refl _) _
 have hzs : (w2.alloc (.cells #[.slice a n cap, .slice (some ⟨gN, 0, none⟩) n n, .slice none 0 0] 108)).heap.size = w2.heap.size + 1 := by simp
 obtain ⟨-, hcall⟩ := HI.out w2 _ w2.heap.size gN hb2 rfl hnr2 hbZ hA hzs
 have HIn : Hid (_) := hcall
 have HB2 : Hid (Below w.heap.size w w2) := hb2
 clear hcall hA hbZ hzs hnr hnr2 hb1 hb2 HI HC HT
 go_wp2_with fail
 refine Calls.mono HIn.out ?_
 rintro e W4 ⟨rfl, u, hw4⟩
 have HW4 : Hid (_) := hw4
 have HWr : Hid (_) := zc0 w2 W4 w2.heap.size (w2.heap.size + 1) _ _ u xs (10, 0, 0, 0, []) hw4.here (by omega)
 unfold zay at HWr
 dsimp only at HWr
 clear hw4 HIn
 go_wp2_with fail
 refine Calls.mono HWr.out ?_
 rintro e W5 ⟨rfl, u2, hw5⟩
 obtain ⟨a5, c5, hv5⟩ := hw5.val
 have hl5 : (xs ++ [((10, 0, 0, 0, []) : In13)]).length = xs.length + 1 := by simp
 rw [hl5] at hv5
 subst hv5
 have hc5 := hw5.c2
 have HF : Hid (W5.ownsRow w.heap.size 88 5 (.slice a5 (xs.length + 1) c5) (xs ++ [((10, 0, 0, 0, []) : In13)]).length (insV (xs ++ [((10, 0, 0, 0, []) : In13)])) ∧ Below w.heap.size w W5) := ⟨zaj hw5.row (Nat.le_trans HB2.out.size (Nat.le_succ _)), HB2.out.trans (hw5.bB.mono HB2.out.size)⟩
 obtain ⟨m, hm⟩ : ∃ m, xs.length + 1 = m := ⟨_, rfl⟩
 rw [hm] at hc5 HF
 have HBe : Hid (_) := zdb w2.heap.size m a5 c5 W5 hc5 (by omega)
 have hm2 : ¬ ((m : Int) > 200) := by omega
 have hm3 : (m : Int) ≤ 200 := by omega
 clear hw5 HWr hl5 HW4 hm
 go_wp2_with fail
 refine Calls.mono HBe.out ?_
 rintro e W6 ⟨rfl, rfl⟩
 go_wp2
 go_ret
 exact ⟨_, rfl, HF.out.1, HF.out.2⟩
set_option maxHeartbeats 1000000 in
set_option maxRecDepth 100000 in
theorem zhe (a : Option Addr) (len cap : Nat) (ns : List Nd) (w : World) (hin : za4 w a len ns) (hint : IntT ns) (hsh : zam ns) (hlen : len ≤ 1048576) (_hc : len ≤ cap) (_hm : cap ≤ maxLen) :
 Calls Tryz.prog 45 #[.slice a len cap] w fun e w' => ∃ v, e = .returned v ∧ w'.ownsRow w.heap.size 88 5 v (za9 ns).length (insV (za9 ns)) ∧ Below w.heap.size w w' := by
 obtain rfl : ns.length = len := hin.1
 rcases hb : zaI ns with _ | _
 ·
  have HT : Hid (_) := zd9 a ns.length cap ns w hin hint hsh hlen
  rw [hb] at HT
  have HF : Hid (za9 ns = []) := by exact (by unfold za9; rw [if_neg (by rw [hb]; simp)] : za9 ns = [])
  clear hin hb
  go_enter Tryz.func45, Tryz.ntmps45
  go_wp2_with fail
  refine Calls.mono HT.out ?_
  rintro e w1 ⟨rfl, hb1⟩
  have hb2 : Below w.heap.size w (w1.alloc (.cells #[] 88)) := hb1.alloc hb1.size _
  have hP : (w1.alloc (.cells #[] 88)).ownsRow w.heap.size 88 5 (.slice (some ⟨w1.heap.size, 0, none⟩) 0 0) 0 [] := World.ownsRow_lit w1 #[] 0 hb1.size (by decide) rfl
  have HP : Hid (_) := And.intro hP hb2
  clear hb1 hb2 hP
  go_wp2
  go_ret
  exact ⟨_, rfl, by rw [HF.out]; exact HP.out.1, HP.out.2⟩
 ·
  exact zeN a cap ns w hin hint hsh hb
abbrev Rt := List UInt8 × Int × List In13
def rt0 : Rt := ([], 0, [])
def at14Go (s : List UInt8) : List Rt → Nat → Int
 | [], _ => -1
 | r :: rs, k => if r.1 = s then (k : Int) else at14Go s rs (k + 1)
def at14 (rs : List Rt) (s : List UInt8) : Int := at14Go s rs 0
def argB (n : Int) (i : In13) : Bool := !(decide (i.1 = 2) && decide (n ≤ i.2.2.1))
def rtB (r : Rt) : Bool := (zba r.1 && (inB r.2.1 0 3 && zbV r.2.2)) && r.2.2.all (argB r.2.1)
def clsB (rs : List Rt) (i : In13) : Bool := decide (i.1 ≠ 9) || (decide (0 ≤ at14 rs i.2.2.2.2) && decide ((rs.getD (at14 rs i.2.2.2.2).toNat rt0).2.1 = i.2.2.1))
def oneB (rs : List Rt) (j : Nat) : Prop := rtB (rs.getD j rt0) = true ∧ (0 < j → leT (rs.getD j rt0).1 (rs.getD (j - 1) rt0).1 = false) ∧ (rs.getD j rt0).2.2.all (clsB rs) = true
instance (rs : List Rt) (j : Nat) : Decidable (oneB rs j) := by unfold oneB; infer_instance
def imageB (rs : List Rt) : Bool := decide ((∀ j, j < rs.length → oneB rs j) ∧ (1 ≤ rs.length ∧ rs.length ≤ 64))
def nmL (s : List UInt8) : List UInt8 := if s = [] then [45] else s
def insLn (i : In13) : List UInt8 := intL i.1 ++ [32] ++ intL i.2.1 ++ [32] ++ intL i.2.2.1 ++ [32] ++ intL i.2.2.2.1 ++ [32] ++ nmL i.2.2.2.2
theorem zgU {s : List UInt8} (h : zba s = true) : ∃ p f, zak p = true ∧ zak f = true ∧ s = p ++ 46 :: f := by
 unfold zba at h
 rw [Bool.and_eq_true, Bool.and_eq_true, beq_iff_eq] at h
 obtain ⟨⟨h1, h2⟩, h3⟩ := h
 have hj := zh0 46 s []
 rw [List.nil_append] at hj
 match hs : zaG 46 s, h1 with
 | [p, f], _ =>
  rw [hs] at h2 h3
  refine ⟨p, f, h2, h3, ?_⟩
  rw [← hj]
  have e : zau 46 [] s = [p, f] := hs
  rw [e]
  simp [zfR]
theorem zfO {s : List UInt8} (h : zba s = true) : 3 ≤ s.length ∧ s.length ≤ 17 := by
 obtain ⟨p, f, hp, hf, rfl⟩ := zgU h
 have h1 := (zcn hp).1
 have h2 := (zcn hf).1
 simp only [List.length_append, List.length_cons]
 omega
theorem zdP {i : In13} (h : insP i) : (-2147483648 ≤ i.1 ∧ i.1 ≤ 2147483647) ∧ (-2147483648 ≤ i.2.1 ∧ i.2.1 ≤ 2147483647) ∧ (-2147483648 ≤ i.2.2.1 ∧ i.2.2.1 ≤ 2147483647) ∧ (-2147483648 ≤ i.2.2.2.1 ∧ i.2.2.2.1 ≤ 2147483647) := by
 have h2 := h.2.1
 have h3 := h.2.2
 omega
theorem zm2 {c : List In13} (h : zbV c = true) : ∀ i ∈ c, insP i := fun i hi => ((of_decide_eq_true h).2.1 i hi).1
theorem zks {r : Rt} (h : rtB r = true) : zba r.1 = true ∧ (0 ≤ r.2.1 ∧ r.2.1 ≤ 3) ∧ zbV r.2.2 = true ∧ r.2.2.all (argB r.2.1) = true := by
 unfold rtB at h
 simp only [Bool.and_eq_true] at h
 exact ⟨h.1.1, by have := h.1.2.1; unfold inB at this; exact of_decide_eq_true this, h.1.2.2, h.2⟩
theorem zgn {a : Int} (k : Nat) (h0 : 0 ≤ a) (h1 : a < 10 ^ (k + 1)) : (intL a).length ≤ k + 1 := by
 unfold intL
 rw [if_neg (by omega)]
 exact zgC k a.natAbs (by
  have e : ((a.natAbs : Nat) : Int) = a := by omega
  have h2 : ((a.natAbs : Nat) : Int) < ((10 ^ (k + 1) : Nat) : Int) := by rw [e]; push_cast; exact h1
  omega)
theorem intL_w11 {a : Int} (h0 : -2147483648 ≤ a) (h1 : a ≤ 2147483647) : (intL a).length ≤ 11 := by
 unfold intL
 have hd := zgC 9 a.natAbs (by omega)
 split
 ·
  simp only [List.length_cons]; omega
 ·
  omega
theorem zle {i : In13} (h : insP i) : (insLn i).length ≤ 28 := by
 obtain ⟨k, r, a, b, s⟩ := i
 have hk : 1 ≤ k ∧ k ≤ 10 := by have := h.2.2; simp only at this; omega
 have hr : 0 ≤ r ∧ r ≤ 63 := by have := h.2.2; simp only at this; omega
 have hb : 0 ≤ b ∧ b ≤ 63 := by have h1 := h.2.1; have h2 := h.2.2; simp only at h1 h2; omega
 have lk := zgn (a := k) 1 (by omega) (by omega)
 have lr := zgn (a := r) 1 (by omega) (by omega)
 have lb := zgn (a := b) 1 (by omega) (by omega)
 have la : (intL a).length + (nmL s).length ≤ 18 := by
  by_cases h9 : k = 9
  ·
   have h2 := h.2.2
   simp only at h2
   have hn : (0 ≤ a ∧ a ≤ 3) ∧ zba s = true := by
    rcases h2 with e | e | e | e | e | e | e
    ·
     omega
    ·
     omega
    ·
     omega
    ·
     omega
    ·
     omega
    ·
     exact ⟨e.2.2.1, e.2.2.2.2⟩
    ·
     omega
   have l1 := zgn (a := a) 0 (by omega) (by omega)
   have l2 := zfO hn.2
   unfold nmL
   split
   ·
    simp; omega
   ·
    omega
  ·
   have hs : s = [] := by
    have := h.1
    simp only at this
    rcases this with e | e
    ·
     exact absurd e h9
    ·
     exact e
   have l1 := intL_w11 (zdP h).2.2.1.1 (zdP h).2.2.1.2
   simp only at l1
   unfold nmL
   rw [if_pos hs]
   simp
   omega
 unfold insLn
 simp only [List.length_append, List.length_singleton]
 omega
def zhs (xs : List Int) : Prop := ∀ x ∈ xs, -2147483648 ≤ x ∧ x ≤ 2147483647
theorem zhs.at {xs : List Int} (h : zhs xs) (j : Nat) : -2147483648 ≤ xs.getD j 0 ∧ xs.getD j 0 ≤ 2147483647 := by
 rw [List.getD_eq_getElem?_getD]
 rcases Nat.lt_or_ge j xs.length with hj | hj
 ·
  rw [List.getElem?_eq_getElem hj]; exact h _ (List.getElem_mem hj)
 ·
  rw [List.getElem?_eq_none hj]; decide
theorem zhs.set {xs : List Int} (h : zhs xs) (j : Nat) {z : Int} (hz : -2147483648 ≤ z ∧ z ≤ 2147483647) : zhs (xs.set j z) := fun q hq => by
 rcases List.mem_or_eq_of_mem_set hq with e | e
 ·
  exact h q e
 ·
  rw [e]; exact hz
def runP (rs : List Rt) (nm : List UInt8) (xs : List Int) (fuel : Int) : Prop := imageB rs = true ∧ 0 ≤ at14 rs nm ∧ (xs.length : Int) = (rs.getD (at14 rs nm).toNat rt0).2.1 ∧ (0 ≤ fuel ∧ fuel ≤ 20000) ∧ zhs xs
instance (xs : List Int) : Decidable (zhs xs) := by unfold zhs; infer_instance
instance (rs : List Rt) (nm : List UInt8) (xs : List Int) (fuel : Int) : Decidable (runP rs nm xs fuel) := by unfold runP; infer_instance
def rtsB (rs : List Rt) (most : Int) : Bool := decide ((1 ≤ (rs.length : Int) ∧ (rs.length : Int) ≤ most) ∧ (∀ i, i < rs.length → rtB (rs.getD i rt0) = true) ∧ ∀ i, i < rs.length - 1 → leT (rs.getD (i + 1) rt0).1 (rs.getD i rt0).1 = false)
theorem rtsB_few {rs : List Rt} {m : Int} (h : (rs.length : Int) < 1 ∨ m < (rs.length : Int)) : rtsB rs m = false := decide_eq_false (fun e => by have := e.1; omega)
structure RrSt (rs : List Rt) (k : Nat) (z : List UInt8) : Prop where
 oks : ∀ i, i < k → rtB (rs.getD i rt0) = true
 rise : ∀ i, i + 1 < k → leT (rs.getD (i + 1) rt0).1 (rs.getD i rt0).1 = false
 last : (k = 0 ∧ z = []) ∨ (0 < k ∧ z = (rs.getD (k - 1) rt0).1)
theorem RrSt.start (rs : List Rt) : RrSt rs 0 [] := ⟨fun i hi => by omega, fun i hi => by omega, Or.inl ⟨rfl, rfl⟩⟩
theorem RrSt.noOk {rs : List Rt} {k : Nat} {m : Int} (hk : k < rs.length) (hn : rtB (rs.getD k rt0) = false) : rtsB rs m = false := decide_eq_false (fun g => by rw [g.2.1 k hk] at hn; cases hn)
theorem leT_nilR {x : List UInt8} (h : zba x = true) : leT x [] = false := by
 have h1 := (zfO h).1
 cases x with
 | nil => simp at h1
 | cons c r => simp [leT, Op.bytesLess]
theorem RrSt.noRise {rs : List Rt} {k : Nat} {z : List UInt8} {m : Int} (h : RrSt rs k z) (hk : k < rs.length) (hn : rtB (rs.getD k rt0) = true) (hl : leT (rs.getD k rt0).1 z = true) : rtsB rs m = false := by
 rcases h.last with ⟨rfl, rfl⟩ | ⟨h0, rfl⟩
 ·
  rw [leT_nilR (zks hn).1] at hl; cases hl
 ·
  refine decide_eq_false (fun g => ?_)
  have := g.2.2 (k - 1) (by omega)
  rw [show k - 1 + 1 = k by omega, hl] at this
  cases this
theorem RrSt.step {rs : List Rt} {k : Nat} {z : List UInt8} (h : RrSt rs k z) (hn : rtB (rs.getD k rt0) = true) (hl : leT (rs.getD k rt0).1 z = false) : RrSt rs (k + 1) (rs.getD k rt0).1 := by
 refine ⟨fun i hi => ?_, fun i hi => ?_, Or.inr ⟨by omega, by rw [Nat.add_sub_cancel]⟩⟩
 ·
  rcases Nat.lt_or_ge i k with g | g
  ·
   exact h.oks i g
  ·
   obtain rfl : i = k := by omega
   exact hn
 ·
  rcases Nat.lt_or_ge (i + 1) k with g | g
  ·
   exact h.rise i g
  ·
   obtain rfl : k = i + 1 := by omega
   rcases h.last with ⟨e, _⟩ | ⟨_, rfl⟩
   ·
    omega
   ·
    rw [Nat.add_sub_cancel] at hl; exact hl
theorem RrSt.all {rs : List Rt} {z : List UInt8} {m : Int} (h : RrSt rs rs.length z) (hl : 1 ≤ (rs.length : Int) ∧ (rs.length : Int) ≤ m) : rtsB rs m = true := decide_eq_true ⟨hl, h.oks, fun i hi => h.rise i (by omega)⟩
theorem ziV {n : Int} {c : List In13} : c.all (argB n) = true ↔ ∀ k, k < c.length → argB n (c.getD k in0) = true := by
 rw [List.all_eq_true]
 constructor
 ·
  intro h k hk
  exact h _ (by rw [List.getD_eq_getElem?_getD, List.getElem?_eq_getElem hk]; exact List.getElem_mem hk)
 ·
  intro h x hx
  obtain ⟨k, hk, rfl⟩ := List.getElem_of_mem hx
  have := h k hk
  simpa [List.getD, hk] using this
theorem arg_noI {n : Int} {c : List In13} {k : Nat} (hk : k < c.length) (h : argB n (c.getD k in0) = false) : c.all (argB n) = false := by
 rcases hx : c.all (argB n) with _ | _
 ·
  rfl
 ·
  rw [ziV.1 hx k hk] at h; cases h
def zdh (w : World) (a : Option Addr) (len : Nat) (rs : List Rt) : Prop :=
 rs.length = len ∧ ∀ j, j < len → ∃ b off, a = some ⟨b, off, none⟩ ∧ b < w.heap.size ∧ w.cell? ⟨b, off + j * 3, none⟩ = some (.string ⟨(rs.getD j rt0).1.toArray⟩) ∧ w.cell? ⟨b, off + j * 3 + 1, none⟩ = some (.int .i64 (rs.getD j rt0).2.1) ∧
  ∃ ca cl cc, w.cell? ⟨b, off + j * 3 + 2, none⟩ = some (.slice ca cl cc) ∧ zbD w ca cl (rs.getD j rt0).2.2
theorem zdh.below {w w' : World} {a : Option Addr} {len : Nat} {rs : List Rt} (h : zdh w a len rs) (hb : Below w.heap.size w w') : zdh w' a len rs := by
 refine ⟨h.1, fun j hj => ?_⟩
 obtain ⟨b, off, e, hlt, c0, c1, ca, cl, cc, c2, hn⟩ := h.2 j hj
 exact ⟨b, off, e, Nat.lt_of_lt_of_le hlt hb.size, (hb.cell (p := ⟨b, off + j * 3, none⟩) hlt).trans c0, (hb.cell (p := ⟨b, off + j * 3 + 1, none⟩) hlt).trans c1, ca, cl, cc, (hb.cell (p := ⟨b, off + j * 3 + 2, none⟩) hlt).trans c2, hn.below hb⟩
def zcQ (rs : List Rt) : Prop := ∀ j, (rs.getD j rt0).1.length ≤ 1048576 ∧ (rs.getD j rt0).2.2.length ≤ 1048576 ∧ zcA (rs.getD j rt0).2.2
theorem arg_all {c : List In13} {n : Int} (h : ∀ j, j < c.length → argB n (c.getD j in0) = true) : c.all (argB n) = true := by
 rw [List.all_eq_true]
 intro i hi
 obtain ⟨j, hj, rfl⟩ := List.getElem_of_mem hi
 have := h j hj
 simpa only [List.getD, List.getElem?_eq_getElem hj, Option.getD_some] using this
theorem arg_no {c : List In13} {n : Int} {j : Nat} (hj : j < c.length) (h : argB n (c.getD j in0) = false) : c.all (argB n) = false := by
 rw [Bool.eq_false_iff]
 intro e
 have := List.all_eq_true.1 e c[j] (List.getElem_mem hj)
 simp only [List.getD, List.getElem?_eq_getElem hj, Option.getD_some] at h
 rw [h] at this
 cases this
set_option maxHeartbeats 4000000 in
set_option maxRecDepth 100000 in
theorem zhB (n : List UInt8) (a : Int) (ca : Option Addr) (cl cc : Nat) (c : List In13) (w : World) (hin : zbD w ca cl c) (hsh : zcA c) (hlen : cl ≤ 1048576) (hn : n.length ≤ 1048576) :
 Calls Tryz.prog 68 #[.agg #[.string ⟨n.toArray⟩, .int .i64 a, .slice ca cl cc]] w fun e w' => e = .returned (.bool (rtB (n, a, c))) ∧ Below w.heap.size w w' := by
 obtain rfl : c.length = cl := hin.1
 obtain ⟨W, hW⟩ : ∃ W, w.alloc (.cells #[.string ⟨n.toArray⟩, .int .i64 a, .slice ca c.length cc] 51) = W := ⟨_, rfl⟩
 have hbW : Below w.heap.size w W := by rw [← hW]; exact (Below.refl _ _).alloc (Nat.le_refl _) _
 have hA : W.heap[w.heap.size]? = some (.cells #[.string ⟨n.toArray⟩, .int .i64 a, .slice ca c.length cc] 51) := by rw [← hW]; exact heap_alloc_new w _
 obtain ⟨D, hD⟩ : ∃ D, w.heap.size = D := ⟨_, rfl⟩
 rw [hD] at hA
 have k0 : W.cell? ⟨D, 0, none⟩ = some (.string ⟨n.toArray⟩) := by simp [World.cell?, hA]
 have k1 : W.cell? ⟨D, 1, none⟩ = some (.int .i64 a) := by simp [World.cell?, hA]
 have k2 : W.cell? ⟨D, 2, none⟩ = some (.slice ca c.length cc) := by simp [World.cell?, hA]
 have hDl : D < W.heap.size := World.block_lt_of_cell? W ⟨D, 0, none⟩ k0
 have HK : Hid (∀ Z, Below W.heap.size W Z → Z.cell? ⟨D, 0, none⟩ = some (.string ⟨n.toArray⟩) ∧ Z.cell? ⟨D, 1, none⟩ = some (.int .i64 a) ∧ Z.cell? ⟨D, 2, none⟩ = some (.slice ca c.length cc)) := fun Z hz => ⟨(hz.cell (p := ⟨D, 0, none⟩) hDl).trans k0, (hz.cell (p := ⟨D, 1, none⟩) hDl).trans k1, (hz.cell (p := ⟨D, 2, none⟩) hDl).trans k2⟩
 have HI : Hid (∀ Z, Below W.heap.size W Z → zbD Z ca c.length c) := fun Z hz => (hin.below hbW).below hz
 have HN : Hid (_) := zfI n W hn
 have HC : Hid (∀ Z, Below W.heap.size W Z → Calls Tryz.prog 98 #[.slice ca c.length cc] Z fun e w' => e = .returned (.bool (zbV c)) ∧ Below Z.heap.size Z w') := fun Z hz => zj5 ca c.length cc c Z ((hin.below hbW).below hz) hsh hlen
 have HIn : Hid (_) := fun Z : World => zch a 0 3 Z
 have HB : Hid (Below w.heap.size w W) := hbW
 have HV : Hid (rtB (n, a, c) = ((zba n && (inB a 0 3 && zbV c)) && c.all (argB a))) := rfl
 generalize zba n = b1 at HN HV
 generalize inB a 0 3 = b2 at HIn HV
 generalize zbV c = b3 at HC HV
 clear hin hsh hbW hA k1 k2 hDl
 go_enter Tryz.func68, Tryz.ntmps68
 go_wp2_with fail
 refine Calls.mono HN.out ?_
 rintro e W1 ⟨rfl, hb1⟩
 obtain ⟨_, k1, k2⟩ := HK.out W1 hb1
 have HB1 : Hid (Below W.heap.size W W1) := hb1
 have HF1 : Hid (Below w.heap.size w W1) := HB.out.trans (hb1.mono HB.out.size)
 clear hb1 k0
 rcases b1 with _ | _
 ·
  go_wp2
  go_ret
  exact ⟨by rw [HV.out]; rfl, hD ▸ HF1.out⟩
 ·
  go_wp2_with fail
  refine Calls.mono (HIn.out _) ?_
  rintro e W2 ⟨rfl, hw2⟩
  obtain rfl := hw2.symm
  clear hw2
  rcases b2 with _ | _
  ·
   go_wp2
   go_ret
   exact ⟨by rw [HV.out]; rfl, hD ▸ HF1.out⟩
  ·
   go_wp2_with fail
   refine Calls.mono (HC.out _ HB1.out) ?_
   rintro e W3 ⟨rfl, hb3⟩
   have HB3 : Hid (Below W.heap.size W W3) := HB1.out.trans (hb3.mono HB1.out.size)
   clear hb3 k1 k2
   obtain ⟨_, k1, k2⟩ := HK.out W3 HB3.out
   have HF3 : Hid (Below w.heap.size w W3) := HB.out.trans (HB3.out.mono HB.out.size)
   rcases b3 with _ | _
   ·
    go_wp2
    go_ret
    exact ⟨by rw [HV.out]; rfl, hD ▸ HF3.out⟩
   ·
    go_wp2
    go_loopw [3] (fun iv wr => ∃ q : Nat, iv = .int .i64 (q : Int) ∧ q ≤ c.length ∧ Hid (∀ u, u < q → argB a (c.getD u in0) = true) ∧ Hid (Below W.heap.size W wr)) (fun iv _ => c.length - (intOf iv).toNat)
    case atStart => exact ⟨0, rfl, Nat.zero_le _, fun u hu => by omega, HB3⟩
    case round =>
     obtain ⟨q, rfl, hq, HQ, HBr⟩ := hrel
     clear k1 k2 HB3 HF3
     obtain ⟨_, k1, k2⟩ := HK.out wr HBr.out
     by_cases hlt : (q : Int) < (c.length : Int)
     ·
      obtain ⟨cb, co, rfl, _, x0, _, x2, _, _⟩ := (HI.out wr HBr.out).2 q (by omega)
      obtain ⟨i, hi⟩ : ∃ i, c.getD q in0 = i := ⟨_, rfl⟩
      rw [hi] at x0 x2
      obtain ⟨kd, r, aa, bb, s⟩ := i
      simp only at x0 x2
      have hBd : Below W.heap.size W wr.drew := HBr.out.trans ⟨rfl, rfl, rfl, Nat.le_refl _, fun _ _ => rfl⟩
      have HBd : Hid (Below W.heap.size W wr.drew) := hBd
      clear hBd
      by_cases h2 : kd = 2
      ·
       subst h2
       by_cases hge : a ≤ aa
       ·
        have HN2 : Hid (c.all (argB a) = false) := arg_no (j := q) (by omega) (by rw [hi]; unfold argB; simp [hge])
        have hge2 : aa ≥ a := hge
        clear hi
        go_wp2
        refine wp_region_held_drew (S := (fun Z => Z.cell? ⟨D, 1, none⟩ = some (.int .i64 a) ∧ Z.cell? ⟨D, 2, none⟩ = some (.slice (some ⟨cb, co, none⟩) c.length cc) ∧ Z.cell? ⟨cb, co + q * 5, none⟩ = some (.int .i64 2) ∧ Z.cell? ⟨cb, co + q * 5 + 2, none⟩ = some (.int .i64 aa))) (by kernel_rfl) ?_ (fun hHeld => ?_)
        ·
         first | (dsimp only; done) | (dsimp only; go_keep) | go_keep
        refine tkO [(0, 27), (1, 28), (2, 29), (3, 30), (4, 31), (5, 32), (6, 33), (7, 34), (8, 35), (9, 36), (10, 37), (11, 38), (12, 39), (13, 40), (14, 41), (15, 42), (16, 43), (17, 44)] ?_
        repeat (refine tkY ?_ rfl (by rfl) ?_ ?_; rotate_left; (focus (intro wq hSw; (try dsimp only at hSw); first | (go_simp; done) | (go_simp; with_reducible rfl))); simp only [zP])
        refine tkZ ?_
        refine wpAnyH_done (by kernel_rfl) ?_ _
        go_wp2
        go_ret
        exact ⟨by rw [HV.out, HN2.out]; rfl, hD ▸ (HB.out.trans (HBd.out.mono HB.out.size))⟩
       ·
        have HQ2 : Hid (∀ u, u < q + 1 → argB a (c.getD u in0) = true) := fun u hu => by
         by_cases e : u = q
         ·
          rw [e, hi]; unfold argB; simp; omega
         ·
          exact HQ.out u (by omega)
        have hge2 : ¬ aa ≥ a := hge
        clear hi
        go_wp2
        refine wp_region_held_drew (S := (fun Z => Z.cell? ⟨D, 1, none⟩ = some (.int .i64 a) ∧ Z.cell? ⟨D, 2, none⟩ = some (.slice (some ⟨cb, co, none⟩) c.length cc) ∧ Z.cell? ⟨cb, co + q * 5, none⟩ = some (.int .i64 2) ∧ Z.cell? ⟨cb, co + q * 5 + 2, none⟩ = some (.int .i64 aa))) (by kernel_rfl) ?_ (fun hHeld => ?_)
        ·
         first | (dsimp only; done) | (dsimp only; go_keep) | go_keep
        refine tkO [(0, 27), (1, 28), (2, 29), (3, 30), (4, 31), (5, 32), (6, 33), (7, 34), (8, 35), (9, 36), (10, 37), (11, 38), (12, 39), (13, 40), (14, 41), (15, 42), (16, 43), (17, 44)] ?_
        repeat (refine tkY ?_ rfl (by rfl) ?_ ?_; rotate_left; (focus (intro wq hSw; (try dsimp only at hSw); first | (go_simp; done) | (go_simp; with_reducible rfl))); simp only [zP])
        refine tkZ ?_
        refine wpAnyH_done (by kernel_rfl) ?_ _
        go_wp2
        go_roundw
        case rel => exact ⟨q + 1, by go_num, by omega, HQ2, HBd⟩
        case measure => simp [intOf]; omega
      ·
       have HQ2 : Hid (∀ u, u < q + 1 → argB a (c.getD u in0) = true) := fun u hu => by
        by_cases e : u = q
        ·
         rw [e, hi]; unfold argB; simp [h2]
        ·
         exact HQ.out u (by omega)
       have h2b : (kd == 2) = false := beq_eq_false_iff_ne.2 h2
       clear hi
       go_wp2
       refine wp_region_held_drew (S := (fun Z => Z.cell? ⟨D, 1, none⟩ = some (.int .i64 a) ∧ Z.cell? ⟨D, 2, none⟩ = some (.slice (some ⟨cb, co, none⟩) c.length cc) ∧ Z.cell? ⟨cb, co + q * 5, none⟩ = some (.int .i64 kd) ∧ Z.cell? ⟨cb, co + q * 5 + 2, none⟩ = some (.int .i64 aa))) (by kernel_rfl) ?_ (fun hHeld => ?_)
       ·
        first | (dsimp only; done) | (dsimp only; go_keep) | go_keep
       refine tkO [(0, 27), (1, 28), (2, 29), (3, 30), (4, 31), (5, 32), (6, 33), (7, 34), (8, 35), (9, 36), (10, 37), (11, 38), (12, 39), (13, 40), (14, 41), (15, 42), (16, 43), (17, 44)] ?_
       repeat ((first | (refine tkY ?_ rfl (by rfl) ?_ ?_; rotate_left; (focus (intro wq hSw; (try dsimp only at hSw); first | (go_simp; done) | (go_simp; with_reducible rfl)))) | refine tkN rfl (by rfl) ?_); simp only [zP])
       refine tkZ ?_
       refine wpAnyH_done (by kernel_rfl) ?_ _
       go_wp2
       go_roundw
       case rel => exact ⟨q + 1, by go_num, by omega, HQ2, HBd⟩
       case measure => simp [intOf]; omega
     ·
      have HN2 : Hid (c.all (argB a) = true) := arg_all (fun u hu => HQ.out u (by omega))
      go_wp2
      go_ret
      exact ⟨by rw [HV.out, HN2.out]; rfl, hD ▸ (HB.out.trans (HBr.out.mono HB.out.size))⟩
structure zaQ (w w' : World) (S : Nat → Prop) : Prop where
 os : w'.os = w.os
 tape : w'.tape = w.tape
 output : w'.output = w.output
 size : w.heap.size ≤ w'.heap.size
 block : ∀ k, k < w.heap.size → ¬ S k → w'.heap[k]? = w.heap[k]?
theorem zaQ.refl (w : World) (S : Nat → Prop) : zaQ w w S := ⟨rfl, rfl, rfl, Nat.le_refl _, fun _ _ _ => rfl⟩
theorem zaQ.trans {a b c : World} {S : Nat → Prop} (h : zaQ a b S) (k : zaQ b c S) : zaQ a c S :=
 ⟨k.os.trans h.os, k.tape.trans h.tape, k.output.trans h.output, Nat.le_trans h.size k.size, fun i hi hs => (k.block i (Nat.lt_of_lt_of_le hi h.size) hs).trans (h.block i hi hs)⟩
theorem zaQ.mono {w w' : World} {S T : Nat → Prop} (h : zaQ w w' S) (hs : ∀ k, S k → T k) : zaQ w w' T := ⟨h.os, h.tape, h.output, h.size, fun k hk hn => h.block k hk (fun e => hn (hs k e))⟩
theorem zaQ.of_grown {w w' : World} {row : Option Nat} {S : Nat → Prop} (h : w.grownBy w' row) (hs : ∀ k, row = some k → S k) : zaQ w w' S :=
 ⟨h.os, h.tape, h.output, h.size, fun k hk hn => h.block k hk (fun e => hn (hs k e.symm))⟩
theorem zaQ.of_below {w w' : World} {S : Nat → Prop} (h : Below w.heap.size w w') : zaQ w w' S := ⟨h.os, h.tape, h.output, h.size, fun k hk _ => h.block k hk⟩
theorem zaQ.below {w w' : World} {S : Nat → Prop} {B : Nat} (h : zaQ w w' S) (hB : B ≤ w.heap.size) (hs : ∀ k, S k → B ≤ k) : Below B w w' :=
 ⟨h.os, h.tape, h.output, h.size, fun k hk => h.block k (Nat.lt_of_lt_of_le hk hB) (fun e => by have := hs k e; omega)⟩
theorem zd2 {w w' : World} {base e size n : Nat} {v : Value} {xs : List Value} {S : Nat → Prop} (h : w.ownsRow base e size v n xs) (hw : zaQ w w' S) (hv : ∀ k, v.ownBlock = some k → ¬ S k) : w'.ownsRow base e size v n xs := by
 refine ⟨h.1, ?_⟩
 rcases h.2 with hn | ⟨g, cap, cur, rfl, hb, hgg, rest⟩
 ·
  exact .inl hn
 ·
  refine .inr ⟨g, cap, cur, rfl, hb, ?_, rest⟩
  rw [hw.block g (Array.getElem?_eq_some_iff.1 hgg).1 (hv g rfl)]
  exact hgg
def zbm (vs : List Value) : Prop := vs.Pairwise (fun a b => a.ownBlock = none ∨ a.ownBlock ≠ b.ownBlock)
theorem zbm.ne {vs : List Value} (h : zbm vs) {i j : Nat} (hi : i < vs.length) (hj : j < vs.length) (hij : i ≠ j) : vs[i].ownBlock = none ∨ vs[i].ownBlock ≠ vs[j].ownBlock := by
 rcases Nat.lt_or_gt_of_ne hij with hl | hl
 ·
  exact List.pairwise_iff_getElem.1 h i j hi hj hl
 ·
  rcases List.pairwise_iff_getElem.1 h j i hj hi hl with e | e
  ·
   rw [e]; cases vs[i].ownBlock <;> simp
  ·
   exact Or.inr (fun e2 => e e2.symm)
theorem zbm.nil : zbm [] := List.Pairwise.nil
theorem zbm.snoc {vs : List Value} {u : Value} (h : zbm vs) (hu : ∀ v ∈ vs, v.ownBlock = none ∨ v.ownBlock ≠ u.ownBlock) : zbm (vs ++ [u]) :=
 List.pairwise_append.2 ⟨h, List.pairwise_singleton _ _, fun a ha b hb => by rw [List.mem_singleton] at hb; subst hb; exact hu a ha⟩
theorem zjg {w w' : World} {b1 b2 e1 e2 s1 s2 n1 n2 : Nat} {v1 v2 : Value} {xs ys : List Value} (h1 : w.ownsRow b1 e1 s1 v1 n1 xs) (h2 : w'.ownsRow b2 e2 s2 v2 n2 ys) (hb : w.heap.size ≤ b2) : v1.ownBlock = none ∨ v1.ownBlock ≠ v2.ownBlock := by
 cases hv : v1.ownBlock with
 | none => exact Or.inl rfl
 | some k =>
  refine Or.inr (fun e => ?_)
  have l1 := (h1.lt k hv).2
  have l2 := (h2.lt k e.symm).1
  omega
theorem set3R {X : World} {R : Nat} {a0 a1 a2 : Value} (u0 u1 u2 : Value) (r0 : X.cell? ⟨R, 0, none⟩ = some a0) (r1 : X.cell? ⟨R, 1, none⟩ = some a1) (r2 : X.cell? ⟨R, 2, none⟩ = some a2) :
 ∃ Y, ((X.setCell ⟨R, 0, none⟩ u0).setCell ⟨R, 1, none⟩ u1).setCell ⟨R, 2, none⟩ u2 = Y ∧ Y.cell? ⟨R, 0, none⟩ = some u0 ∧ Y.cell? ⟨R, 1, none⟩ = some u1 ∧ Y.cell? ⟨R, 2, none⟩ = some u2 ∧ X.grownBy Y (some R) := by
 refine ⟨_, rfl, ?_, ?_, ?_, ?_⟩
 ·
  exact (World.cell?_setCell_other _ _ _ _ (by simp)).trans ((World.cell?_setCell_other _ _ _ _ (by simp)).trans (World.cell?_setCell_same _ _ _ r0))
 ·
  exact (World.cell?_setCell_other _ _ _ _ (by simp)).trans (World.cell?_setCell_same _ _ _ ((World.cell?_setCell_other _ _ _ _ (by simp)).trans r1))
 ·
  exact World.cell?_setCell_same _ _ _ ((World.cell?_setCell_other _ _ _ _ (by simp)).trans ((World.cell?_setCell_other _ _ _ _ (by simp)).trans r2))
 ·
  exact ((zaC _ _ _ _).trans (zaC _ _ _ _)).trans (zaC _ _ _ _)
theorem zdW {X W : World} {R : Nat} {u0 u1 u2 : Value} {T : TypeId} (hX : Below W.heap.size W X) (hlt : R < W.heap.size) (hR : W.heap[R]? = some (.cells #[u0, u1, u2] T)) :
 X.cell? ⟨R, 0, none⟩ = some u0 ∧ X.cell? ⟨R, 1, none⟩ = some u1 ∧ X.cell? ⟨R, 2, none⟩ = some u2 ∧ ∀ j, X.frozen? ⟨R, j, none⟩ = false := by
 have e := (hX.block R hlt).trans hR
 clear hX hR
 exact ⟨by simp [World.cell?, e], by simp [World.cell?, e], by simp [World.cell?, e], fun j => by simp [World.frozen?, e]⟩
theorem zir {w : World} {base e size n R : Nat} {v : Value} {xs : List Value} (h : w.ownsRow base e size v n xs) (hR : R < base) : v.ownBlock = none ∨ v.ownBlock ≠ some R := by
 rcases hv : v.ownBlock with _ | k
 ·
  exact Or.inl rfl
 ·
  refine Or.inr (fun e => ?_)
  have := (h.lt k hv).1
  injection e with e
  omega
theorem zaK {w : World} {b1 b2 e1 e2 s1 s2 n1 n2 : Nat} {v1 v2 : Value} {xs ys : List Value} (h1 : w.ownsRow b1 e1 s1 v1 n1 xs) (h2 : w.ownsRow b2 e2 s2 v2 n2 ys) (he : e1 ≠ e2) : v1.ownBlock = none ∨ v1.ownBlock ≠ v2.ownBlock := by
 rcases h1.2 with ⟨rfl, _⟩ | ⟨g, c, cur, rfl, _, hg, _⟩
 ·
  exact Or.inl rfl
 ·
  rcases h2.2 with ⟨rfl, _⟩ | ⟨g2, c2, cur2, rfl, _, hg2, _⟩
  ·
   exact Or.inr (by simp [Value.ownBlock])
  ·
   refine Or.inr (fun e => ?_)
   simp only [Value.ownBlock, Option.some.injEq] at e
   subst e
   rw [hg] at hg2
   simp only [Option.some.injEq, Obj.cells.injEq] at hg2
   exact he hg2.2.1
theorem zjP (b off i : Nat) : (⟨b, off, none⟩ : Addr).add i = ⟨b, off + i, none⟩ := by unfold Addr.add; split <;> simp_all
abbrev RV := Rt × Option Addr × Nat
def rvT (x : RV) : Value := .slice x.2.1 x.1.2.2.length x.2.2
def rtsV : List RV → List Value
 | [] => []
 | x :: r => .string ⟨x.1.1.toArray⟩ :: .int .i64 x.1.2.1 :: rvT x :: rtsV r
def rv0 : RV := (rt0, none, 0)
theorem zed (xs : List RV) : (rtsV xs).length = xs.length * 3 := by
 induction xs with
 | nil => rfl
 | cons n r ih => simp only [rtsV, List.length_cons, ih]; omega
theorem zeu (x y : List RV) : rtsV (x ++ y) = rtsV x ++ rtsV y := by
 induction x with
 | nil => rfl
 | cons n r ih => simp [rtsV, ih]
theorem zga (xs : List RV) : ∀ u ∈ rtsV xs, u.oneCell' = true := by
 induction xs with
 | nil => intro u hu; cases hu
 | cons n r ih =>
  intro u hu
  simp only [rtsV, List.mem_cons] at hu
  rcases hu with rfl | rfl | rfl | h
  ·
   rfl
  ·
   rfl
  ·
   rfl
  ·
   exact ih u h
theorem zet (xs : List RV) (j : Nat) (hj : j < xs.length) : (rtsV xs)[j * 3]? = some (.string ⟨(xs.getD j rv0).1.1.toArray⟩) ∧ (rtsV xs)[j * 3 + 1]? = some (.int .i64 (xs.getD j rv0).1.2.1) ∧ (rtsV xs)[j * 3 + 2]? = some (rvT (xs.getD j rv0)) := by
 induction xs generalizing j with
 | nil => simp at hj
 | cons n r ih =>
  cases j with
  | zero => simp [rtsV]
  | succ j =>
   obtain ⟨h0, h1, h2⟩ := ih j (by simpa using hj)
   refine ⟨?_, ?_, ?_⟩
   ·
    rw [show (j + 1) * 3 = j * 3 + 1 + 1 + 1 by omega]; simpa [rtsV] using h0
   ·
    rw [show (j + 1) * 3 + 1 = j * 3 + 1 + 1 + 1 + 1 by omega]; simpa [rtsV] using h1
   ·
    rw [show (j + 1) * 3 + 2 = j * 3 + 2 + 1 + 1 + 1 by omega]; simpa [rtsV] using h2
structure za6 (w : World) (base : Nat) (v : Value) (xs : List RV) : Prop where
 row : w.ownsRow base 51 3 v xs.length (rtsV xs)
 trees : ∀ x ∈ xs, w.ownsRow base 88 5 (rvT x) x.1.2.2.length (insV x.1.2.2)
theorem za6.below {w w' : World} {base : Nat} {v : Value} {xs : List RV} (h : za6 w base v xs) (hb : Below w.heap.size w w') : za6 w' base v xs := ⟨za2 h.row hb, fun x hx => za2 (h.trees x hx) hb⟩
theorem za6.kept {w w' : World} {base : Nat} {v : Value} {xs : List RV} {row : Option Nat} (h : za6 w base v xs) (hg : w.grownBy w' row) (h1 : v.ownBlock = none ∨ v.ownBlock ≠ row) (h2 : ∀ x ∈ xs, (rvT x).ownBlock = none ∨ (rvT x).ownBlock ≠ row) : za6 w' base v xs :=
 ⟨h.row.kept hg h1, fun x hx => (h.trees x hx).kept hg (h2 x hx)⟩
theorem za6.base {w : World} {base b2 : Nat} {v : Value} {xs : List RV} (h : za6 w base v xs) (hb : b2 ≤ base) : za6 w b2 v xs := ⟨zaj h.row hb, fun x hx => zaj (h.trees x hx) hb⟩
theorem za6.nil (w : World) (base : Nat) : za6 w base (.slice none 0 0) [] := ⟨World.ownsRow_nil w _ _ _, fun x hx => by cases hx⟩
theorem zbT (xs : List RV) (j : Nat) : (xs.map (·.1)).getD j rt0 = (xs.getD j rv0).1 := by
 rw [List.getD_eq_getElem?_getD, List.getD_eq_getElem?_getD, List.getElem?_map]
 cases xs[j]? <;> rfl
theorem za6.in {w : World} {base : Nat} {v : Value} {xs : List RV} (h : za6 w base v xs) : ∃ a cap, v = .slice a xs.length cap ∧ (a = none → cap = 0) ∧ zdh w a xs.length (xs.map (·.1)) := by
 rcases zar h.row with ⟨rfl, h0, _⟩ | ⟨g, cp, rfl⟩
 ·
  exact ⟨none, 0, by rw [h0], fun _ => rfl, by simp, fun j hj => by omega⟩
 ·
  refine ⟨some ⟨g, 0, none⟩, cp, rfl, fun e => (by cases e), by simp, fun j hj => ?_⟩
  obtain ⟨v0, v1, v2⟩ := zet xs j hj
  have hc := fun k (hk : k < xs.length * 3) => World.ownsRow.cellAt h.row k hk
  have hmem : xs.getD j rv0 ∈ xs := by rw [List.getD_eq_getElem?_getD, List.getElem?_eq_getElem hj]; exact List.getElem_mem hj
  obtain ⟨hl, a, cap, e, hn⟩ := zdL (h.trees _ hmem)
  refine ⟨g, 0, rfl, (h.row.lt g rfl).2, ?_, ?_, (xs.getD j rv0).2.1, (xs.getD j rv0).1.2.2.length, (xs.getD j rv0).2.2, ?_, ?_⟩
  ·
   rw [Nat.zero_add, hc _ (by omega), v0, zbT]
  ·
   rw [Nat.zero_add, hc _ (by omega), v1, zbT]
  ·
   rw [Nat.zero_add, hc _ (by omega), v2]; rfl
  ·
   rw [zbT]
   unfold rvT at e
   injection e with e1 e2 e3
   rw [e1]; exact hn
theorem zlf : (Tryz.prog.info? 51).map (fun i => (i.zero, i.size, i.bytes)) = some (some (.agg #[.string ⟨#[]⟩, .int .i64 0, .slice none 0 0]), 3, 48) := by kernel_rfl
theorem new_rt (w : World) (x : RV) (c : Nat) : Src (w.alloc (.cells #[.string ⟨x.1.1.toArray⟩, .int .i64 x.1.2.1, rvT x] 51)) (.slice (some ⟨w.heap.size, 0, none⟩) 1 c) 1 3 (rtsV [x]) := by
 refine ⟨rfl, zga _, Or.inr ⟨_, c, rfl, fun j u hu => ?_⟩⟩
 rw [zjP, Nat.zero_add]
 match j, hu with
 | 0, hu => simp [rtsV] at hu; subst hu; simp
 | 1, hu => simp [rtsV] at hu; subst hu; simp
 | 2, hu => simp [rtsV] at hu; subst hu; simp
 | j + 3, hu => simp [rtsV] at hu
section
open Go.ChangeShapes Go.WideShapes Go.ChangeAt Go.RowKit Go.Joins Go.Deep
def zia (is : List In13) : Prop := ∀ j, IntI (is.getD j in0)
theorem ziE : IntI in0 := by unfold IntI in0; decide
theorem zbD.at {w : World} {a : Option Addr} {len : Nat} {is : List In13} (h : zbD w a len is) (hz : 0 < len) : ∃ b off, a = some ⟨b, off, none⟩ ∧ b < w.heap.size ∧
 ∀ j, j < len → w.cell? ⟨b, off + j * 5, none⟩ = some (.int .i64 (is.getD j in0).1) ∧ w.cell? ⟨b, off + j * 5 + 1, none⟩ = some (.int .i64 (is.getD j in0).2.1) ∧ w.cell? ⟨b, off + j * 5 + 2, none⟩ = some (.int .i64 (is.getD j in0).2.2.1) ∧ w.cell? ⟨b, off + j * 5 + 3, none⟩ = some (.int .i64 (is.getD j in0).2.2.2.1) ∧ w.cell? ⟨b, off + j * 5 + 4, none⟩ = some (.string ⟨(is.getD j in0).2.2.2.2.toArray⟩) := by
 obtain ⟨b, off, rfl, hb, _⟩ := h.2 0 hz
 refine ⟨b, off, rfl, hb, fun j hj => ?_⟩
 obtain ⟨b', off', e, _, c⟩ := h.2 j hj
 simp only [Option.some.injEq, Addr.mk.injEq, and_true] at e
 obtain ⟨rfl, rfl⟩ := e
 exact c
theorem insV_set (ns : List In13) (j : Nat) (k r a b : Int) (s : List UInt8) : (((((insV ns).set (j * 5) (.int .i64 k)).set (j * 5 + 1) (.int .i64 r)).set (j * 5 + 2) (.int .i64 a)).set (j * 5 + 3) (.int .i64 b)).set (j * 5 + 4) (.string ⟨s.toArray⟩) = insV (ns.set j (k, r, a, b, s)) := by
 induction ns generalizing j with
 | nil => simp [insV]
 | cons i l ih =>
  cases j with
  | zero => simp [insV]
  | succ j => rw [show (j + 1) * 5 = j * 5 + 1 + 1 + 1 + 1 + 1 by omega]; simp [insV, ih]
set_option maxHeartbeats 400000 in
set_option maxRecDepth 100000 in
theorem eqInsC (k r a b : Int) (s : List UInt8) (w : World) :
 Calls Tryz.prog 133 #[.agg #[.int .i64 k, .int .i64 r, .int .i64 a, .int .i64 b, .string ⟨s.toArray⟩], .agg #[.int .i64 k, .int .i64 r, .int .i64 a, .int .i64 b, .string ⟨s.toArray⟩]] w fun e w' => e = .returned (.bool true) ∧ Below w.heap.size w w' := by
 have h1 : ∀ n : Int, (n != n) = false := by simp
 have h2 : ∀ l : List UInt8, (l != l) = false := by simp
 go_enter Tryz.func133, Tryz.ntmps133
 go_wp2
 go_ret
 exact ⟨rfl, ((Below.refl _ w).alloc (Nat.le_refl _) _).alloc (by simp) _⟩
set_option maxHeartbeats 2000000 in
set_option maxRecDepth 100000 in
theorem eqInsSC (a b : Option Addr) (len ca cb : Nat) (ns : List In13) (w : World) (ha : zbD w a len ns) (hb : zbD w b len ns) (hlen : len ≤ 4194304) :
 Calls Tryz.prog 90 #[.slice a len ca, .slice b len cb] w fun e w' => e = .returned (.bool true) ∧ Below w.heap.size w w' := by
 have hlb := ha.1
 have HA : Hid (zbD w a len ns) := ha
 have HB : Hid (zbD w b len ns) := hb
 clear ha hb
 have h1 : ((len : Int) != (len : Int)) = false := by simp
 go_enter Tryz.func90, Tryz.ntmps90
 go_wp2
 go_loopw [5] (fun i wr => ∃ k : Nat, k ≤ len ∧ i = .int .i64 k ∧ Below w.heap.size w wr) (fun i _ => len - (intOf i).toNat)
 case atStart => exact ⟨0, Nat.zero_le _, rfl, Below.refl _ _⟩
 case round =>
  obtain ⟨k, hk, rfl, hB⟩ := hrel
  by_cases hkl : (k : Int) < (len : Int)
  ·
   obtain ⟨b1, o1, rfl, hb1, hc1⟩ := (HA.out.below hB).at (by omega)
   obtain ⟨b2, o2, rfl, hb2, hc2⟩ := (HB.out.below hB).at (by omega)
   obtain ⟨x0, x1, x2, x3, x4⟩ := hc1 k (by omega)
   obtain ⟨y0, y1, y2, y3, y4⟩ := hc2 k (by omega)
   obtain ⟨x, hx⟩ : ∃ x, ns.getD k in0 = x := ⟨_, rfl⟩
   rw [hx] at x0 x1 x2 x3 x4 y0 y1 y2 y3 y4
   obtain ⟨kd, r, aa, bb, s⟩ := x
   simp only at x0 x1 x2 x3 x4 y0 y1 y2 y3 y4
   clear hx hc1 hc2
   go_wp2
   go_region_held3 (fun w' => w'.cell? ⟨b1, o1 + k * 5, none⟩ = some (.int .i64 kd) ∧ w'.cell? ⟨b1, o1 + k * 5 + 1, none⟩ = some (.int .i64 r) ∧ w'.cell? ⟨b1, o1 + k * 5 + 2, none⟩ = some (.int .i64 aa) ∧ w'.cell? ⟨b1, o1 + k * 5 + 3, none⟩ = some (.int .i64 bb) ∧ w'.cell? ⟨b1, o1 + k * 5 + 4, none⟩ = some (.string ⟨s.toArray⟩) ∧ w'.cell? ⟨b2, o2 + k * 5, none⟩ = some (.int .i64 kd) ∧ w'.cell? ⟨b2, o2 + k * 5 + 1, none⟩ = some (.int .i64 r) ∧ w'.cell? ⟨b2, o2 + k * 5 + 2, none⟩ = some (.int .i64 aa) ∧ w'.cell? ⟨b2, o2 + k * 5 + 3, none⟩ = some (.int .i64 bb) ∧ w'.cell? ⟨b2, o2 + k * 5 + 4, none⟩ = some (.string ⟨s.toArray⟩)) (go_keep) (first | (go_at_call 133; refine (eqInsC kd r aa bb s _).mono ?_; rintro e w1 ⟨rfl, hw1⟩; have d0 : w1.cell? ⟨b1, o1 + k * 5, none⟩ = some (.int .i64 kd) := (hw1.cell (p := ⟨b1, o1 + k * 5, none⟩) hb1).trans x0; have d1 : w1.cell? ⟨b1, o1 + k * 5 + 1, none⟩ = some (.int .i64 r) := (hw1.cell (p := ⟨b1, o1 + k * 5 + 1, none⟩) hb1).trans x1; have d2 : w1.cell? ⟨b1, o1 + k * 5 + 2, none⟩ = some (.int .i64 aa) := (hw1.cell (p := ⟨b1, o1 + k * 5 + 2, none⟩) hb1).trans x2; have d3 : w1.cell? ⟨b1, o1 + k * 5 + 3, none⟩ = some (.int .i64 bb) := (hw1.cell (p := ⟨b1, o1 + k * 5 + 3, none⟩) hb1).trans x3; have d4 : w1.cell? ⟨b1, o1 + k * 5 + 4, none⟩ = some (.string ⟨s.toArray⟩) := (hw1.cell (p := ⟨b1, o1 + k * 5 + 4, none⟩) hb1).trans x4; have e0 : w1.cell? ⟨b2, o2 + k * 5, none⟩ = some (.int .i64 kd) := (hw1.cell (p := ⟨b2, o2 + k * 5, none⟩) hb2).trans y0; have e1 : w1.cell? ⟨b2, o2 + k * 5 + 1, none⟩ = some (.int .i64 r) := (hw1.cell (p := ⟨b2, o2 + k * 5 + 1, none⟩) hb2).trans y1; have e2 : w1.cell? ⟨b2, o2 + k * 5 + 2, none⟩ = some (.int .i64 aa) := (hw1.cell (p := ⟨b2, o2 + k * 5 + 2, none⟩) hb2).trans y2; have e3 : w1.cell? ⟨b2, o2 + k * 5 + 3, none⟩ = some (.int .i64 bb) := (hw1.cell (p := ⟨b2, o2 + k * 5 + 3, none⟩) hb2).trans y3; have e4 : w1.cell? ⟨b2, o2 + k * 5 + 4, none⟩ = some (.string ⟨s.toArray⟩) := (hw1.cell (p := ⟨b2, o2 + k * 5 + 4, none⟩) hb2).trans y4))
   all_goals go_wp2
   go_roundw
   case rel => exact ⟨k + 1, by omega, by go_num, hB.trans ⟨hw1.os, hw1.tape, hw1.output, hw1.size, fun q hq => hw1.block q (by have := hB.size; show q < wr.heap.size; omega)⟩⟩
   case measure => simp [intOf]; omega
  ·
   go_wp2
   go_ret
   exact ⟨rfl, hB⟩
end

section
open Go.ChangeShapes Go.WideShapes Go.ChangeAt Go.RowKit Go.Joins Go.Deep

end
section
open Go.ChangeShapes Go.WideShapes Go.ChangeAt Go.RowKit Go.Joins Go.Deep
def IntR (rs : List Rt) : Prop := ∀ j, (-9223372036854775808 ≤ (rs.getD j rt0).2.1 ∧ (rs.getD j rt0).2.1 ≤ 9223372036854775807) ∧ zia (rs.getD j rt0).2.2
theorem zlb : zia [] := fun j => by rw [show ([] : List In13).getD j in0 = in0 by simp]; exact ziE
section
variable {H : Type} {enc : TypeId × Value → H} {W : World} {base : Nat} {spare : Nat → Bool} {held : Bool} {fuel : Nat} {v : Value} {x : DataW H × List MemPlace}
end
end
def zdD (w : World) (a : Option Addr) (len cap : Nat) (rs : List Rt) : Prop :=
 rs.length = len ∧ len ≤ cap ∧ cap ≤ maxLen ∧ ∀ j, j < len → ∃ b off, a = some ⟨b, off, none⟩ ∧ b < w.heap.size ∧ w.cell? ⟨b, off + j * 3, none⟩ = some (.string ⟨(rs.getD j rt0).1.toArray⟩) ∧ w.cell? ⟨b, off + j * 3 + 1, none⟩ = some (.int .i64 (rs.getD j rt0).2.1) ∧
  ∃ ca cl cc, w.cell? ⟨b, off + j * 3 + 2, none⟩ = some (.slice ca cl cc) ∧ zbD w ca cl (rs.getD j rt0).2.2 ∧ cl ≤ cc ∧ cc ≤ maxLen
theorem zdD.in {w : World} {a : Option Addr} {len cap : Nat} {rs : List Rt} (h : zdD w a len cap rs) : zdh w a len rs := by
 refine ⟨h.1, fun j hj => ?_⟩
 obtain ⟨b, off, e, hl, c0, c1, ca, cl, cc, c2, hn, _, _⟩ := h.2.2.2 j hj
 exact ⟨b, off, e, hl, c0, c1, ca, cl, cc, c2, hn⟩
theorem zdD.below {w w' : World} {a : Option Addr} {len cap : Nat} {rs : List Rt} (h : zdD w a len cap rs) (hb : Below w.heap.size w w') : zdD w' a len cap rs := by
 refine ⟨h.1, h.2.1, h.2.2.1, fun j hj => ?_⟩
 obtain ⟨b, off, e, hlt, c0, c1, ca, cl, cc, c2, hn, h1, h2⟩ := h.2.2.2 j hj
 exact ⟨b, off, e, Nat.lt_of_lt_of_le hlt hb.size, (hb.cell (p := ⟨b, off + j * 3, none⟩) hlt).trans c0, (hb.cell (p := ⟨b, off + j * 3 + 1, none⟩) hlt).trans c1, ca, cl, cc, (hb.cell (p := ⟨b, off + j * 3 + 2, none⟩) hlt).trans c2, hn.below hb, h1, h2⟩
structure RtOk (w : World) (a : Option Addr) (len cap : Nat) (rs : List Rt) : Prop where
 c : zdD w a len cap rs
 i : IntR rs
 s : zcQ rs
 l : len ≤ 1048576
theorem RtOk.below {w w' : World} {a : Option Addr} {len cap : Nat} {rs : List Rt} (h : RtOk w a len cap rs) (hb : Below w.heap.size w w') : RtOk w' a len cap rs := ⟨h.c.below hb, h.i, h.s, h.l⟩
theorem zcl {w : World} {base e size n c : Nat} {a : Option Addr} {xs : List Value} (h : w.ownsRow base e size (.slice a n c) n xs) : n ≤ c ∧ c ≤ maxLen := by
 rcases h.2 with ⟨h', _⟩ | ⟨g', cap', cur, h', _, _, hnc, hcm, _⟩
 ·
  injection h' with _ h1 h2
  subst h1 h2
  exact ⟨Nat.le_refl _, Nat.zero_le _⟩
 ·
  injection h' with _ _ h2
  omega
theorem za6.cap {w : World} {base n c : Nat} {a : Option Addr} {xs : List RV} {rs : List Rt} (h : za6 w base (.slice a n c) xs) (hx : xs.map (·.1) = rs) (hn : rs.length = n) : zdD w a n c rs := by
 have hxl : xs.length = n := by rw [← hn, ← hx, List.length_map]
 obtain ⟨a', c', e, _, hin⟩ := h.in
 rw [hx, hxl] at hin
 rw [hxl] at e
 injection e with e1 _ e3
 subst e1 e3
 have hrow := h.row
 rw [hxl] at hrow
 have hc := zcl hrow
 refine ⟨hin.1, hc.1, hc.2, fun j hj => ?_⟩
 obtain ⟨b, off, e, hlt, c0, c1, ca, cl, cc, c2, hn2⟩ := hin.2 j hj
 refine ⟨b, off, e, hlt, c0, c1, ca, cl, cc, c2, hn2, ?_⟩
 subst e
 obtain ⟨g, cp, e2⟩ := zag hrow (by omega)
 injection e2 with e3 _ _
 injection e3 with e3
 injection e3 with e4 e5 _
 subst e4 e5
 have hmem : xs.getD j rv0 ∈ xs := by rw [List.getD_eq_getElem?_getD, List.getElem?_eq_getElem (by omega)]; exact List.getElem_mem (by omega)
 have ht := h.trees _ hmem
 obtain ⟨_, _, v2⟩ := zet xs j (by omega)
 have h2 := hrow.cellAt (j * 3 + 2) (by omega)
 rw [v2] at h2
 rw [Nat.zero_add] at c2
 rw [c2] at h2
 injection h2 with h2
 unfold rvT at h2 ht
 injection h2 with h3 h4 h5
 subst h3 h4 h5
 exact zcl ht

abbrev Ob := List UInt8 × List (List UInt8) × List Rt
def ob0 : Ob := ([], [], [])
theorem zdX (b : UInt8) : ∀ (l cur : List UInt8), (zau b cur l).getD 0 [] = cur ++ l.takeWhile (fun c => c != b)
 | [], cur => by simp [zau]
 | c :: r, cur => by
  rw [zau]
  by_cases h : c = b
  ·
   rw [if_pos h, List.takeWhile_cons, if_neg (by simp [h])]
   simp
  ·
   rw [if_neg h, zdX b r (cur ++ [c]), List.takeWhile_cons, if_pos (bne_iff_ne.2 h)]
   simp
theorem zhA (b : UInt8) (l : List UInt8) : (zaG b l).getD 0 [] = cutA b l := by
 unfold zaG cutA
 rw [zdX, List.nil_append]
def zbw (nm : List UInt8) (ims : List (List UInt8)) (i : In13) : Bool := decide (i.1 ≠ 9) || (decide (cutA 46 i.2.2.2.2 = nm) || decide (cutA 46 i.2.2.2.2 ∈ ims))
def zdM (nm : List UInt8) (ims : List (List UInt8)) (rs : List Rt) (j : Nat) : Prop :=
 (rtB (rs.getD j rt0) = true ∧ (0 < j → leT (rs.getD j rt0).1 (rs.getD (j - 1) rt0).1 = false) ∧ cutA 46 (rs.getD j rt0).1 = nm) ∧ (rs.getD j rt0).2.2.all (zbw nm ims) = true
instance (nm : List UInt8) (ims : List (List UInt8)) (rs : List Rt) (j : Nat) : Decidable (zdM nm ims rs j) := by unfold zdM; infer_instance
def objB (o : Ob) : Bool := (zak o.1 && (zal o.2.1 && decide (1 ≤ o.2.2.length ∧ o.2.2.length ≤ 8))) && decide (∀ j, j < o.2.2.length → zdM o.1 o.2.1 o.2.2 j)
theorem ziu {o : Ob} (h : zak o.1 = false) : objB o = false := by unfold objB; rw [h]; rfl
theorem ziv {o : Ob} (h : zal o.2.1 = false) : objB o = false := by unfold objB; rw [h]; simp
theorem zkH {o : Ob} (h : ¬ (1 ≤ o.2.2.length ∧ o.2.2.length ≤ 8)) : objB o = false := by unfold objB; rw [decide_eq_false h]; simp
theorem obj_no {o : Ob} {j : Nat} (hj : j < o.2.2.length) (h : ¬ zdM o.1 o.2.1 o.2.2 j) : objB o = false := by
 have hn : ¬ (∀ j, j < o.2.2.length → zdM o.1 o.2.1 o.2.2 j) := fun e => h (e j hj)
 unfold objB
 rw [decide_eq_false hn, Bool.and_false]
theorem zkG {o : Ob} (h1 : zak o.1 = true) (h2 : zal o.2.1 = true) (h3 : 1 ≤ o.2.2.length ∧ o.2.2.length ≤ 8) (h4 : ∀ j, j < o.2.2.length → zdM o.1 o.2.1 o.2.2 j) : objB o = true := by
 unfold objB
 rw [h1, h2, decide_eq_true h3, decide_eq_true h4]; rfl
structure ObjP (o : Ob) : Prop where
 nm : zak o.1 = true
 im : zal o.2.1 = true
 l : 1 ≤ o.2.2.length ∧ o.2.2.length ≤ 8
 one : ∀ j, j < o.2.2.length → zdM o.1 o.2.1 o.2.2 j
theorem zji {o : Ob} (h : objB o = true) : ObjP o := by
 unfold objB at h
 simp only [Bool.and_eq_true, decide_eq_true_eq] at h
 exact ⟨h.1.1, h.1.2.1, h.1.2.2, h.2⟩
theorem zix {nm : List UInt8} {ims : List (List UInt8)} {c : List In13} (h : ∀ j, j < c.length → zbw nm ims (c.getD j in0) = true) : c.all (zbw nm ims) = true := by
 rw [List.all_eq_true]
 intro i hi
 obtain ⟨j, hj, rfl⟩ := List.getElem_of_mem hi
 have := h j hj
 simpa only [List.getD, List.getElem?_eq_getElem hj, Option.getD_some] using this
theorem zkV {nm : List UInt8} {ims : List (List UInt8)} {c : List In13} {j : Nat} (hj : j < c.length) (h : zbw nm ims (c.getD j in0) = false) : c.all (zbw nm ims) = false := by
 rw [Bool.eq_false_iff]
 intro e
 have := List.all_eq_true.1 e c[j] (List.getElem_mem hj)
 simp only [List.getD, List.getElem?_eq_getElem hj, Option.getD_some] at h
 rw [h] at this
 cases this
def zem (o : Ob) (j : Nat) : Prop := cutA 46 (o.2.2.getD j rt0).1 = o.1 ∧ (o.2.2.getD j rt0).2.2.all (zbw o.1 o.2.1) = true
theorem objI_rts {o : Ob} (h : rtsB o.2.2 8 = false) : objB o = false := by
 rcases e : objB o with _ | _
 ·
  rfl
 ·
  have p := zji e
  have : rtsB o.2.2 8 = true := by
   unfold rtsB
   refine decide_eq_true ⟨by have := p.l; omega, fun i hi => (p.one i hi).1.1, fun i hi => ?_⟩
   have := (p.one (i + 1) (by omega)).1.2.1 (by omega)
   rw [Nat.add_sub_cancel] at this
   exact this
  rw [this] at h
  cases h
theorem objI_no {o : Ob} {j : Nat} (hj : j < o.2.2.length) (h : ¬ zem o j) : objB o = false := obj_no hj (fun e => h ⟨e.1.2.2, e.2⟩)
theorem objI_yes {o : Ob} (h1 : zak o.1 = true) (h2 : zal o.2.1 = true) (h3 : rtsB o.2.2 8 = true) (h4 : ∀ j, j < o.2.2.length → zem o j) : objB o = true := by
 obtain ⟨q1, q2, q3⟩ := of_decide_eq_true h3
 refine zkG h1 h2 (by omega) (fun j hj => ⟨⟨q2 j hj, fun h0 => ?_, (h4 j hj).1⟩, (h4 j hj).2⟩)
 have := q3 (j - 1) (by omega)
 rw [show j - 1 + 1 = j by omega] at this
 exact this
end Go.Proofs.YtkpdoedpkncboaaGreat
