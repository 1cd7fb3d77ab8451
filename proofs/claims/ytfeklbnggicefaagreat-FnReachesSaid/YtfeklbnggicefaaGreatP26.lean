/-
  Parts of one proof, one behind the other: ProjJ, SortI, ReaI.
-/
import Derived.Test.YtfeklbnggicefaaGreatP25
import Derived.Shelf.SortM.Plain
import Derived.Ground.SlgmProg
import Derived.Test.YtfeklbnggicefaaGreatProg
import Derived.Sort.OwnSortedInts

/-! The contracts of the landed code of chapter 8: ProjectOk, a package of a project by its name, names at places. -/
namespace Go.Proofs.YtfeklbnggicefaaGreat
open Go.RowKit

/-- What ProjectOk holds ahead of place k. -/
structure PjSt (ps : List Pk) (k : Nat) (z : List UInt8) : Prop where
  ok : ∀ i, i < k → pj8 ps i
  last : (k = 0 ∧ z = []) ∨ (0 < k ∧ z = (ps.getD (k - 1) pk0).1)
theorem PjSt.pk {ps : List Pk} {k : Nat} (hk : k < ps.length) (h : pkgB (ps.getD k pk0) = false) : projB ps = false := projB_no hk (fun e => by have := e.1; rw [h] at this; cases this)
theorem PjSt.low {ps : List Pk} {k : Nat} {z : List UInt8} (s : PjSt ps k z) (hk : k < ps.length) (hp : pkgB (ps.getD k pk0) = true) (h : leT (ps.getD k pk0).1 z = true) : projB ps = false := by
  refine projB_no hk (fun e => ?_)
  rcases s.last with ⟨_, rfl⟩ | ⟨h0, rfl⟩
  · rw [leT_nil (pkgB_parts hp).1] at h; cases h
  · rw [e.2 h0] at h; cases h
theorem PjSt.step {ps : List Pk} {k : Nat} {z : List UInt8} (s : PjSt ps k z) (hp : pkgB (ps.getD k pk0) = true) (h : leT (ps.getD k pk0).1 z = false) : PjSt ps (k + 1) (ps.getD k pk0).1 := by
  refine ⟨fun i hi => ?_, Or.inr ⟨by omega, by simp⟩⟩
  rcases Nat.lt_or_ge i k with hl | hl
  · exact s.ok i hl
  · obtain rfl : i = k := by omega
    refine ⟨hp, fun h0 => ?_⟩
    rcases s.last with ⟨e, _⟩ | ⟨_, e⟩
    · omega
    · rw [← e]; exact h

set_option maxHeartbeats 4000000 in
set_option maxRecDepth 100000 in
theorem implProjectOk (a : Option Addr) (len cap : Nat) (ps : List Pk) (w : World) (h : PkgsOk w a len cap ps) :
    Calls Tryz.prog 34 #[.slice a len cap] w fun e w' => e = .returned (.bool (projB ps)) ∧ Below w.heap.size w w' := by
  obtain rfl : ps.length = len := h.hlen
  have hsm := h.small
  have HI : Hid (PkgsOk w a ps.length cap ps) := h
  clear h
  by_cases h1 : (ps.length : Int) < 1
  · have HR : Hid (projB ps = false) := by exact (by unfold projB; rw [inB_no _ _ _ (Or.inl h1), Bool.and_false] : projB ps = false)
    go_enter Tryz.func34, Tryz.ntmps34
    go_wp2
    go_ret
    exact ⟨by rw [HR.out]; rfl, Below.refl _ _⟩
  by_cases h8 : 8 < (ps.length : Int)
  · have HR : Hid (projB ps = false) := by exact (by unfold projB; rw [inB_no _ _ _ (Or.inr h8), Bool.and_false] : projB ps = false)
    go_enter Tryz.func34, Tryz.ntmps34
    go_wp2
    go_ret
    exact ⟨by rw [HR.out]; rfl, Below.refl _ _⟩
  go_enter Tryz.func34, Tryz.ntmps34
  go_wp2
  go_loopw [3, 16] (fun lv iv wr => ∃ (k : Nat) (z : List UInt8), lv = .string ⟨z.toArray⟩ ∧ iv = .int .i64 (k : Int) ∧ k ≤ ps.length ∧ Hid (PjSt ps k z) ∧ Hid (Below w.heap.size w wr)) (fun _ iv _ => ps.length - (intOf iv).toNat)
  case atStart => exact ⟨0, [], rfl, rfl, by omega, (⟨fun i hi => by omega, Or.inl ⟨rfl, rfl⟩⟩ : PjSt ps 0 []), Below.refl _ _⟩
  case round =>
    obtain ⟨k, z, rfl, rfl, hk, HZ, HB⟩ := hrel
    by_cases hlt : (k : Int) < (ps.length : Int)
    · have hk2 : k < ps.length := by omega
      obtain ⟨b, off, rfl, hbl, c0, ia, il, ic, fa, fl, fc, c1, c2, hpk⟩ := (HI.out.below HB.out).each k hk2
      obtain ⟨p, hp⟩ : ∃ p, ps.getD k pk0 = p := ⟨_, rfl⟩
      have HNo : Hid (pkgB p = false → projB ps = false) := fun e => PjSt.pk hk2 (by rw [hp]; exact e)
      have HLow : Hid (pkgB p = true → leT p.1 z = true → projB ps = false) := fun e1 e2 => HZ.out.low hk2 (by rw [hp]; exact e1) (by rw [hp]; exact e2)
      have HStep : Hid (pkgB p = true → leT p.1 z = false → PjSt ps (k + 1) p.1) := fun e1 e2 => by
        have := HZ.out.step (by rw [hp]; exact e1) (by rw [hp]; exact e2)
        rw [hp] at this
        exact this
      rw [hp] at c0 hpk
      clear hp HZ
      obtain ⟨x, ims, fs⟩ := p
      simp only at c0 hpk
      obtain ⟨bx, hbx⟩ := Box3.new wr (.string ⟨x.toArray⟩) (.slice ia il ic) (.slice fa fl fc) 34
      obtain ⟨X, hX⟩ : ∃ X, wr.alloc (.cells #[.string ⟨x.toArray⟩, .slice ia il ic, .slice fa fl fc] 34) = X := ⟨_, rfl⟩
      obtain ⟨E, hE⟩ : ∃ E, wr.heap.size = E := ⟨_, rfl⟩
      rw [hX] at bx hbx
      rw [hE] at bx
      have d0 := bx.c0
      have d1 := bx.c1
      have d2 := bx.c2
      have HBX : Hid (Box3 X E (.string ⟨x.toArray⟩) (.slice ia il ic) (.slice fa fl fc)) := bx
      have HC : Hid (_) := implPackageOk x ia il ic fa fl fc ims fs X (hpk.below hbx)
      have HB2 : Hid (Below w.heap.size w X) := HB.out.trans (hbx.mono HB.out.size)
      clear bx hbx hpk HB
      rcases hpb : pkgB (x, ims, fs) with _ | _
      · have HR : Hid (projB ps = false) := HNo.out hpb
        rw [hpb] at HC
        clear hpb
        go_wp2_with (go_at_call 52; refine Calls.mono HC.out ?_; rintro e w1 ⟨rfl, hb1⟩; have HB3 : Hid (Below w.heap.size w w1) := HB2.out.trans (hb1.mono HB2.out.size); clear hb1)
        go_ret
        exact ⟨by rw [HR.out]; rfl, HB3.out⟩
      · rcases hle : leT x z with _ | _
        · have HS2 : Hid (PjSt ps (k + 1) x) := HStep.out hpb hle
          rw [hpb] at HC
          unfold leT at hle
          clear hpb HNo HLow HStep
          go_wp2_with (go_at_call 52; refine Calls.mono HC.out ?_; rintro e w1 ⟨rfl, hb1⟩; have HB3 : Hid (Below w.heap.size w w1) := HB2.out.trans (hb1.mono HB2.out.size); have q0 := (HBX.out.below hb1).c0; clear hb1)
          go_roundw
          case rel => exact ⟨k + 1, x, rfl, by go_num, by omega, HS2, HB3⟩
          case measure => simp [intOf]; omega
        · have HR : Hid (projB ps = false) := HLow.out hpb hle
          rw [hpb] at HC
          unfold leT at hle
          clear hpb HNo HLow HStep
          go_wp2_with (go_at_call 52; refine Calls.mono HC.out ?_; rintro e w1 ⟨rfl, hb1⟩; have HB3 : Hid (Below w.heap.size w w1) := HB2.out.trans (hb1.mono HB2.out.size); have q0 := (HBX.out.below hb1).c0; clear hb1)
          go_ret
          exact ⟨by rw [HR.out]; rfl, HB3.out⟩
    · obtain rfl : k = ps.length := by omega
      have HR : Hid (projB ps = true) := by exact (by rw [projB_all HZ.out.ok]; unfold inB; exact decide_eq_true (by omega) : projB ps = true)
      go_wp2
      go_ret
      exact ⟨by rw [HR.out]; rfl, HB.out⟩

theorem implPlaceIn (a : Option Addr) (len cap : Nat) (ps : List Pk) (s : List UInt8) (w : World) (h : PkgsOk w a len cap ps) :
    Calls Tryz.prog 17 #[.slice a len cap, .string ⟨s.toArray⟩] w fun e w' => e = .returned (.int .i64 (if projB ps = true then at8 ps s else -1)) ∧ Below w.heap.size w w' := by
  have HP : Hid (_) := implProjectOk a len cap ps w h
  have HI : Hid (PkgsOk w a len cap ps) := h
  clear h
  rcases hp : projB ps with _ | _
  · rw [hp] at HP
    go_enter Tryz.func17, Tryz.ntmps17
    go_wp2_with (go_at_call 34; refine Calls.mono HP.out ?_; rintro e w1 ⟨rfl, hb1⟩)
    go_ret
    exact ⟨by simp, hb1⟩
  · rw [hp] at HP
    go_enter Tryz.func17, Tryz.ntmps17
    go_wp2_with fail
    refine Calls.mono HP.out ?_
    rintro e w1 ⟨rfl, hb1⟩
    have HI1 : Hid (PkgsOk w1 a len cap ps) := HI.out.below hb1
    go_wp2_with fail
    refine (implPlacePk a len cap ps s w1 HI1.out.in HI1.out.small).mono ?_
    rintro e w2 ⟨rfl, hb2⟩
    have HB : Hid (Below w.heap.size w w2) := hb1.trans (hb2.mono hb1.size)
    clear hb1 hb2
    go_wp2
    go_ret
    exact ⟨by simp, HB.out⟩

set_option maxHeartbeats 2000000 in
set_option maxRecDepth 100000 in
theorem implNamesAt (a : Option Addr) (len cap : Nat) (ps : List Pk) (pa : Option Addr) (n pc : Nat) (l : List Nat) (w : World) (h : PkgsOk w a len cap ps) (hl : NatsIn w pa n l) (hlt : ∀ x ∈ l, x < len) (hn : n ≤ 1000) :
    Calls Tryz.prog 20 #[.slice a len cap, .slice pa n pc] w fun e w' => ∃ v, e = .returned v ∧ w'.ownsRow w.heap.size 9 1 v (nmsAt ps l).length (strV (nmsAt ps l)) ∧ Below w.heap.size w w' := by
  obtain rfl : l.length = n := hl.1
  have HI : Hid (PkgsOk w a len cap ps) := h
  have HL : Hid (NatsIn w pa l.length l) := hl
  have HLt : Hid (∀ x ∈ l, x < len) := hlt
  have hsm := h.small
  have HO0 : Hid ((w.alloc (.cells #[] 9)).ownsRow w.heap.size 9 1 (.slice (some ⟨w.heap.size, 0, none⟩) 0 0) 0 (strV (nmsAt ps (l.take 0)))) := World.ownsRow_lit (base := w.heap.size) (e := 9) (size := 1) w #[] 0 (Nat.le_refl _) (by decide) rfl
  have HB0 : Hid (Below w.heap.size w (w.alloc (.cells #[] 9))) := (Below.refl _ _).alloc (Nat.le_refl _) _
  clear h hl hlt
  go_enter Tryz.func20, Tryz.ntmps20
  go_wp2
  go_loopw [5, 11] (fun nv iv wr => ∃ (k : Nat) (na : Option Addr) (nc : Nat), nv = .slice na k nc ∧ iv = .int .i64 (k : Int) ∧ k ≤ l.length ∧ Hid (wr.ownsRow w.heap.size 9 1 (.slice na k nc) k (strV (nmsAt ps (l.take k)))) ∧ Hid (Below w.heap.size w wr)) (fun _ iv _ => l.length - (intOf iv).toNat)
  case atStart => exact ⟨0, _, 0, rfl, rfl, by omega, HO0, HB0⟩
  case round =>
    obtain ⟨k, na, nc, rfl, rfl, hk, HO, HB⟩ := hrel
    clear HO0 HB0
    by_cases hlt : (k : Int) < (l.length : Int)
    · have hk2 : k < l.length := by omega
      obtain ⟨b2, off2, rfl, hb2l, d0⟩ := (HL.out.below HB.out).2 k hk2
      have hql := HLt.out _ (getD_mem_n hk2)
      have hnt : nmsAt ps (l.take (k + 1)) = nmsAt ps (l.take k) ++ [nmAt ps (l.getD k 0)] := by
        rw [List.take_succ_eq_append_getElem hk2, nms_snoc, show l.getD k 0 = l[k] by simp [List.getD, hk2]]
      obtain ⟨q, hq⟩ : ∃ q, l.getD k 0 = q := ⟨_, rfl⟩
      rw [hq] at d0 hql hnt
      have hok := HI.out.below HB.out
      obtain ⟨b, off, rfl, hbl, c0, _⟩ := hok.each q hql
      have hxl := (hok.short q).1
      have hnm : nmAt ps q = (ps.getD q pk0).1 := rfl
      obtain ⟨x, hx⟩ : ∃ x, (ps.getD q pk0).1 = x := ⟨_, rfl⟩
      rw [hnm, hx] at hnt
      rw [hx] at c0 hxl
      have HNT : Hid (nmsAt ps (l.take (k + 1)) = nmsAt ps (l.take k) ++ [x]) := hnt
      have hqz : (q : Int) < (len : Int) := by omega
      clear hok hnt hnm hx hq
      go_wp2_with fail
      refine (stringsClone x wr hxl).mono ?_
      rintro e w1 ⟨rfl, hb1⟩
      have hB1 : Below w.heap.size w w1 := HB.out.trans (hb1.mono HB.out.size)
      have hO1 := own_below HO.out hb1
      obtain ⟨v', Y, hr, ho, hg⟩ := push_text x hO1 hB1.size (by omega)
      rw [← HNT.out] at ho
      obtain ⟨g', c', rfl⟩ := own_some ho (by omega)
      have HOY : Hid (Y.ownsRow w.heap.size 9 1 (.slice (some ⟨g', 0, none⟩) (k + 1) c') (k + 1) (strV (nmsAt ps (l.take (k + 1))))) := ho
      have HBY : Hid (Below w.heap.size w Y) := hB1.grown hg hB1.size (fun q e => (hO1.lt q e).1)
      clear hb1 hO1 hB1 ho hg
      go_wp2_with (at_builtin; refine wpList_append_run rfl (.tmp 15) (.tmp 22) 27 rfl _ _ _ rfl rfl hr ?_; clear hr)
      go_roundw
      case rel => exact ⟨k + 1, _, c', rfl, by go_num, by omega, HOY, HBY⟩
      case measure => simp [intOf]; omega
    · obtain rfl : k = l.length := by omega
      have HE : Hid (l.take l.length = l) := List.take_length
      go_wp2
      go_ret
      exact ⟨_, rfl, by have h1 := HO.out; rw [HE.out] at h1; rw [show (nmsAt ps l).length = l.length by simp [nmsAt]]; exact h1, HB.out⟩

end Go.Proofs.YtfeklbnggicefaaGreat

/-! The function of this program that is slices.Sort at []int is the one that the library has a contract of: number by number, type by type. -/
namespace Go.Proofs
open Go.Shelf
def Tryz.laidSort_ren : Go.Shelf.Ren := ⟨fun | 5 => 19 | 8 => 38 | 7 => 37 | 19 => 62 | 20 => 63 | 10 => 53 | 11 => 54 | 12 => 55 | 13 => 56 | 14 => 57 | 15 => 58 | 16 => 59 | 17 => 60 | 18 => 61 | 30 => 77 | 31 => 78 | 32 => 79 | 33 => 80 | 34 => 81 | 35 => 82 | 40 => 91 | n => n, fun | 23 => 41 | 25 => 3 | 3 => 3 | 32 => 61 | 22 => 41 | 0 => 0 | 44 => 86 | 46 => 88 | 4 => 4 | 36 => 78 | 35 => 77 | 41 => 83 | 5 => 5 | 9 => 9 | 53 => 101 | 57 => 105 | 63 => 115 | 64 => 116 | n => n, fun | n => n⟩
theorem Tryz.laidSort : Go.Proofs.SlLaysM.n5 Tryz.prog Tryz.laidSort_ren := {
  mixed := by kernel_rfl
  f5 := ⟨Tryz.f19.name, by decide, Tryz.func19.trans (congrArg some (by kernel_rfl))⟩
  f7 := ⟨Tryz.f37.name, by decide, Tryz.func37.trans (congrArg some (by kernel_rfl))⟩
  f8 := Tryz.func38.trans (congrArg some (by kernel_rfl))
  f10 := ⟨Tryz.f53.name, by decide, Tryz.func53.trans (congrArg some (by kernel_rfl))⟩
  f11 := ⟨Tryz.f54.name, by decide, Tryz.func54.trans (congrArg some (by kernel_rfl))⟩
  f12 := ⟨Tryz.f55.name, by decide, Tryz.func55.trans (congrArg some (by kernel_rfl))⟩
  f13 := ⟨Tryz.f56.name, by decide, Tryz.func56.trans (congrArg some (by kernel_rfl))⟩
  f14 := ⟨Tryz.f57.name, by decide, Tryz.func57.trans (congrArg some (by kernel_rfl))⟩
  f15 := ⟨Tryz.f58.name, by decide, Tryz.func58.trans (congrArg some (by kernel_rfl))⟩
  f16 := ⟨Tryz.f59.name, by decide, Tryz.func59.trans (congrArg some (by kernel_rfl))⟩
  f17 := ⟨Tryz.f60.name, by decide, Tryz.func60.trans (congrArg some (by kernel_rfl))⟩
  f18 := ⟨Tryz.f61.name, by decide, Tryz.func61.trans (congrArg some (by kernel_rfl))⟩
  f19 := Tryz.func62.trans (congrArg some (by kernel_rfl))
  f20 := Tryz.func63.trans (congrArg some (by kernel_rfl))
  f30 := ⟨Tryz.f77.name, by decide, Tryz.func77.trans (congrArg some (by kernel_rfl))⟩
  f31 := Tryz.func78.trans (congrArg some (by kernel_rfl))
  f32 := Tryz.func79.trans (congrArg some (by kernel_rfl))
  f33 := ⟨Tryz.f80.name, by decide, Tryz.func80.trans (congrArg some (by kernel_rfl))⟩
  f34 := ⟨Tryz.f81.name, by decide, Tryz.func81.trans (congrArg some (by kernel_rfl))⟩
  f35 := ⟨Tryz.f82.name, by decide, Tryz.func82.trans (congrArg some (by kernel_rfl))⟩
  f40 := ⟨Tryz.f91.name, by decide, Tryz.func91.trans (congrArg some (by kernel_rfl))⟩
  t0 := Tryz.underlying0
  a0 := Tryz.isAgg0
  z0 := Tryz.sizeOf0
  v0 := Tryz.zeroValue0
  t3 := Tryz.underlying3
  a3 := Tryz.isAgg3
  z3 := Tryz.sizeOf3
  v3 := Tryz.zeroValue3
  t4 := Tryz.underlying4
  a4 := Tryz.isAgg4
  z4 := Tryz.sizeOf4
  v4 := Tryz.zeroValue4
  t5 := Tryz.underlying5
  a5 := Tryz.isAgg5
  z5 := Tryz.sizeOf5
  v5 := Tryz.zeroValue5
  t9 := Tryz.underlying9
  a9 := Tryz.isAgg9
  z9 := Tryz.sizeOf9
  v9 := Tryz.zeroValue9
  t22 := Tryz.underlying41
  a22 := Tryz.isAgg41
  z22 := Tryz.sizeOf41
  v22 := Tryz.zeroValue41
  t23 := Tryz.underlying41
  a23 := Tryz.isAgg41
  z23 := Tryz.sizeOf41
  v23 := Tryz.zeroValue41
  t25 := Tryz.underlying3
  a25 := Tryz.isAgg3
  z25 := Tryz.sizeOf3
  v25 := Tryz.zeroValue3
  t32 := Tryz.underlying61
  a32 := Tryz.isAgg61
  z32 := Tryz.sizeOf61
  v32 := Tryz.zeroValue61
  t35 := Tryz.underlying77
  a35 := Tryz.isAgg77
  z35 := Tryz.sizeOf77
  v35 := Tryz.zeroValue77
  t36 := Tryz.underlying78
  a36 := Tryz.isAgg78
  z36 := Tryz.sizeOf78
  v36 := Tryz.zeroValue78
  t41 := Tryz.underlying83
  a41 := Tryz.isAgg83
  z41 := Tryz.sizeOf83
  v41 := Tryz.zeroValue83
  t44 := Tryz.underlying86
  a44 := Tryz.isAgg86
  z44 := Tryz.sizeOf86
  v44 := Tryz.zeroValue86
  t46 := Tryz.underlying88
  a46 := Tryz.isAgg88
  z46 := Tryz.sizeOf88
  v46 := Tryz.zeroValue88
  t53 := Tryz.underlying101
  a53 := Tryz.isAgg101
  z53 := Tryz.sizeOf101
  v53 := Tryz.zeroValue101
  t57 := Tryz.underlying105
  a57 := Tryz.isAgg105
  z57 := Tryz.sizeOf105
  v57 := Tryz.zeroValue105
  t63 := Tryz.underlying115
  a63 := Tryz.isAgg115
  z63 := Tryz.sizeOf115
  v63 := Tryz.zeroValue115
  t64 := Tryz.underlying116
  a64 := Tryz.isAgg116
  z64 := Tryz.sizeOf116
  v64 := Tryz.zeroValue116 }
end Go.Proofs

/-! The contracts of the landed placesReached and of slices.Sort at a row that the call owns. -/
namespace Go.Proofs.YtfeklbnggicefaaGreat
open Go.RowKit Go.Sort Go.Shelf

/-- A row that is written, beside two that stay. -/
structure Ro3 (X : World) (B : Nat) (v u t : Value) (l lu lt : List Nat) : Prop where
  rv : X.ownsRow B 3 1 v l.length (natV l)
  ru : X.ownsRow B 3 1 u lu.length (natV lu)
  rt : X.ownsRow B 3 1 t lt.length (natV lt)
  au : ∀ k, v.ownBlock = some k → u.ownBlock ≠ some k
  at_ : ∀ k, v.ownBlock = some k → t.ownBlock ≠ some k
theorem Ro3.below {X Y : World} {B : Nat} {v u t : Value} {l lu lt : List Nat} (h : Ro3 X B v u t l lu lt) (hb : Below X.heap.size X Y) : Ro3 Y B v u t l lu lt := ⟨own_below h.rv hb, own_below h.ru hb, own_below h.rt hb, h.au, h.at_⟩
theorem Ro3.app {X : World} {B : Nat} {v u t : Value} {l lu lt : List Nat} (h : Ro3 X B v u t l lu lt) (hB : B ≤ X.heap.size) (hl : l.length ≤ 1000) (x : Nat) :
    ∃ g' c' Y, (Builtin.append_ #[41, 41] 41 #[v, .slice (some ⟨X.heap.size, 0, none⟩) 1 1]).run Tryz.prog (X.alloc (.cells #[.int .i64 (x : Int)] 3)) = .ok (.slice (some ⟨g', 0, none⟩) (l.length + 1) c') Y ∧
      Ro3 Y B (.slice (some ⟨g', 0, none⟩) (l.length + 1) c') u t (l ++ [x]) lu lt ∧ Below B X Y := by
  obtain ⟨v', Y, hr, ho, hg, hat⟩ := push_nat 41 Tryz.underlying41 x h.rv hB (by omega)
  obtain ⟨g', c', rfl⟩ := own_some ho (by omega)
  have hw : Wrote X Y (fun k => v.ownBlock = some k) := Wrote.of_grown hg (fun k e => e)
  refine ⟨g', c', Y, hr, ⟨by rw [List.length_append, List.length_singleton]; exact ho, own_wrote h.ru hw (fun k e e2 => h.au k e2 e), own_wrote h.rt hw (fun k e e2 => h.at_ k e2 e), fun k e e2 => ?_, fun k e e2 => ?_⟩, hw.below hB (fun k e => (h.rv.lt k e).1)⟩
  · rcases hat with h1 | h1
    · exact h.au k (by rw [← h1]; exact e) e2
    · rw [h1] at e; injection e with e
      have := (h.ru.lt k e2).2
      omega
  · rcases hat with h1 | h1
    · exact h.at_ k (by rw [← h1]; exact e) e2
    · rw [h1] at e; injection e with e
      have := (h.rt.lt k e2).2
      omega

theorem natV_ints (l : List Nat) : natV l = (l.map Int.ofNat).map (Value.int .i64) := by
  unfold natV
  rw [List.map_map]
  rfl
theorem sortNats (B g c n : Nat) (l : List Nat) (w : World) (h : w.ownsRow B 3 1 (.slice (some ⟨g, 0, none⟩) n c) n (natV l)) (hn : l.length = n) (hsz : n ≤ 1000) :
    Calls Tryz.prog 19 #[.slice (some ⟨g, 0, none⟩) n c] w fun e w' => e = .returned (.tuple #[]) ∧ ∃ ss : List Nat, ss.Perm l ∧ ss.Pairwise (· ≤ ·) ∧ w'.ownsRow B 3 1 (.slice (some ⟨g, 0, none⟩) n c) n (natV ss) ∧ w.grownBy w' (some g) := by
  subst hn
  have hlt := (h.lt g rfl).2
  rcases h.2 with ⟨h', _⟩ | ⟨g', cap', cur, h', hb, hg, hnc, hcm, hcs, htake⟩
  · simp at h'
  simp only [Value.slice.injEq, Option.some.injEq, Addr.mk.injEq, and_true, true_and] at h'
  obtain ⟨rfl, rfl⟩ := h'
  rw [Nat.mul_one, natV_ints] at htake
  have hlen : (l.map Int.ofNat).length = l.length := List.length_map _
  have hH := holds_of_blockI (ss := l.map Int.ofNat) hg (by rw [hlen]; exact htake)
  have hc := AnyM.slices_Sort_int Tryz.laidSort g 0 c (l.map Int.ofNat) w hH hlt (by rw [hlen]; omega)
  rw [hlen] at hc
  refine hc.mono ?_
  rintro e w' ⟨rfl, m, os, rfl⟩
  obtain ⟨zs, hzs⟩ : ∃ zs, (l.map Int.ofNat).mergeSort (fun x y => decide (x ≤ y)) = zs := ⟨_, rfl⟩
  have hperm : zs.Perm (l.map Int.ofNat) := by rw [← hzs]; exact List.mergeSort_perm _ _
  have hsort : zs.Pairwise (fun x y => decide (x ≤ y) = true) := by
    rw [← hzs]
    exact List.pairwise_mergeSort (fun a b c h1 h2 => by simp only [decide_eq_true_eq] at h1 h2 ⊢; omega) (fun a b => by simp only [Bool.or_eq_true, decide_eq_true_eq]; omega) _
  have hz0 : ∀ z ∈ zs, ((z.toNat : Nat) : Int) = z := fun z hz => by
    have := hperm.mem_iff.1 hz
    obtain ⟨y, _, rfl⟩ := List.mem_map.1 this
    simp
  have hzl : zs.length = l.length := by rw [hperm.length_eq, hlen]
  have hnv : natV (zs.map Int.toNat) = zs.map (Value.int .i64) := by
    unfold natV
    rw [List.map_map]
    exact List.map_congr_left (fun z hz => by simp only [Function.comp]; rw [hz0 z hz])
  rw [hzs]
  refine ⟨rfl, zs.map Int.toNat, ?_, ?_, ?_, grownBy_sortedI _⟩
  · have := hperm.map Int.toNat
    rw [List.map_map] at this
    have e : l.map (Int.toNat ∘ Int.ofNat) = l := by
      conv => rhs; rw [← List.map_id l]
      exact List.map_congr_left (fun y _ => by simp)
    rw [e] at this
    exact this
  · rw [List.pairwise_map]
    exact hsort.imp (fun {x y} hxy => by have := of_decide_eq_true hxy; omega)
  · rw [hnv]
    have := ownsRow_sortedI (w := w) (base := B) (n := m) (os := os) (ss := l.map Int.ofNat) (ts := zs) (by rw [hzl, hlen]) hb hg (by rw [hlen]; exact hnc) hcm hcs
    rw [hlen] at this
    exact this

theorem rp_take {P re : List Nat} {k : Nat} (h : ∀ z ∈ P.take k, z ∈ re) (hk : k < P.length) (hz : P.getD k 0 ∈ re) : ∀ z ∈ P.take (k + 1), z ∈ re := fun z hz2 => by
  rw [List.take_succ_eq_append_getElem hk, List.mem_append, List.mem_singleton] at hz2
  rcases hz2 with e | e
  · exact h z e
  · rw [e]
    have : P.getD k 0 = P[k] := by simp [List.getD, hk]
    rw [← this]; exact hz
set_option maxHeartbeats 4000000 in
set_option maxRecDepth 100000 in
theorem implPlacesReached (a : Option Addr) (len cap : Nat) (ps : List Pk) (f : Nat) (w : World) (h : PkgsOk w a len cap ps) (hpj : projB ps = true) (hf : f < len) :
    Calls Tryz.prog 18 #[.slice a len cap, .int .i64 (f : Int)] w fun e w' => ∃ v, e = .returned v ∧ ∃ re, w'.ownsRow w.heap.size 3 1 v re.length (natV re) ∧ Rp8 ps f re ∧ RpTo ps re re.length ∧ Below w.heap.size w w' := by
  obtain rfl : ps.length = len := h.hlen
  have hn8 : ps.length ≤ 8 := (projB_parts hpj).2.1.2
  have HI : Hid (PkgsOk w a ps.length cap ps) := h
  have HPJ : Hid (projB ps = true) := hpj
  have HS0 : Hid (Ro3 (w.alloc (.cells #[.int .i64 (f : Int)] 3)) w.heap.size (.slice (some ⟨w.heap.size, 0, none⟩) 1 1) (.slice none 0 0) (.slice none 0 0) [f] [] []) := ⟨World.ownsRow_lit (base := w.heap.size) (e := 3) (size := 1) w #[.int .i64 (f : Int)] 1 (Nat.le_refl _) (by decide) rfl, World.ownsRow_nil _ _ _ _, World.ownsRow_nil _ _ _ _, (fun k _ e => by cases e), (fun k _ e => by cases e)⟩
  have HB0 : Hid (Below w.heap.size w (w.alloc (.cells #[.int .i64 (f : Int)] 3))) := (Below.refl _ _).alloc (Nat.le_refl _) _
  have HR0 : Hid (Rp8 ps f [f]) := Rp8.one hpj hf
  clear h hpj
  go_enter Tryz.func18, Tryz.ntmps18
  go_wp2
  go_loopw [5, 6] (fun rv iv wr => ∃ (i m : Nat) (ra : Option Addr) (rc : Nat) (re : List Nat), rv = .slice ra m rc ∧ iv = .int .i64 (i : Int) ∧ i ≤ m ∧ m ≤ 8 ∧ Hid (re.length = m) ∧ Hid (Ro3 wr w.heap.size (.slice ra m rc) (.slice none 0 0) (.slice none 0 0) re [] []) ∧ Hid (Rp8 ps f re) ∧ Hid (RpTo ps re i) ∧ Hid (Below w.heap.size w wr)) (fun _ iv _ => 100 - (intOf iv).toNat)
  case atStart => exact ⟨0, 1, _, 1, [f], rfl, rfl, by omega, by omega, rfl, HS0, HR0, (fun j hj => by omega), HB0⟩
  case round =>
    obtain ⟨i, m, ra, rc, re, rfl, rfl, him, hm8, HL, HS, HR, HT, HB⟩ := hrel
    clear HS0 HB0 HR0
    obtain ⟨Z, hZ⟩ : ∃ Z, Z = wr := ⟨_, rfl⟩
    subst hZ
    by_cases hlt : (i : Int) < (m : Int)
    · have hi2 : i < m := by omega
      have hrv := HS.out.rv
      rw [HL.out] at hrv
      obtain ⟨g, cc, hge⟩ := own_some hrv (by omega)
      injection hge with e1 _ e3
      subst e1
      subst e3
      have c0 := nat_cell hrv HL.out i hi2
      have hym := getD_mem_n (l := re) (k := i) (by rw [HL.out]; exact hi2)
      have hyl := HR.out.lt _ hym
      obtain ⟨y, hy⟩ : ∃ y, re.getD i 0 = y := ⟨_, rfl⟩
      rw [hy] at c0 hym hyl
      have HPo : Hid (_) := implPlacesOf a ps.length cap ps y Z (HI.out.below HB.out) hyl
      obtain ⟨P, hP⟩ : ∃ P, plc ps (imsAt ps y) = P := ⟨_, rfl⟩
      rw [hP] at HPo
      have HP : Hid (plc ps (imsAt ps y) = P) := hP
      have HY0 : Hid (re.getD i 0 = y) := hy
      have hPl : P.length ≤ 6 := by rw [← hP]; exact Nat.le_trans (plc_le _ _) (ims_nodup HPJ.out hyl).2
      clear hrv hP hy
      go_wp2_with fail
      refine Calls.mono HPo.out ?_
      rintro e w1 ⟨v1, rfl, ho1, hb1⟩
      obtain ⟨pa, pc, rfl, _⟩ := own_nats ho1 rfl
      have s1 := HS.out.below hb1
      have HB1 : Hid (Below w.heap.size w w1) := HB.out.trans (hb1.mono HB.out.size)
      have HS1 : Hid (Ro3 w1 w.heap.size (.slice (some ⟨g, 0, none⟩) m rc) (.slice pa P.length pc) (.slice none 0 0) re P []) := ⟨s1.rv, own_base ho1 HB.out.size, s1.rt, (fun k e e2 => by
        have l1 := (HS.out.rv.lt k e).2
        have l2 := (ho1.lt k e2).1
        omega), s1.at_⟩
      clear HPo ho1 hb1 s1 HS HB c0
      go_wp2
      go_loopw [5, 24] (fun rv kv wx => ∃ (k m : Nat) (ra : Option Addr) (rc : Nat) (re : List Nat), rv = .slice ra m rc ∧ kv = .int .i64 (k : Int) ∧ k ≤ P.length ∧ i < m ∧ m ≤ 8 ∧ Hid (re.length = m) ∧ Hid (Ro3 wx w.heap.size (.slice ra m rc) (.slice pa P.length pc) (.slice none 0 0) re P []) ∧ Hid (Rp8 ps f re) ∧ Hid (RpTo ps re i) ∧ Hid (re.getD i 0 = y) ∧ Hid (∀ z ∈ P.take k, z ∈ re) ∧ Hid (Below w.heap.size w wx)) (fun _ kv _ => P.length - (intOf kv).toNat)
      case atStart => exact ⟨0, m, _, rc, re, rfl, rfl, by omega, hi2, hm8, HL, HS1, HR, HT, HY0, (fun z hz => by simp at hz), HB1⟩
      case round =>
        obtain ⟨k, m, ra, rc, re, rfl, rfl, hk, him2, hm8', HL, HS, HR, HT, HY, HA, HB⟩ := hrel
        clear HS1 HB1 HY0
        by_cases hkl : (k : Int) < (P.length : Int)
        · have hk2 : k < P.length := by omega
          obtain ⟨pa', pc', he, hpin⟩ := own_nats HS.out.ru rfl
          injection he with e1 _ e3
          subst e1
          subst e3
          have hrv := HS.out.rv
          rw [HL.out] at hrv
          obtain ⟨ra', rc', he, hrin⟩ := own_nats hrv HL.out
          injection he with e1 _ e3
          subst e1
          subst e3
          obtain ⟨b, off, rfl, _, d0⟩ := hpin.2 k hk2
          have hzm := getD_mem_n hk2
          have HStep : Hid (∀ re' : List Nat, (∀ z ∈ P.take k, z ∈ re') → P.getD k 0 ∈ re' → ∀ z ∈ P.take (k + 1), z ∈ re') := fun re' h1 h2 => rp_take h1 hk2 h2
          obtain ⟨z, hz⟩ : ∃ z, P.getD k 0 = z := ⟨_, rfl⟩
          rw [hz] at d0 hzm HStep
          have HZp : Hid (z ∈ plc ps (imsAt ps y)) := by exact (by rw [HP.out]; exact hzm : z ∈ plc ps (imsAt ps y))
          have HC : Hid (_) := containsNat ra m rc re z wr hrin (by omega)
          clear hpin hrv hrin hz hzm
          by_cases hin : z ∈ re
          · rw [decide_eq_true hin] at HC
            have HA2 : Hid (∀ z ∈ P.take (k + 1), z ∈ re) := HStep.out re HA.out hin
            clear hin
            go_wp2_with (go_at_call 22; refine Calls.mono HC.out ?_; rintro e w2 ⟨rfl, hw2⟩; obtain rfl := hw2.symm)
            go_roundw
            case rel => exact ⟨k + 1, m, ra, rc, re, rfl, by go_num, by omega, him2, hm8', HL, HS, HR, HT, HY, HA2, HB⟩
            case measure => simp [intOf]; omega
          · rw [decide_eq_false hin] at HC
            have hre : re.getD i 0 ∈ re := getD_mem_n (by rw [HL.out]; exact him2)
            rw [HY.out] at hre
            have HR2 : Hid (Rp8 ps f (re ++ [z])) := HR.out.add hre HZp.out hin
            have HT2 : Hid (RpTo ps (re ++ [z]) i) := HT.out.add (by rw [HL.out]; omega)
            have HY2 : Hid ((re ++ [z]).getD i 0 = y) := by exact (by rw [← HY.out]; simp [List.getD, List.getElem?_append_left (show i < re.length by rw [HL.out]; exact him2)] : (re ++ [z]).getD i 0 = y)
            have HA2 : Hid (∀ z' ∈ P.take (k + 1), z' ∈ re ++ [z]) := HStep.out (re ++ [z]) (fun q hq => List.mem_append_left _ (HA.out q hq)) (by simp)
            have HL2 : Hid ((re ++ [z]).length = m + 1) := by exact (by rw [List.length_append, List.length_singleton, HL.out] : (re ++ [z]).length = m + 1)
            have hm9 : m + 1 ≤ 8 := by have := HR2.out.len; rw [HL2.out] at this; omega
            obtain ⟨g', c', Y, hr, s2, hB2⟩ := HS.out.app HB.out.size (by rw [HL.out]; omega) z
            rw [HL.out] at hr s2
            have HSY : Hid (Ro3 Y w.heap.size (.slice (some ⟨g', 0, none⟩) (m + 1) c') (.slice (some ⟨b, off, none⟩) P.length pc) (.slice none 0 0) (re ++ [z]) P []) := s2
            have HBY : Hid (Below w.heap.size w Y) := HB.out.trans hB2
            clear hin hre s2 hB2
            go_wp2_with (first | (go_at_call 22; refine Calls.mono HC.out ?_; rintro e w2 ⟨rfl, hw2⟩; obtain rfl := hw2.symm) | (at_builtin; refine wpList_append_run rfl (.tmp 32) (.tmp 34) 41 rfl _ _ _ rfl rfl hr ?_; clear hr))
            go_roundw
            case rel => exact ⟨k + 1, m + 1, _, c', re ++ [z], rfl, by go_num, by omega, by omega, hm9, HL2, HSY, HR2, HT2, HY2, HA2, HBY⟩
            case measure => simp [intOf]; omega
        · have HT2 : Hid (RpTo ps re (i + 1)) := HT.out.next (fun z hz => HA.out z (by rw [List.take_of_length_le (by omega), ← HP.out]; rw [HY.out] at hz; exact hz))
          have HS2 : Hid (Ro3 wr w.heap.size (.slice ra m rc) (.slice none 0 0) (.slice none 0 0) re [] []) := ⟨HS.out.rv, World.ownsRow_nil _ _ _ _, HS.out.rt, (fun k _ e => by cases e), HS.out.at_⟩
          go_wp2
          go_roundw
          case rel => exact ⟨i + 1, m, ra, rc, re, rfl, by go_num, by omega, by omega, HL, HS2, HR, HT2, HB⟩
          case measure => simp [intOf]; omega
    · obtain rfl : i = m := by omega
      go_wp2
      go_ret
      exact ⟨_, rfl, re, HS.out.rv, HR.out, by rw [HL.out]; exact HT.out, HB.out⟩

end Go.Proofs.YtfeklbnggicefaaGreat
