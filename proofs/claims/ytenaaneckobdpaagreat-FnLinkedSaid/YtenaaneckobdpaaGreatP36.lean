/-
  Parts of one proof, one behind the other: SortF, ObT, LkP, LkH, LikeC, LikeR, Math8L, LawO, Math16L, Codes.
-/
import Derived.Test.YtenaaneckobdpaaGreatP35
import Derived.Shelf.SlSortCmp.WholeK
import Derived.Ground.SlsfProg
import Derived.Test.YtenaaneckobdpaaGreatProg
import Derived.Test.YtenaaneckobdpaaGreatP16
import Derived.Test.YtenaaneckobdpaaGreatP15
import Derived.Test.YtenaaneckobdpaaGreatP29
import Derived.Test.YtenaaneckobdpaaGreatP10
import Derived.Deep.RegionHeld3
import Derived.Test.YtenaaneckobdpaaGreatP5
import Derived.Test.YtenaaneckobdpaaGreatP3
import Derived.Test.YtenaaneckobdpaaGreatP27
import Derived.Test.YtenaaneckobdpaaGreatP2
namespace Go.Proofs.YtenaaneckobdpaaGreat
open Go.RowKit
end Go.Proofs.YtenaaneckobdpaaGreat
namespace Go.Proofs
open Go.Shelf
def Tryz.laidSortF_ren : Go.Shelf.Ren := ⟨fun | 6 => 39 | 15 => 57 | 14 => 56 | 28 => 83 | 29 => 84 | 20 => 75 | 21 => 76 | 22 => 77 | 23 => 78 | 24 => 79 | 25 => 80 | 26 => 81 | 27 => 82 | 46 => 110 | 47 => 111 | 48 => 112 | 49 => 113 | 50 => 114 | 57 => 131 | n => n, fun | 22 => 26 | 24 => 41 | 25 => 68 | 3 => 3 | 39 => 91 | 0 => 0 | 53 => 118 | 55 => 120 | 4 => 4 | 46 => 111 | 45 => 110 | 50 => 115 | 5 => 5 | 9 => 9 | 66 => 141 | 70 => 145 | 76 => 155 | 77 => 156 | n => n, fun | n => n⟩
theorem Tryz.laidSortF : Go.Proofs.SlLaysF0.n6 Tryz.prog Tryz.laidSortF_ren := {
 mixed := by kernel_rfl
 f6 := ⟨Tryz.f39.name, by decide, Tryz.func39.trans (congrArg some (by kernel_rfl))⟩
 f14 := ⟨Tryz.f56.name, by decide, Tryz.func56.trans (congrArg some (by kernel_rfl))⟩
 f15 := Tryz.func57.trans (congrArg some (by kernel_rfl))
 f20 := ⟨Tryz.f75.name, by decide, Tryz.func75.trans (congrArg some (by kernel_rfl))⟩
 f21 := ⟨Tryz.f76.name, by decide, Tryz.func76.trans (congrArg some (by kernel_rfl))⟩
 f22 := ⟨Tryz.f77.name, by decide, Tryz.func77.trans (congrArg some (by kernel_rfl))⟩
 f23 := ⟨Tryz.f78.name, by decide, Tryz.func78.trans (congrArg some (by kernel_rfl))⟩
 f24 := ⟨Tryz.f79.name, by decide, Tryz.func79.trans (congrArg some (by kernel_rfl))⟩
 f25 := ⟨Tryz.f80.name, by decide, Tryz.func80.trans (congrArg some (by kernel_rfl))⟩
 f26 := ⟨Tryz.f81.name, by decide, Tryz.func81.trans (congrArg some (by kernel_rfl))⟩
 f27 := ⟨Tryz.f82.name, by decide, Tryz.func82.trans (congrArg some (by kernel_rfl))⟩
 f28 := Tryz.func83.trans (congrArg some (by kernel_rfl))
 f29 := Tryz.func84.trans (congrArg some (by kernel_rfl))
 f46 := ⟨Tryz.f110.name, by decide, Tryz.func110.trans (congrArg some (by kernel_rfl))⟩
 f47 := Tryz.func111.trans (congrArg some (by kernel_rfl))
 f48 := Tryz.func112.trans (congrArg some (by kernel_rfl))
 f49 := ⟨Tryz.f113.name, by decide, Tryz.func113.trans (congrArg some (by kernel_rfl))⟩
 f50 := ⟨Tryz.f114.name, by decide, Tryz.func114.trans (congrArg some (by kernel_rfl))⟩
 f57 := ⟨Tryz.f131.name, by decide, Tryz.func131.trans (congrArg some (by kernel_rfl))⟩
 t0 := Tryz.underlying0
 a0 := Tryz.isAgg0
 z0 := Tryz.sizeOf0
 v0 := Tryz.zeroValue0
 t3 := Tryz.underlying3
 a3 := Tryz.isAgg3
 z3 := Tryz.sizeOf3
 v3 := Tryz.zeroValue3
 t4 := Tryz.underlying4
 a4 := Tryz.isAgg4
 z4 := Tryz.sizeOf4
 v4 := Tryz.zeroValue4
 t5 := Tryz.underlying5
 a5 := Tryz.isAgg5
 z5 := Tryz.sizeOf5
 v5 := Tryz.zeroValue5
 t9 := Tryz.underlying9
 a9 := Tryz.isAgg9
 z9 := Tryz.sizeOf9
 v9 := Tryz.zeroValue9
 t22 := Tryz.underlying26
 a22 := Tryz.isAgg26
 z22 := Tryz.sizeOf26
 v22 := Tryz.zeroValue26
 t25 := Tryz.underlying68
 a25 := Tryz.isAgg68
 z25 := Tryz.sizeOf68
 v25 := Tryz.zeroValue68
 t39 := Tryz.underlying91
 a39 := Tryz.isAgg91
 z39 := Tryz.sizeOf91
 v39 := Tryz.zeroValue91
 t45 := Tryz.underlying110
 a45 := Tryz.isAgg110
 z45 := Tryz.sizeOf110
 v45 := Tryz.zeroValue110
 t46 := Tryz.underlying111
 a46 := Tryz.isAgg111
 z46 := Tryz.sizeOf111
 v46 := Tryz.zeroValue111
 t50 := Tryz.underlying115
 a50 := Tryz.isAgg115
 z50 := Tryz.sizeOf115
 v50 := Tryz.zeroValue115
 t53 := Tryz.underlying118
 a53 := Tryz.isAgg118
 z53 := Tryz.sizeOf118
 v53 := Tryz.zeroValue118
 t55 := Tryz.underlying120
 a55 := Tryz.isAgg120
 z55 := Tryz.sizeOf120
 v55 := Tryz.zeroValue120
 t66 := Tryz.underlying141
 a66 := Tryz.isAgg141
 z66 := Tryz.sizeOf141
 v66 := Tryz.zeroValue141
 t70 := Tryz.underlying145
 a70 := Tryz.isAgg145
 z70 := Tryz.sizeOf145
 v70 := Tryz.zeroValue145
 t76 := Tryz.underlying155
 a76 := Tryz.isAgg155
 z76 := Tryz.sizeOf155
 v76 := Tryz.zeroValue155
 t77 := Tryz.underlying156
 a77 := Tryz.isAgg156
 z77 := Tryz.sizeOf156
 v77 := Tryz.zeroValue156 }
end Go.Proofs
namespace Go.Proofs.YtenaaneckobdpaaGreat
open Go.RowKit
section
open Go.RowKit Go.Shelf
def cfR (x y : RV) : Int := Lib.compareBytes x.1.1 y.1.1
theorem ltR (x y : RV) : ltOf cfR x y = Op.bytesLess x.1.1 y.1.1 := by
 unfold ltOf cfR
 rcases h : Op.bytesLess x.1.1 y.1.1 with _ | _
 ·
  exact decide_eq_false (fun e => by rw [(zfR _ _).1.1 e] at h; cases h)
 ·
  exact decide_eq_true ((zfR _ _).1.2 h)
theorem swoR : Go.Sort.SWO (ltOf cfR) where
 irrefl x := by rw [ltR]; exact zc9 _
 trans x y z h1 h2 := by rw [ltR] at *; exact zbZ h1 h2
 ntrans x y z h1 h2 := by rw [ltR] at *; exact zdM h2 h1
set_option maxHeartbeats 2000000 in
set_option maxRecDepth 100000 in
theorem ziA (B g c : Nat) (xs : List RV) (w : World) (h : za7 w B (.slice (some ⟨g, 0, none⟩) xs.length c) xs) (hn : xs.length ≤ 1048576) :
 Calls Tryz.prog 39 #[.slice (some ⟨g, 0, none⟩) xs.length c, .func (.func 40) #[] #[]] w fun e w' => e = .returned (.tuple #[]) ∧ ∃ ys : List RV, ys.Perm xs ∧ zdE (ys.map (·.1)) ∧ za7 w' B (.slice (some ⟨g, 0, none⟩) ys.length c) ys ∧ w.grownBy w' (some g) := by
 have hh := h.holds
 have eg : ∀ args w, (callFunc 40 args).run Tryz.prog w = .ok (.enter 40 args) w := enters_of Tryz.func40 (by kernel_rfl) rfl
 have hcmp : CmpLays Tryz.prog 40 #[] encR 3 cfR g 0 xs.toArray.size w := fun _ _ _ _ x y => zk6 x.1.1 y.1.1 x.1.2.1 y.1.2.1 x.2.1 y.2.1 x.1.2.2.length y.1.2.2.length x.2.2 y.2.2 _
 have hc := AnyQ.slices_SortFunc Tryz.laidSortF 3 Tryz.isAgg41 Tryz.sizeOf41 encR (fun _ => rfl) (fun x v hv => by simp [encR] at hv; rcases hv with rfl | rfl | rfl <;> rfl) cfR swoR 40 #[] g 0 c xs.toArray w eg hcmp hh.1 hh.2 (by simp; omega)
 rw [List.size_toArray] at hc
 refine Calls.mono hc ?_
 rintro e w' ⟨rfl, d', n, os, hp, hs, rfl⟩
 obtain ⟨h1, _, h3⟩ := hp
 have hsz : d'.size = xs.length := by rw [h1, List.size_toArray]
 have e1 : d'.extract 0 xs.length = d' := by rw [← hsz]; simp
 have e2 : xs.toArray.extract 0 xs.length = xs.toArray := by simp
 rw [e1, e2] at h3
 have hperm : d'.toList.Perm xs := by simpa using h3
 have hr := h.sorted hperm n os
 rw [Array.toArray_toList] at hr
 refine ⟨rfl, d'.toList, hperm, ?_, hr.1, hr.2⟩
 refine List.pairwise_map.2 (List.pairwise_iff_getElem.2 (fun i j hi hj hij => ?_))
 have hlt := hs i j (Nat.zero_le _) hij (by rw [← hsz]; simpa using hj)
 rw [ltR, getElem!_pos d' j (by simpa using hj), getElem!_pos d' i (by simpa using hi)] at hlt
 simpa using hlt
set_option maxHeartbeats 1000000 in
set_option maxRecDepth 100000 in
theorem ziz (B g c : Nat) (xs : List RV) (w : World) (h : za7 w B (.slice (some ⟨g, 0, none⟩) xs.length c) xs) (hn : xs.length ≤ 1048576) :
 Calls Tryz.prog 21 #[.slice (some ⟨g, 0, none⟩) xs.length c] w fun e w' => e = .returned (.tuple #[]) ∧ ∃ ys : List RV, ys.Perm xs ∧ zdE (ys.map (·.1)) ∧ za7 w' B (.slice (some ⟨g, 0, none⟩) ys.length c) ys ∧ w.grownBy w' (some g) := by
 have HC : Hid (_) := ziA B g c xs w h hn
 clear h
 generalize xs.length = nx at HC ⊢
 go_enter Tryz.func21, Tryz.ntmps21
 go_wp2_with fail
 refine Calls.mono HC.out ?_
 rintro e w' ⟨rfl, ys, h1, h2, h3, h4⟩
 have HR : Hid (∃ ys : List RV, ys.Perm xs ∧ zdE (ys.map (·.1)) ∧ za7 w' B (.slice (some ⟨g, 0, none⟩) ys.length c) ys ∧ w.grownBy w' (some g)) := ⟨ys, h1, h2, h3, h4⟩
 clear HC h1 h2 h3 h4
 go_wp2
 go_end0
 exact ⟨rfl, HR.out⟩
end
theorem zbH.perm {xs ys : List RV} (h : zbH (xs.map rvT)) (hp : ys.Perm xs) : zbH (ys.map rvT) := by
 refine (List.Perm.pairwise_iff (fun {a b} hab => ?_) (hp.map rvT)).2 h
 rcases ha : Value.ownBlock a with _ | p
 ·
  rcases hb : Value.ownBlock b with _ | q
  ·
   exact Or.inl rfl
  ·
   exact Or.inr (by simp)
 ·
  rcases hab with hab | hab
  ·
   rw [ha] at hab; cases hab
  ·
   rw [ha] at hab; exact Or.inr (fun e => hab e.symm)
theorem ziu {os : List Ob} (h : zbb os = 0) : zb1 os = true ∧ os ≠ [] ∧ (zaw (za2 os)).Nodup := by
 unfold zbb at h
 split at h
 ·
  cases h
 ·
  rename_i h1
  split at h
  ·
   cases h
  ·
   rename_i h2
   refine ⟨?_, fun e => h1 (Or.inl e), Decidable.not_not.1 h2⟩
   rcases e : zb1 os with _ | _
   ·
    exact absurd (Or.inr e) h1
   ·
    rfl
theorem zb4.keepB {W X : World} {a : Option Addr} {len : Nat} {is : List In13} (h : zb4 W a len is) (hs : W.heap.size ≤ X.heap.size) (hb : ∀ b off, a = some ⟨b, off, none⟩ → X.heap[b]? = W.heap[b]?) : zb4 X a len is := by
 refine ⟨h.1, fun j hj => ?_⟩
 obtain ⟨b, off, e, hlt, c0, c1, c2, c3, c4⟩ := h.2 j hj
 have hk := hb b off e
 exact ⟨b, off, e, by omega, (World.cell?_of_block (a := ⟨b, off + j * 5, none⟩) hk).trans c0, (World.cell?_of_block (a := ⟨b, off + j * 5 + 1, none⟩) hk).trans c1, (World.cell?_of_block (a := ⟨b, off + j * 5 + 2, none⟩) hk).trans c2, (World.cell?_of_block (a := ⟨b, off + j * 5 + 3, none⟩) hk).trans c3, (World.cell?_of_block (a := ⟨b, off + j * 5 + 4, none⟩) hk).trans c4⟩
theorem zb4.neM {W : World} {a : Option Addr} {len : Nat} {is : List In13} (h : zb4 W a len is) (h0 : 0 < len) {M : Nat} (hM : ∀ o v, W.cell? ⟨M, o, none⟩ = some (.int .i64 v) → False) {b off : Nat} (e : a = some ⟨b, off, none⟩) : b ≠ M ∧ b < W.heap.size := by
 obtain ⟨b', off', e', hlt, c0, _⟩ := h.2 0 h0
 rw [e] at e'
 injection e' with e'
 injection e' with e1 e2 _
 subst e1 e2
 refine ⟨fun hb => ?_, hlt⟩
 subst hb
 exact hM _ _ c0
def zkq (w : World) (os : List Ob) (e : Ending) (w' : World) : Prop := ∃ (v : Value) (xs : List RV), e = .returned (.tuple #[.agg #[v], .int .i64 (zbb os)]) ∧ xs.map (·.1) = zaM os ∧ za7 w' w.heap.size v xs ∧ zbH (xs.map rvT) ∧ Below w.heap.size w w'
set_option maxHeartbeats 16000000 in
set_option maxRecDepth 100000 in
theorem zfd (a : Option Addr) (len cap : Nat) (os : List Ob) (w : World) (h : zaY w a len cap os) :
 Calls Tryz.prog 6 #[.slice a len cap] w fun e w' => zkq w os e w' := by
 have bR := Bx1.new w (.slice none 0 0) 28
 obtain ⟨W1, hW1⟩ : ∃ W, w.alloc (.cells #[.slice none 0 0] 28) = W := ⟨_, rfl⟩
 rw [hW1] at bR
 have hb1 : Below w.heap.size w W1 := by rw [← hW1]; exact (Below.refl _ _).alloc (Nat.le_refl _) _
 have HC0 : Hid (_) := zgu a len cap os W1 (h.below hb1)
 have HBx : Hid (Bx1 W1 w.heap.size (.slice none 0 0) ∧ Below w.heap.size w W1) := ⟨bR, hb1⟩
 obtain ⟨D, hD⟩ : ∃ D, w.heap.size = D := ⟨_, rfl⟩
 have HD : Hid (w.heap.size = D) := hD
 rw [hD] at HBx
 by_cases hz : zbb os = 0
 rotate_left
 ·
  have HV : Hid (zaM os = []) := zdN hz
  unfold zkq
  rw [HV.out]
  obtain ⟨res, hres⟩ : ∃ res, zbb os = res := ⟨_, rfl⟩
  rw [hres] at HC0 hz ⊢
  have hzb : (res != 0) = true := bne_iff_ne.2 hz
  clear h bR hb1 hres hz
  go_enter Tryz.func6, Tryz.ntmps6
  go_wp2_with fail
  refine Calls.mono HC0.out ?_
  rintro e w1 ⟨rfl, hbn⟩
  have bD := HBx.out.1.below hbn
  have hbb : Below D w w1 := HBx.out.2.trans (hbn.mono (by have := HBx.out.1.lt; omega))
  have d0c := bD.c
  have d0f := bD.f
  have k0 := (bD.set (.slice none 0 0)).c
  have HO : Hid (Below D w (w1.setCell ⟨D, 0, none⟩ (.slice none 0 0))) := hbb.grown (zaB _ _ _ _) (by have := hbb.size; have := HD.out; omega) (fun q e => by injection e with e; omega)
  obtain ⟨Z, hZ⟩ : ∃ Z, w1.setCell ⟨D, 0, none⟩ (.slice none 0 0) = Z := ⟨_, rfl⟩
  rw [hZ] at HO k0
  clear bD hbb hbn HC0
  go_wp2
  refine bodyPost_ret (v := .tuple #[.agg #[.slice none 0 0], .int .i64 res]) (by simp [results, Tryz.results6, go_sem, k0]) rfl ?_
  have h4 := HO.out
  first | exact ⟨.slice none 0 0, [], rfl, rfl, za7.nil _ _, zbH.nil, h4⟩ | exact ⟨.slice none 0 0, rfl, [], rfl, za7.nil _ _, zbH.nil, h4⟩ | (rw [← HD.out] at h4; exact ⟨.slice none 0 0, [], rfl, rfl, za7.nil _ _, zbH.nil, h4⟩)
 ·
  obtain ⟨hB, hne, hnd⟩ := ziu hz
  have HV : Hid (zaM os = zao (za2 os)) := zeu hz
  unfold zkq
  rw [HV.out, hz]
  rw [hz] at HC0
  have HRt : Hid (∀ X, Below w.heap.size w X → Calls Tryz.prog 19 #[.slice a len cap] X fun e w' => ∃ g c xs, e = .returned (.slice (some ⟨g, 0, none⟩) (za2 os).length c) ∧ xs.map (·.1) = za2 os ∧ zdm X w' (.slice (some ⟨g, 0, none⟩) xs.length c) xs) := fun X hX => zbX a len cap os X (h.below hX) hB
  have hSm := sm16 hB
  have hl1 : 1 ≤ (za2 os).length := by
   have h1 := (zbs (zam hB).1).1
   have h2 : 1 ≤ os.length := by cases os with | nil => exact absurd rfl hne | cons _ _ => simp
   omega
  have hl64 := hSm.l
  have HSh : Hid (zc0 (za2 os)) := (zg0 hSm.rt).2
  have HFin : Hid (∀ ys : List Rt, ys.Perm (za2 os) → zdE ys → ys = zao (za2 os)) := fun ys hp hs => zem (zhN hnd) hp hs
  have HTk : Hid (∀ k, k < (za2 os).length → (za2 os).take (k + 1) = (za2 os).take k ++ [(za2 os).getD k rt0]) := fun k hk => by
   rw [List.take_succ_eq_append_getElem hk, List.getD_eq_getElem?_getD, List.getElem?_eq_getElem hk]; rfl
  have HPos : Hid (∀ k, k < (za2 os).length → 0 < ((za2 os).getD k rt0).2.2.length) := fun k hk => (zcP (zc7 (hSm.rt _ (zcu _ rt0 hk))).2.2.1).1
  have HTe : Hid ((za2 os).take (za2 os).length = za2 os) := List.take_of_length_le (Nat.le_refl _)
  generalize za2 os = rs at HRt HSh HFin HTk HTe hl1 hl64 HPos ⊢
  rw [hD] at HRt
  clear h bR hb1 hB hne hnd hSm HV hz
  go_enter Tryz.func6, Tryz.ntmps6
  go_wp2_with fail
  refine Calls.mono HC0.out ?_
  rintro e w0 ⟨rfl, hbn⟩
  have bD := HBx.out.1.below hbn
  have hbb : Below D w w0 := HBx.out.2.trans (hbn.mono (by have := HBx.out.1.lt; omega))
  have bM := Bx1.new w0 (.slice none 0 0) 28
  have hbM : Below w0.heap.size w0 (w0.alloc (.cells #[.slice none 0 0] 28)) := (Below.refl _ _).alloc (Nat.le_refl _) _
  have hbbM : Below D w (w0.alloc (.cells #[.slice none 0 0] 28)) := hbb.trans (hbM.mono (by have := bD.lt; omega))
  have HC1 : Hid (_) := HRt.out _ hbbM
  obtain ⟨M, hM⟩ : ∃ M, w0.heap.size = M := ⟨_, rfl⟩
  have HMc : Hid (∀ o v, (w0.alloc (.cells #[.slice none 0 0] 28)).cell? ⟨M, o, none⟩ = some (.int .i64 v) → False) := fun o v hc => by
   rw [← hM, cell_of_row _ _ _ _ _ _ (heap_alloc_new w0 _)] at hc
   cases o <;> simp at hc
  have HB0 : Hid (Bx1 (w0.alloc (.cells #[.slice none 0 0] 28)) D (.slice none 0 0) ∧ Bx1 (w0.alloc (.cells #[.slice none 0 0] 28)) M (.slice none 0 0) ∧ D < M ∧ Below D w (w0.alloc (.cells #[.slice none 0 0] 28))) := ⟨bD.below hbM, by rw [← hM]; exact bM, by have := bD.lt; omega, hbbM⟩
  clear HC0 HRt hbn bD hbb bM hbM hbbM HBx
  go_wp2_with fail
  refine Calls.mono HC1.out ?_
  rintro e w1 ⟨gs, cs, zs, rfl, hzs, hrow⟩
  have hin := hrow.rts hzs
  have HL0 : Hid (Lk16 w1 w1 D M none 0 0 []) := ⟨HB0.out.1.below hrow.b, HB0.out.2.1.below hrow.b, za7.nil _ _, rfl, zby.refl _ _, HB0.out.2.2.1, (HB0.out.2.1.below hrow.b).lt⟩
  have HBw : Hid (Below w.heap.size w w1) := by
   have h1 := HB0.out.2.2.2
   have h2 := h1.trans (hrow.b.mono (by have := HB0.out.1.lt; omega))
   rw [← HD.out] at h2
   exact h2
  have HRI : Hid (zbp w1 (some ⟨gs, 0, none⟩) rs.length rs ∧ w0.heap.size + 1 ≤ gs) := ⟨hin, by
   have := (hrow.row.lt gs rfl).1
   simpa using this⟩
  have HMe : Hid (w0.heap.size = M) := hM
  -- what the routines' row holds at a later world
  have HAt : Hid (∀ X ra rl rc xs, Lk16 w1 X D M ra rl rc xs → ∀ k, k < rs.length → X.cell? ⟨gs, k * 3, none⟩ = some (.string ⟨(rs.getD k rt0).1.toArray⟩) ∧ X.cell? ⟨gs, k * 3 + 1, none⟩ = some (.int .i64 (rs.getD k rt0).2.1) ∧ ∃ ca cc, X.cell? ⟨gs, k * 3 + 2, none⟩ = some (.slice ca (rs.getD k rt0).2.2.length cc) ∧ zb4 X ca (rs.getD k rt0).2.2.length (rs.getD k rt0).2.2) := fun X ra rl rc xs hL k hk => by
   have hbX : Below D w X := by
    have := hL.bl HBw.out (Nat.le_of_eq HD.out)
    rw [HD.out] at this
    exact this
   have hrowX := zeZ hrow.row hL.wr (fun q e hq => by
    have e2 : gs = q := by simpa [Value.ownBlock] using e
    have h2 := HRI.out.2
    have h3 := HMe.out
    omega)
   have hzl : zs.length = rs.length := by rw [← hzs, List.length_map]
   obtain ⟨v0, v1, v2⟩ := zbS zs k (by omega)
   have hgd : rs.getD k rt0 = (zs.getD k rv0).1 := by rw [← hzs]; exact zb2 zs k
   have hmem := zcu zs rv0 (j := k) (by omega)
   have hcod := hrow.cod _ hmem
   rw [hgd]
   have hc := fun j (hj : j < zs.length * 3) => World.ownsRow.cellAt hrowX j hj
   refine ⟨by rw [hc _ (by omega), v0], by rw [hc _ (by omega), v1], (zs.getD k rv0).2.1, (zs.getD k rv0).2.2, by rw [hc _ (by omega), v2]; rfl, ?_⟩
   have hpos : 0 < (zs.getD k rv0).1.2.2.length := by
    rw [← hgd]
    exact HPos.out k hk
   refine hcod.keepB (Nat.le_trans hrow.b.size hL.wr.size) (fun b off e => ?_)
   obtain ⟨hbM, hbl⟩ := hcod.neM hpos (M := M) HMc.out e
   rw [hL.wr.block b (Nat.lt_of_lt_of_le hbl hrow.b.size) hbM]
   exact hrow.b.block b hbl
  clear hin HB0 hzs hrow HC1
  obtain ⟨n, hn⟩ : ∃ n, rs.length = n := ⟨_, rfl⟩
  rw [hn] at HRI HAt HTk HTe hl1 hl64 ⊢
  have HNr : Hid (rs.length = n) := hn
  have HM0 : Hid (([] : List RV).map (·.1) = rs.take 0) := by exact (by simp : ([] : List RV).map (·.1) = rs.take 0)
  clear hn HRI
  go_wp2
  go_loopw [18] (fun iv wr => ∃ (k : Nat) (ra : Option Addr) (rc : Nat) (xs : List RV), iv = .int .i64 (k : Int) ∧ k ≤ n ∧ Hid (xs.map (·.1) = rs.take k) ∧ Hid (zbH (xs.map rvT)) ∧ Hid (Lk16 w1 wr D M ra k rc xs)) (fun iv _ => n - (intOf iv).toNat)
  case atStart => exact ⟨0, none, 0, [], rfl, Nat.zero_le _, HM0, zbH.nil, HL0⟩
  case round =>
   obtain ⟨k, ra, rc, xs, rfl, hk, HM, HAp, HLk⟩ := hrel
   clear HL0 HM0
   by_cases hlt : (k : Int) < (n : Int)
   ·
    obtain ⟨d0, d1, ca, cc, d2, hins⟩ := HAt.out wr ra k rc xs HLk.out k (by omega)
    have hst := HTk.out k (by omega)
    have hsh := HSh.out k
    obtain ⟨r, hr⟩ : ∃ r, rs.getD k rt0 = r := ⟨_, rfl⟩
    rw [hr] at d0 d1 d2 hins hst hsh
    obtain ⟨rn, ar, cd⟩ := r
    simp only at d0 d1 d2 hins hsh
    obtain ⟨Y, hY⟩ : ∃ Y, wr.alloc (.cells #[.string ⟨rn.toArray⟩, .int .i64 ar, .slice ca cd.length cc] 41) = Y := ⟨_, rfl⟩
    have hb : Below wr.heap.size wr Y := by rw [← hY]; exact (Below.refl _ _).alloc (Nat.le_refl _) _
    have hsY : wr.heap.size < Y.heap.size := by rw [← hY]; simp
    have hR : Y.heap[wr.heap.size]? = some (.cells #[.string ⟨rn.toArray⟩, .int .i64 ar, .slice ca cd.length cc] 41) := by rw [← hY]; exact heap_alloc_new wr _
    have hLY := HLk.out.below hb
    obtain ⟨y0, y1, y2, _⟩ := zcG (Below.refl _ Y) hsY hR
    have o0 := hLY.m.c
    have HCp : Hid (∀ V, Below Y.heap.size Y V → Calls Tryz.prog 20 #[.agg #[.string ⟨rn.toArray⟩, .int .i64 ar, .slice ca cd.length cc]] V fun e w' => ∃ g c, e = .returned (.agg #[.string ⟨rn.toArray⟩, .int .i64 ar, .slice (some ⟨g, 0, none⟩) cd.length c]) ∧ w'.ownsRow V.heap.size 58 5 (.slice (some ⟨g, 0, none⟩) cd.length c) cd.length (insV cd) ∧ Below V.heap.size V w') := fun V hV => ziB rn ar ca cc cd V ((hins.below hb).below hV) hsh.1 hsh.2.1 hsh.2.2
    have HSt : Hid (∀ V w5 g c, Below Y.heap.size Y V → w5.ownsRow V.heap.size 58 5 (.slice (some ⟨g, 0, none⟩) cd.length c) cd.length (insV cd) → Below V.heap.size V w5 → ∃ g' c' Z, (Builtin.append_ #[26, 26] 26 #[.slice ra k rc, .slice (some ⟨w5.heap.size, 0, none⟩) 1 1]).run Tryz.prog (w5.alloc (.cells #[.string ⟨rn.toArray⟩, .int .i64 ar, .slice (some ⟨g, 0, none⟩) cd.length c] 41)) = .ok (.slice (some ⟨g', 0, none⟩) (k + 1) c') Z ∧ Z.cell? ⟨M, 0, none⟩ = some (.slice ra k rc) ∧ Z.frozen? ⟨M, 0, none⟩ = false ∧ Lk16 w1 (Z.setCell ⟨M, 0, none⟩ (.slice (some ⟨g', 0, none⟩) (k + 1) c')) D M (some ⟨g', 0, none⟩) (k + 1) c' (xs ++ [((rn, ar, cd), some ⟨g, 0, none⟩, c)]) ∧ zbH ((xs ++ [(((rn, ar, cd), some ⟨g, 0, none⟩, c) : RV)]).map rvT) ∧ w5.cell? ⟨M, 0, none⟩ = some (.slice ra k rc) ∧ (w5.alloc (.cells #[.string ⟨rn.toArray⟩, .int .i64 ar, .slice (some ⟨g, 0, none⟩) cd.length c] 41)).cell? ⟨M, 0, none⟩ = some (.slice ra k rc)) := fun V w5 g c hV hcr hb5 => by
     have hLV := hLY.below hV
     have hL5 := hLV.below hb5
     obtain ⟨g', c', Z, hrun, bZ, hL2⟩ := hL5.push ((rn, ar, cd), some ⟨g, 0, none⟩, c) (zai hcr hLV.sz) (by omega)
     simp only [rvT] at hrun
     refine ⟨g', c', Z, hrun, bZ.c, bZ.f, hL2, ?_, hL5.m.c, (hL5.m.below ((Below.refl _ _).alloc (Nat.le_refl _) _)).c⟩
     rw [List.map_append]
     refine zbH.snoc HAp.out (fun v hv => ?_)
     obtain ⟨z, hz, rfl⟩ := List.mem_map.1 hv
     exact zin (hLV.rts.trees z hz) hcr (Nat.le_refl _)
    have HM2 : Hid (xs.map (·.1) ++ [((rn, ar, cd) : Rt)] = rs.take (k + 1)) := by exact (by rw [hst, HM.out] : xs.map (·.1) ++ [((rn, ar, cd) : Rt)] = rs.take (k + 1))
    have HMp : Hid (∀ (x : RV), x.1 = (rn, ar, cd) → (xs ++ [x]).map (·.1) = rs.take (k + 1)) := fun x hx => by rw [← HM2.out, List.map_append, ← hx]; rfl
    obtain ⟨E, hE⟩ : ∃ E, wr.heap.size = E := ⟨_, rfl⟩
    rw [hE] at y0 y1 y2
    obtain ⟨nc, hnc⟩ : ∃ nc, cd.length = nc := ⟨_, rfl⟩
    rw [hnc] at d2 hY y2 HCp HSt
    clear hst hr hins hsh hb hR hLY HLk HM HM2 hsY hnc HAp
    go_wp2_with fail
    go_region_law (first | (refine zaa (by rfl) (.tmp 23) (.tmp 26) 26 (by rfl) _ _ _ (by rfl) (by rfl) hr5 ?_) | (go_simp; go_at_call 20; refine Calls.mono (HCp.out _ ⟨rfl, rfl, rfl, Nat.le_refl _, fun _ _ => rfl⟩) ?_; rintro e w5 ⟨g5, c5, rfl, hcr, hb5⟩; obtain ⟨g', c', Z, hr5, z0, zf, hq, hap, o15, o16⟩ := HSt.out Y.drew w5 g5 c5 ⟨rfl, rfl, rfl, Nat.le_refl _, fun _ _ => rfl⟩ hcr hb5; have HQ : Hid (_) := hq; have HQa : Hid (_) := hap; clear hcr hb5 hq hap; dsimp only))
    all_goals
     go_wp2
     go_roundw
     case rel => exact ⟨k + 1, some ⟨g', 0, none⟩, c', _, by go_num, by omega, HMp.out _ rfl, HQa, HQ⟩
     case measure => simp [intOf]; omega
   ·
    obtain rfl : k = n := by omega
    rw [HTe.out] at HM
    obtain ⟨g, cp, eg⟩ := za9 HLk.out.row (by omega)
    injection eg with eg1 _ eg3
    subst eg1 eg3
    have hgl := HLk.out.gl
    have hgw := (HLk.out.row.lt g rfl).1
    have hlm := HLk.out.lm
    have hlr := HLk.out.lr
    have hrt := HLk.out.rts
    have q0 := HLk.out.m.c
    have HC : Hid (_) := ziz w1.heap.size g rc xs wr (by rw [hgl]; exact hrt) (by omega)
    rw [hgl] at HC
    have HK : Hid (∀ w2, wr.grownBy w2 (some g) → Bx1 w2 M (.slice (some ⟨g, 0, none⟩) k rc) ∧ Bx1 w2 D (.slice none 0 0) ∧ Below w.heap.size w w2) := fun w2 hg => by
     have hb0 := HLk.out.bl HBw.out (Nat.le_of_eq HD.out)
     have hsz := HBw.out.size
     exact ⟨HLk.out.m.grown hg (fun e => by injection e with e; omega), HLk.out.r.grown hg (fun e => by injection e with e; omega), hb0.grown hg hb0.size (fun q e => by injection e with e; omega)⟩
    have HP : Hid (∀ ys : List RV, ys.Perm xs → zdE (ys.map (·.1)) → ys.map (·.1) = zao rs ∧ zbH (ys.map rvT) ∧ ys.length = k) := fun ys hp hs => ⟨HFin.out _ (by rw [← HM.out]; exact hp.map _) hs, HAp.out.perm hp, by rw [hp.length_eq, hgl]⟩
    have hDw : D < w1.heap.size := by omega
    clear HLk hrt hgl HM HAp
    go_wp2_with fail
    refine Calls.mono HC.out ?_
    rintro e w2 ⟨rfl, ys, hp, hs, hry, hg2⟩
    obtain ⟨b1, b2, hbz⟩ := HK.out w2 hg2
    obtain ⟨hys, hay, hyl⟩ := HP.out ys hp hs
    rw [hyl] at hry
    have m0 := b1.c
    have d0c := b2.c
    have d0f := b2.f
    have k0 := (b2.set (.slice (some ⟨g, 0, none⟩) k rc)).c
    have hgs := zaB w2 D 0 (.slice (some ⟨g, 0, none⟩) k rc)
    have HO : Hid (∃ (v : Value) (xs2 : List RV), Ending.returned (.tuple #[.agg #[.slice (some ⟨g, 0, none⟩) k rc], .int .i64 0]) = .returned (.tuple #[.agg #[v], .int .i64 0]) ∧ xs2.map (·.1) = zao rs ∧ za7 (w2.setCell ⟨D, 0, none⟩ (.slice (some ⟨g, 0, none⟩) k rc)) w.heap.size v xs2 ∧ zbH (xs2.map rvT) ∧ Below w.heap.size w (w2.setCell ⟨D, 0, none⟩ (.slice (some ⟨g, 0, none⟩) k rc))) := by
     have hsz := HBw.out.size
     exact ⟨_, ys, rfl, hys, za7.base ⟨zaV hry.row hDw hgs, fun x hx => zaV (hry.trees x hx) hDw hgs⟩ hsz, hay, hbz.grown hgs hbz.size (fun q e => by injection e with e; have := HD.out; omega)⟩
    obtain ⟨Z, hZ⟩ : ∃ Z, w2.setCell ⟨D, 0, none⟩ (.slice (some ⟨g, 0, none⟩) k rc) = Z := ⟨_, rfl⟩
    rw [hZ] at HO k0
    clear HC HK HP hp hs hry hg2 b1 b2 hbz hys hay hyl hgs
    go_wp2
    refine bodyPost_ret (v := .tuple #[.agg #[.slice (some ⟨g, 0, none⟩) k rc], .int .i64 0]) (by simp [results, Tryz.results6, go_sem, k0]) rfl ?_
    obtain ⟨v, xs2, h1, h2, h3, h4, h5⟩ := HO.out
    first | exact ⟨v, xs2, h1, h2, h3, h4, h5⟩ | (rw [HD.out] at h3 h5; first | exact ⟨v, xs2, h1, h2, h3, h4, h5⟩ | exact ⟨v, h1, xs2, h2, h3, h4, h5⟩)
set_option maxHeartbeats 2000000 in
set_option maxRecDepth 100000 in
theorem zjI (a b : Option Addr) (len ca cb : Nat) (ns : List In13) (w : World) (ha : zb4 w a len ns) (hb : zb4 w b len ns) (hlen : len ≤ 4194304) :
 Calls Tryz.prog 29 #[.slice a len ca, .slice b len cb] w fun e w' => e = .returned (.bool true) ∧ Below w.heap.size w w' := by
 have hlb := ha.1
 have HA : Hid (zb4 w a len ns) := ha
 have HB : Hid (zb4 w b len ns) := hb
 clear ha hb
 have hi : ∀ n : Int, (n == n) = true := by simp
 have hs : ∀ l : List UInt8, (l == l) = true := by simp
 have h1 : ∀ n : Int, (n != n) = false := by simp
 go_enter Tryz.func29, Tryz.ntmps29
 go_wp2
 go_loopw [5] (fun i wr => ∃ k : Nat, k ≤ len ∧ i = .int .i64 k ∧ Below w.heap.size w wr) (fun i _ => len - (intOf i).toNat)
 case atStart => exact ⟨0, Nat.zero_le _, rfl, Below.refl _ _⟩
 case round =>
  obtain ⟨k, hk, rfl, hB⟩ := hrel
  by_cases hkl : (k : Int) < (len : Int)
  ·
   obtain ⟨b1, o1, rfl, hb1, hc1⟩ := (HA.out.below hB).at (by omega)
   obtain ⟨b2, o2, rfl, hb2, hc2⟩ := (HB.out.below hB).at (by omega)
   obtain ⟨x0, x1, x2, x3, x4⟩ := hc1 k (by omega)
   obtain ⟨y0, y1, y2, y3, y4⟩ := hc2 k (by omega)
   obtain ⟨x, hx⟩ : ∃ x, ns.getD k in0 = x := ⟨_, rfl⟩
   rw [hx] at x0 x1 x2 x3 x4 y0 y1 y2 y3 y4
   obtain ⟨kd, r, aa, bb, s⟩ := x
   simp only at x0 x1 x2 x3 x4 y0 y1 y2 y3 y4
   clear hx hc1 hc2
   go_wp2
   go_region
   all_goals (try go_wp2)
   go_roundw
   case rel => exact ⟨k + 1, by omega, by go_num, hB.grown (zb7 _ none) hB.size (by simp)⟩
   case measure => simp [intOf]; omega
  ·
   go_wp2
   go_ret
   exact ⟨rfl, hB⟩
set_option maxHeartbeats 4000000 in
set_option maxRecDepth 100000 in
theorem zdv (a b : Option Addr) (len ca cb : Nat) (rs : List Rt) (w : World) (ha : zbp w a len rs) (hb : zbp w b len rs) (hlen : len ≤ 4194304) (hsh : ∀ j, (rs.getD j rt0).2.2.length ≤ 4194304) :
 Calls Tryz.prog 10 #[.slice a len ca, .slice b len cb] w fun e w' => e = .returned (.bool true) ∧ Below w.heap.size w w' := by
 have h1 : ∀ n : Int, (n != n) = false := by simp
 have h2 : ∀ l : List UInt8, (l != l) = false := by simp
 have HA : Hid (∀ V, Below w.heap.size w V → zbp V a len rs ∧ zbp V b len rs) := fun V h => ⟨ha.below h, hb.below h⟩
 have HSH : Hid (∀ j, (rs.getD j rt0).2.2.length ≤ 4194304) := hsh
 clear ha hb hsh
 go_enter Tryz.func10, Tryz.ntmps10
 go_wp2
 go_loopw [5] (fun i wr => ∃ k : Nat, k ≤ len ∧ i = .int .i64 k ∧ Below w.heap.size w wr) (fun i _ => len - (intOf i).toNat)
 case atStart => exact ⟨0, Nat.zero_le _, rfl, Below.refl _ _⟩
 case round =>
  obtain ⟨k, hk, rfl, hBr⟩ := hrel
  by_cases hkl : (k : Int) < (len : Int)
  ·
   obtain ⟨hA, hB⟩ := HA.out wr hBr
   obtain ⟨b1, o1, rfl, hl1, x0, x1, ta, tl, tc, x2, hta⟩ := hA.2 k (by omega)
   obtain ⟨b2, o2, rfl, hl2, y0, y1, ua, ul, uc, y2, hua⟩ := hB.2 k (by omega)
   have hts := HSH.out k
   obtain ⟨f, hf⟩ : ∃ f, rs.getD k rt0 = f := ⟨_, rfl⟩
   rw [hf] at x0 x1 hta y0 y1 hua hts
   obtain ⟨s, n, t⟩ := f
   simp only at x0 x1 hta y0 y1 hua hts
   obtain rfl : t.length = tl := hta.1
   obtain rfl : t.length = ul := hua.1
   have HL : Hid (∀ V, Below wr.heap.size wr V → Calls Tryz.prog 29 #[.slice ta t.length tc, .slice ua t.length uc] V fun e w' => e = .returned (.bool true) ∧ Below V.heap.size V w') := fun V h => zjI ta ua t.length tc uc t V (hta.below h) (hua.below h) hts
   have HBr : Hid (Below w.heap.size w wr) := hBr
   have hV : Below wr.heap.size wr wr := Below.refl _ _
   clear hf hta hua hA hB hBr hts
   go_wp2_with fail
   replace hV := hV.drew
   go_region_held3 (fun w' => w'.cell? ⟨b1, o1 + k * 3, none⟩ = some (.string ⟨s.toArray⟩) ∧ w'.cell? ⟨b1, o1 + k * 3 + 1, none⟩ = some (.int .i64 n) ∧ w'.cell? ⟨b1, o1 + k * 3 + 2, none⟩ = some (.slice ta t.length tc) ∧ w'.cell? ⟨b2, o2 + k * 3, none⟩ = some (.string ⟨s.toArray⟩) ∧ w'.cell? ⟨b2, o2 + k * 3 + 1, none⟩ = some (.int .i64 n) ∧ w'.cell? ⟨b2, o2 + k * 3 + 2, none⟩ = some (.slice ua t.length uc)) (go_keep) (first | (go_at_call 29; refine (HL.out _ hV).mono ?_; rintro e wn ⟨rfl, hbn⟩; replace hV := hV.trans (hbn.mono hV.size); replace x0 := (hbn.cell (p := ⟨b1, o1 + k * 3, none⟩) hl1).trans x0; replace x1 := (hbn.cell (p := ⟨b1, o1 + k * 3 + 1, none⟩) hl1).trans x1; replace x2 := (hbn.cell (p := ⟨b1, o1 + k * 3 + 2, none⟩) hl1).trans x2; replace y0 := (hbn.cell (p := ⟨b2, o2 + k * 3, none⟩) hl2).trans y0; replace y1 := (hbn.cell (p := ⟨b2, o2 + k * 3 + 1, none⟩) hl2).trans y1; replace y2 := (hbn.cell (p := ⟨b2, o2 + k * 3 + 2, none⟩) hl2).trans y2; clear hbn))
   all_goals go_wp2
   go_roundw
   case rel => exact ⟨k + 1, by omega, by go_num, HBr.out.trans (hV.mono HBr.out.size)⟩
   case measure => simp [intOf]; omega
  ·
   go_wp2
   go_ret
   exact ⟨rfl, hBr⟩

set_option maxHeartbeats 1000000 in
set_option maxRecDepth 100000 in
theorem lawHas (a : Option Addr) (len cap : Nat) (ts : List (List UInt8)) (s : List UInt8) (w : World) (hin : zah w a len ts) (hlen : len ≤ 4194304) :
 Calls Tryz.prog 15 #[.slice a len cap, .string ⟨s.toArray⟩] w fun e w' => e = .returned (.bool (decide (s ∈ ts))) ∧ w' = w := by
 obtain rfl : ts.length = len := hin.1
 have HI : Hid (zah w a ts.length ts) := hin
 clear hin
 go_enter Tryz.func15, Tryz.ntmps15
 go_wp2
 go_loopw [5] (fun iv wr => ∃ k : Nat, iv = .int .i64 (k : Int) ∧ k ≤ ts.length ∧ Hid (∀ i, i < k → ts.getD i [] ≠ s) ∧ wr = w) (fun iv _ => ts.length - (intOf iv).toNat)
 case atStart => exact ⟨0, rfl, by omega, (fun i hi => by omega), rfl⟩
 case round =>
  obtain ⟨k, rfl, hk, HA, rfl⟩ := hrel
  by_cases hlt : (k : Int) < (ts.length : Int)
  ·
   have hk2 : k < ts.length := by omega
   obtain ⟨b, off, rfl, hbl, c0⟩ := HI.out.2 k hk2
   have hmem := zeG hk2
   obtain ⟨x, hx⟩ : ∃ x, ts.getD k [] = x := ⟨_, rfl⟩
   rw [hx] at c0 hmem
   by_cases hxs : x = s
   ·
    subst hxs
    have HR : Hid (decide (x ∈ ts) = true) := decide_eq_true hmem
    have hself : (x == x) = true := by simp
    clear HA hx hmem
    go_wp2
    go_ret
    exact ⟨by rw [HR.out]; rfl, rfl⟩
   ·
    have HA2 : Hid (∀ i, i < k + 1 → ts.getD i [] ≠ s) := fun i hi => by
     rcases Nat.lt_or_ge i k with h | h
     ·
      exact HA.out i h
     ·
      obtain rfl : i = k := by omega
      rw [hx]; exact hxs
    have hne : (x == s) = false := by rw [beq_eq_false_iff_ne]; exact hxs
    clear HA hx hmem
    go_wp2
    go_roundw
    case rel => exact ⟨k + 1, by go_num, by omega, HA2, trivial⟩
    case measure => simp [intOf]; omega
  ·
   have HR : Hid (decide (s ∈ ts) = false) := decide_eq_false (zdt HA.out (by omega))
   go_wp2
   go_ret
   exact ⟨by rw [HR.out]; rfl, rfl⟩
set_option maxHeartbeats 2000000 in
set_option maxRecDepth 100000 in
theorem zhW (a : Option Addr) (len cap : Nat) (ts : List (List UInt8)) (w : World) (hin : zah w a len ts) (hlen : len ≤ 1048576) :
 Calls Tryz.prog 14 #[.slice a len cap] w fun e w' => e = .returned (.bool (zcJ ts)) ∧ Below w.heap.size w w' := by
 obtain rfl : ts.length = len := hin.1
 have HI : Hid (zah w a ts.length ts) := hin
 clear hin
 go_enter Tryz.func14, Tryz.ntmps14
 go_wp2
 go_loopw [3] (fun iv wr => ∃ j : Nat, iv = .int .i64 ((j : Int) + 1) ∧ j ≤ ts.length ∧ Hid (∀ i, i < j → leT (ts.getD (i + 1) []) (ts.getD i []) = false) ∧ Hid (zah wr a ts.length ts) ∧ Hid (Below w.heap.size w wr)) (fun iv _ => ts.length + 1 - (intOf iv).toNat)
 case atStart => exact ⟨0, rfl, by omega, (fun i hi => by omega), HI, Below.refl _ _⟩
 case round =>
  obtain ⟨j, rfl, hj, HA, HT, HB⟩ := hrel
  clear HI
  by_cases hlt : (j : Int) + 1 < (ts.length : Int)
  ·
   obtain ⟨b, off, rfl, hbl, c0⟩ := HT.out.2 j (by omega)
   obtain ⟨b', off', he, _, c1⟩ := HT.out.2 (j + 1) (by omega)
   simp only [Option.some.injEq, Addr.mk.injEq, and_true] at he
   obtain ⟨rfl, rfl⟩ := he
   obtain ⟨x, hx⟩ : ∃ x, ts.getD j [] = x := ⟨_, rfl⟩
   obtain ⟨y, hy⟩ : ∃ y, ts.getD (j + 1) [] = y := ⟨_, rfl⟩
   rw [hx] at c0
   rw [hy] at c1
   rcases hle : leT y x with _ | _
   ·
    have HA2 : Hid (∀ i, i < j + 1 → leT (ts.getD (i + 1) []) (ts.getD i []) = false) := fun i hi => by
     rcases Nat.lt_or_ge i j with h | h
     ·
      exact HA.out i h
     ·
      obtain rfl : i = j := by omega
      rw [hx, hy]; exact hle
    have HT2 : Hid (zah wr (some ⟨b, off, none⟩) ts.length ts) := HT.out
    unfold leT at hle
    clear HA HT hx hy
    go_wp2_with fail
    go_quiet (fail)
    go_wp2
    go_roundw
    case rel => exact ⟨j + 1, by go_num, by omega, HA2, HT2, HB.out.trans ⟨rfl, rfl, rfl, Nat.le_refl _, fun _ _ => rfl⟩⟩
    case measure => simp [intOf]; omega
   ·
    have HR : Hid (zcJ ts = false) := zfq (j := j) (by omega) (by rw [hx, hy]; exact hle)
    unfold leT at hle
    clear HA HT hx hy
    go_wp2_with fail
    go_quiet (fail)
    go_wp2
    go_ret
    exact ⟨by rw [HR.out]; rfl, HB.out.trans ⟨rfl, rfl, rfl, Nat.le_refl _, fun _ _ => rfl⟩⟩
  ·
   have HR : Hid (zcJ ts = true) := zep (j := j) (by omega) HA.out
   go_wp2
   go_ret
   exact ⟨by rw [HR.out]; rfl, HB.out⟩
set_option maxHeartbeats 1000000 in
set_option maxRecDepth 100000 in
theorem zdO (a b : Option Addr) (len ca cb : Nat) (ts : List (List UInt8)) (w : World) (ha : zah w a len ts) (hb : zah w b len ts) (hlen : len ≤ 4194304) :
 Calls Tryz.prog 11 #[.slice a len ca, .slice b len cb] w fun e w' => e = .returned (.bool true) ∧ Below w.heap.size w w' := by
 have hne : ((len : Int) != (len : Int)) = false := by simp
 have hself : ∀ l : List UInt8, (l != l) = false := by simp
 have HA : Hid (zah w a len ts) := ha
 have HB : Hid (zah w b len ts) := hb
 clear ha hb
 go_enter Tryz.func11, Tryz.ntmps11
 go_wp2
 go_loopw [5] (fun i wr => ∃ k : Nat, k ≤ len ∧ i = .int .i64 k ∧ Below w.heap.size w wr) (fun i _ => len - (intOf i).toNat)
 case atStart => exact ⟨0, Nat.zero_le _, rfl, Below.refl _ _⟩
 case round =>
  obtain ⟨k, hk, rfl, hB⟩ := hrel
  by_cases hkl : (k : Int) < (len : Int)
  ·
   obtain ⟨b1, o1, rfl, hb1, hca⟩ := (HA.out.below hB).2 k (by omega)
   obtain ⟨b2, o2, rfl, hb2, hcb⟩ := (HB.out.below hB).2 k (by omega)
   obtain ⟨t, ht⟩ : ∃ t, ts.getD k [] = t := ⟨_, rfl⟩
   rw [ht] at hca hcb
   clear ht
   go_wp2
   go_region
   all_goals (try go_wp2)
   go_roundw
   case rel => exact ⟨k + 1, by omega, by go_num, hB.drew⟩
   case measure => simp [intOf]; omega
  ·
   go_wp2
   go_ret
   exact ⟨rfl, hB⟩
theorem zg3 {α β : Type} (f : α → List β) {x y : List α} (h : x.Perm y) : (x.flatMap f).Perm (y.flatMap f) := by
 induction h with
 | nil => exact List.Perm.nil
 | cons a _ ih => simp only [List.flatMap_cons]; exact List.Perm.append_left _ ih
 | swap a b l => simp only [List.flatMap_cons, ← List.append_assoc]; exact List.Perm.append_right _ List.perm_append_comm
 | trans _ _ h1 h2 => exact h1.trans h2
section
variable {x y : List Ob}
theorem zip (h : x.Perm y) : zb1 x = zb1 y := by
 unfold zb1
 rw [h.length_eq]
 congr 1
 rw [Bool.eq_iff_iff, List.all_eq_true, List.all_eq_true]
 exact ⟨fun g o ho => g o (h.mem_iff.2 ho), fun g o ho => g o (h.mem_iff.1 ho)⟩
theorem zcV (h : x.Perm y) : (za2 x).Perm (za2 y) := zg3 _ h
theorem ze6 (h : x.Perm y) : (za1 (za2 x)).Perm (za1 (za2 y)) := zg3 _ (zcV h)
theorem zf6 (h : x.Perm y) : (zaw (za2 x)).Perm (zaw (za2 y)) := (zcV h).map _
theorem zis (h : x.Perm y) : zaF (za2 x) (za1 (za2 x)) = zaF (za2 y) (za1 (za2 y)) := by
 refine zeo (zbn _) (zbn _) (fun a => ?_)
 rw [zaF, zaF, zbi, zbi, outN, outN, List.mem_filter, List.mem_filter, List.mem_map, List.mem_map, decide_eq_true_eq, decide_eq_true_eq]
 have h1 := (zf6 h).mem_iff (a := a)
 have h2 := fun c => (ze6 h).mem_iff (a := c)
 constructor
 ·
  rintro ⟨⟨c, hc, e⟩, hn⟩
  exact ⟨⟨c, (h2 c).1 hc, e⟩, fun g => hn (h1.2 g)⟩
 ·
  rintro ⟨⟨c, hc, e⟩, hn⟩
  exact ⟨⟨c, (h2 c).2 hc, e⟩, fun g => hn (h1.1 g)⟩
theorem ziE (h : x.Perm y) : zbN (za2 x) (za1 (za2 x)) = zbN (za2 y) (za1 (za2 y)) := by
 have h1 := fun r => (zcV h).mem_iff (a := r)
 have h2 := fun c => (ze6 h).mem_iff (a := c)
 unfold zbN
 rw [Bool.eq_iff_iff, List.all_eq_true, List.all_eq_true]
 constructor
 ·
  intro g c hc
  obtain ⟨r, hr, e⟩ := List.any_eq_true.1 (g c ((h2 c).2 hc))
  exact List.any_eq_true.2 ⟨r, (h1 r).1 hr, e⟩
 ·
  intro g c hc
  obtain ⟨r, hr, e⟩ := List.any_eq_true.1 (g c ((h2 c).1 hc))
  exact List.any_eq_true.2 ⟨r, (h1 r).2 hr, e⟩
theorem zf9 (h : x.Perm y) : zbb x = zbb y := by
 have e1 : (x = []) = (y = []) := propext ⟨fun e => List.length_eq_zero_iff.1 (by rw [← h.length_eq, e]; rfl), fun e => List.length_eq_zero_iff.1 (by rw [h.length_eq, e]; rfl)⟩
 have e2 : (zaw (za2 x)).Nodup = (zaw (za2 y)).Nodup := propext (zf6 h).nodup_iff
 unfold zbb
 simp only [e1, zip h, e2, zis h, ziE h]
theorem zew (h : zbb x = 0) : zb1 x = true ∧ x ≠ [] ∧ (zaw (za2 x)).Nodup ∧ zaF (za2 x) (za1 (za2 x)) = [] ∧ zbN (za2 x) (za1 (za2 x)) = true := by
 unfold zbb at h
 split at h
 ·
  cases h
 ·
  rename_i h1
  split at h
  ·
   cases h
  ·
   rename_i h2
   split at h
   ·
    cases h
   ·
    rename_i h3
    split at h
    ·
     cases h
    ·
     rename_i h4
     refine ⟨?_, fun e => h1 (Or.inl e), Classical.not_not.1 h2, Classical.not_not.1 h3, ?_⟩
     ·
      rcases e : zb1 x with _ | _
      ·
       exact absurd (Or.inr e) h1
      ·
       rfl
     ·
      rcases e : zbN (za2 x) (za1 (za2 x)) with _ | _
      ·
       exact absurd e h4
      ·
       rfl
theorem zgg (h : x.Perm y) : zaM x = zaM y := by
 unfold zaM
 rw [zf9 h]
 split
 ·
  rename_i h0
  exact zem (zhN (zew h0).2.2.1) ((zb0 _).trans (zcV h)) (zcy _)
 ·
  rfl
theorem zev (h : zbb x ≠ 0) : zaM x = [] := if_neg h
theorem zit (h : zbb x = 0) : zaw (zaM x) = zau x ∧ zax x = [] ∧ zbM (zaM x) = true := by
 obtain ⟨h1, h2, h3, h4, h5⟩ := zew h
 have e1 : zaM x = zao (za2 x) := if_pos h
 have e2 : zau x = zaQ (za2 x) := if_pos h1
 have hp := (zb0 (za2 x)).map (fun r : Rt => r.1)
 have hn : (zaw (zao (za2 x))).Nodup := hp.nodup_iff.2 h3
 have hr : Rise (zaw (zao (za2 x))) := (List.pairwise_and_iff.2 ⟨hn, List.pairwise_map.2 (zcy (za2 x))⟩).imp (fun {a b} hab => by
  rcases e : Op.bytesLess a b with _ | _
  ·
   exact absurd (zcN e hab.2) hab.1
  ·
   rfl)
 refine ⟨?_, (if_pos h1).trans h4, ?_⟩
 ·
  rw [e1, e2]
  exact zhH hr (fun a => hp.mem_iff)
 ·
  rw [e1, zf8 h1 h2 h3]
  exact h5
theorem zh4 {s : List UInt8} (h : s ∈ zax x) : ¬ s ∈ zau x := by
 unfold zax at h
 split at h
 ·
  rename_i h1
  have e2 : zau x = zaQ (za2 x) := if_pos h1
  rw [e2, zaQ, zbi]
  rw [zaF, zbi, outN, List.mem_filter, decide_eq_true_eq] at h
  exact h.2
 ·
  cases h
theorem zfQ : Rise (zau x) := by
 unfold zau
 split
 ·
  exact zbn _
 ·
  exact List.Pairwise.nil
theorem zfx : Rise (zax x) := by
 unfold zax
 split
 ·
  exact zbn _
 ·
  exact List.Pairwise.nil
end
theorem code_nil (w : World) : Code w w.heap.size none 0 := fun j hj => by omega
theorem code_of (w : World) (x : Addr) (len : Nat) (zs : List Int) (h : ∀ i, i < zs.length → w.cell? (x.add i) = some (.int .u8 (zs.getD i 0))) (hl : len ≤ zs.length) (hw : ∀ n ∈ zs, (Lit.int .u8 n).wf = true) : Code w w.heap.size (some x) len := by
 intro j hj
 obtain ⟨b, off, spot⟩ := x
 have hc := h j (by omega)
 have hspot : spot = none := by simpa [Addr.add] using World.cell?_spot (h 0 (by omega))
 subst hspot
 have e : (⟨b, off, none⟩ : Addr).add j = ⟨b, off + j, none⟩ := by unfold Addr.add; split <;> simp_all
 rw [e] at hc
 have hb := bounds_u8 (hw (zs.getD j 0) (by rw [List.getD_eq_getElem?_getD, List.getElem?_eq_getElem (by omega)]; exact List.getElem_mem _))
 exact ⟨b, off, _, rfl, World.block_lt_of_cell? w ⟨b, off + j, none⟩ hc, hc, hb⟩
theorem Code.later {w w' : World} {a : Option Addr} {len : Nat} (h : Code w w.heap.size a len) (hb : Below w.heap.size w w') : Code w' w'.heap.size a len := by
 intro j hj
 obtain ⟨b, off, x, e1, e2, e3, e0⟩ := h j hj
 exact ⟨b, off, x, e1, Nat.lt_of_lt_of_le e2 hb.size, (hb.cell (p := ⟨b, off + j, none⟩) e2).trans e3, e0⟩
theorem Code.kept {w w' : World} {a : Option Addr} {len : Nat} (h : Code w w.heap.size a len) (hg : w.grownBy w' none) : Code w' w'.heap.size a len :=
 h.later ⟨hg.os, hg.tape, hg.output, hg.size, fun k hk => hg.block k hk (by simp)⟩
set_option maxHeartbeats 400000 in
set_option maxRecDepth 100000 in
theorem bigB (w : World) (a : Option Addr) (len cap : Nat) :
 Calls Tryz.prog 4 #[.slice a len cap] w fun e w' => e = .returned (.bool (decide (4096 < (len : Int)))) ∧ w' = w := by
 go_enter Tryz.func4, Tryz.ntmps4
 go_wp2
 go_ret
 exact ⟨rfl, rfl⟩
end Go.Proofs.YtenaaneckobdpaaGreat
