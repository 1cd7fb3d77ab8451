/-
  Parts of one proof, one behind the other: ObG, SortF, ObT, LkP, LkH, LsF.
-/
import Derived.Test.YteolfnceobjonaaGreatP25
import Derived.Test.YteolfnceobjonaaGreatP8
import Derived.Test.YteolfnceobjonaaGreatP13
import Derived.Shelf.GgSortFunc.InsertionK
import Derived.Shelf.SlSortCmp.WholeK
import Derived.Ground.SlsfProg
import Derived.Test.YteolfnceobjonaaGreatProg
import Derived.Test.YteolfnceobjonaaGreatP21

/-! A row of routines that is sorted in its place: what the library's world behind slices.SortFunc holds. -/
namespace Go.Proofs.YteolfnceobjonaaGreat
open Go.RowKit Go.Sort Go.Shelf

/-- A routine's three cells. -/
def encR (x : RV) : List Value := [.string ⟨x.1.1.toArray⟩, .int .i64 x.1.2.1, rvT x]
theorem rtsV_get : ∀ (xs : List RV) (j : Nat), j < xs.length * 3 → (rtsV xs)[j]? = some ((encR (xs[j / 3]!))[j % 3]!)
  | [], j, h => by simp at h
  | x :: r, 0, _ => by simp [rtsV, encR]
  | x :: r, 1, _ => by simp [rtsV, encR]
  | x :: r, 2, _ => by simp [rtsV, encR]
  | x :: r, j + 3, h => by
    have h1 : (j + 3) / 3 = j / 3 + 1 := by omega
    have h2 : (j + 3) % 3 = j % 3 := by omega
    have h3 : j < r.length * 3 := by simp only [List.length_cons] at h; omega
    rw [h1, h2, List.getElem!_cons_succ]
    simp only [rtsV, List.getElem?_cons_succ]
    exact rtsV_get r j h3
theorem rtsV_len15 : ∀ xs : List RV, (rtsV xs).length = xs.length * 3
  | [] => rfl
  | x :: r => by simp only [rtsV, List.length_cons, rtsV_len15 r]; omega
theorem flat_rts (xs : List RV) : (flatK encR 3 xs.toArray).toList = rtsV xs := by
  apply List.ext_getElem?
  intro j
  by_cases hj : j < xs.length * 3
  · rw [rtsV_get xs j hj, Array.getElem?_toList, Array.getElem?_eq_getElem (by simpa using hj), ← getElem!_pos _ j (by simpa using hj), get_flatK encR 3 _ j (by simpa using hj)]
    simp
  · rw [List.getElem?_eq_none (by rw [Array.length_toList, size_flatK, List.size_toArray]; omega), List.getElem?_eq_none (by rw [rtsV_len15]; omega)]

theorem heap_sortedV {w : World} {g n : Nat} {os : Array Obj} {cur : Array Value} {e : TypeId} {fr : Nat × Nat} (F : Array Value) (hb : w.heap[g]? = some (.cells cur e fr)) :
    (grow (putRow id (Sort.ahead w n) g 0 F) os).heap[g]? = some (.cells (putCells id 0 F cur) e fr) := by
  have hg : g < w.heap.size := (Array.getElem?_eq_some_iff.1 hb).1
  rw [heap_grow_old _ _ (by simpa using hg)]
  simp [putRow, mapBlock, Sort.ahead, Array.getElem?_modify, hb, onCells]
theorem grownBy_sortedV {w : World} {g n : Nat} {os : Array Obj} (F : Array Value) : w.grownBy (grow (putRow id (Sort.ahead w n) g 0 F) os) (some g) := by
  refine ⟨rfl, rfl, rfl, by simp, fun k hk hne => ?_⟩
  rw [heap_grow_old _ _ (by simpa using hk)]
  have : g ≠ k := fun e => hne (by rw [e])
  simp [putRow, mapBlock, Sort.ahead, Array.getElem?_modify, this]
theorem take_putCellsV (cur F : Array Value) (h : F.size ≤ cur.size) : (putCells id 0 F cur).toList.take F.size = F.toList := by
  apply List.ext_getElem?
  intro j
  by_cases hj : j < F.size
  · rw [List.getElem?_take_of_lt hj, Array.getElem?_toList, Array.getElem?_toList]
    simp [putCells, hj, show j < cur.size by omega]
  · rw [List.getElem?_take_eq_none (by omega), List.getElem?_eq_none (by simp; omega)]

/-- The row holds what it holds, as the library says it. -/
theorem RtsOwn.holds {X : World} {B g c : Nat} {xs : List RV} (h : RtsOwn X B (.slice (some ⟨g, 0, Option.none⟩) xs.length c) xs) : HoldsK encR 3 X g 0 xs.toArray ∧ g < X.heap.size := by
  obtain ⟨hl, ⟨e, _⟩ | ⟨g', cap, cur, e, hbase, hb, h1, h2, h3, h4⟩⟩ := h.row
  · cases e
  · injection e with e _ _
    injection e with e
    injection e with e _ _
    subst e
    refine ⟨fun j hj => ?_, (Array.getElem?_eq_some_iff.1 hb).1⟩
    have hj' : j < xs.length * 3 := by simpa using hj
    refine ⟨?_, by simp [World.frozen?, hb]⟩
    have hx : (cur.toList.take (xs.length * 3))[j]? = (rtsV xs)[j]? := by rw [h4]
    rw [List.getElem?_take_of_lt hj', rtsV_get xs j hj'] at hx
    simp only [World.cell?, hb, Nat.zero_add, Option.isSome_none, Bool.false_eq_true, if_false]
    rw [← Array.getElem?_toList, hx, get_flatK encR 3 _ j (by simpa using hj')]
    simp
/-- Behind the sort the same slice owns the routines in their new order. -/
theorem RtsOwn.sorted {X : World} {B g c : Nat} {xs ys : List RV} (h : RtsOwn X B (.slice (some ⟨g, 0, Option.none⟩) xs.length c) xs) (hp : ys.Perm xs) (n : Nat) (os : Array Obj) :
    RtsOwn (sortWorldK encR 3 X g 0 n ys.toArray os) B (.slice (some ⟨g, 0, Option.none⟩) ys.length c) ys ∧ X.grownBy (sortWorldK encR 3 X g 0 n ys.toArray os) (some g) := by
  have hg : X.grownBy (sortWorldK encR 3 X g 0 n ys.toArray os) (some g) := grownBy_sortedV _
  have hlen := hp.length_eq
  have hfl : (flatK encR 3 ys.toArray).size = ys.length * 3 := by simp
  refine ⟨⟨?_, fun y hy => ?_⟩, hg⟩
  · obtain ⟨hl, ⟨e, _⟩ | ⟨g', cap, cur, e, hbase, hb, h1, h2, h3, h4⟩⟩ := h.row
    · cases e
    · injection e with e _ ec
      injection e with e
      injection e with e _ _
      subst e ec
      refine ⟨by rw [rtsV_len15], .inr ⟨g, c, _, rfl, hbase, heap_sortedV _ hb, by omega, h2, by simp [putCells, h3], ?_⟩⟩
      rw [← hfl, take_putCellsV cur _ (by rw [hfl, h3]; omega), flat_rts]
  · have hx := h.trees y (hp.mem_iff.1 hy)
    refine hx.kept hg ?_
    rcases hv : (rvT y).ownBlock with _ | k
    · exact Or.inl rfl
    · refine Or.inr (fun e => ?_)
      injection e with e
      subst e
      obtain ⟨_, ⟨e1, _⟩ | ⟨g1, _, cur1, e1, _, hb1, _⟩⟩ := hx
      · rw [e1] at hv; cases hv
      · rw [e1] at hv
        injection hv with hv
        obtain ⟨_, ⟨e2, _⟩ | ⟨g2, _, cur2, e2, _, hb2, _⟩⟩ := h.row
        · cases e2
        · injection e2 with e2 _ _
          injection e2 with e2
          injection e2 with e2 _ _
          have hgk : g1 = g2 := hv.trans e2
          rw [hgk, hb2] at hb1
          injection hb1 with hb1
          injection hb1 with _ hb1 _
          exact absurd hb1 (by decide)

end Go.Proofs.YteolfnceobjonaaGreat

/-! The function of this program that is slices.SortFunc at routines is the one that the library has a contract of: number by number, type by type. -/
namespace Go.Proofs
open Go.Shelf
def Tryz.laidSortF_ren : Go.Shelf.Ren := ⟨fun | 6 => 74 | 15 => 105 | 14 => 106 | 28 => 146 | 29 => 147 | 20 => 148 | 21 => 149 | 22 => 150 | 23 => 151 | 24 => 152 | 25 => 153 | 26 => 154 | 27 => 155 | 46 => 196 | 47 => 191 | 48 => 192 | 49 => 197 | 50 => 198 | 57 => 217 | n => n, fun | 22 => 33 | 24 => 75 | 25 => 110 | 3 => 3 | 39 => 138 | 0 => 0 | 53 => 181 | 55 => 183 | 4 => 4 | 46 => 173 | 45 => 172 | 50 => 178 | 5 => 5 | 9 => 9 | 66 => 219 | 70 => 223 | 76 => 249 | 77 => 250 | n => n, fun | n => n⟩
theorem Tryz.laidSortF : Go.Proofs.SlLaysF0.n6 Tryz.prog Tryz.laidSortF_ren := {
  mixed := by kernel_rfl
  f6 := ⟨Tryz.f74.name, by decide, Tryz.func74.trans (congrArg some (by kernel_rfl))⟩
  f14 := ⟨Tryz.f106.name, by decide, Tryz.func106.trans (congrArg some (by kernel_rfl))⟩
  f15 := Tryz.func105.trans (congrArg some (by kernel_rfl))
  f20 := ⟨Tryz.f148.name, by decide, Tryz.func148.trans (congrArg some (by kernel_rfl))⟩
  f21 := ⟨Tryz.f149.name, by decide, Tryz.func149.trans (congrArg some (by kernel_rfl))⟩
  f22 := ⟨Tryz.f150.name, by decide, Tryz.func150.trans (congrArg some (by kernel_rfl))⟩
  f23 := ⟨Tryz.f151.name, by decide, Tryz.func151.trans (congrArg some (by kernel_rfl))⟩
  f24 := ⟨Tryz.f152.name, by decide, Tryz.func152.trans (congrArg some (by kernel_rfl))⟩
  f25 := ⟨Tryz.f153.name, by decide, Tryz.func153.trans (congrArg some (by kernel_rfl))⟩
  f26 := ⟨Tryz.f154.name, by decide, Tryz.func154.trans (congrArg some (by kernel_rfl))⟩
  f27 := ⟨Tryz.f155.name, by decide, Tryz.func155.trans (congrArg some (by kernel_rfl))⟩
  f28 := Tryz.func146.trans (congrArg some (by kernel_rfl))
  f29 := Tryz.func147.trans (congrArg some (by kernel_rfl))
  f46 := ⟨Tryz.f196.name, by decide, Tryz.func196.trans (congrArg some (by kernel_rfl))⟩
  f47 := Tryz.func191.trans (congrArg some (by kernel_rfl))
  f48 := Tryz.func192.trans (congrArg some (by kernel_rfl))
  f49 := ⟨Tryz.f197.name, by decide, Tryz.func197.trans (congrArg some (by kernel_rfl))⟩
  f50 := ⟨Tryz.f198.name, by decide, Tryz.func198.trans (congrArg some (by kernel_rfl))⟩
  f57 := ⟨Tryz.f217.name, by decide, Tryz.func217.trans (congrArg some (by kernel_rfl))⟩
  t0 := Tryz.underlying0
  a0 := Tryz.isAgg0
  z0 := Tryz.sizeOf0
  v0 := Tryz.zeroValue0
  t3 := Tryz.underlying3
  a3 := Tryz.isAgg3
  z3 := Tryz.sizeOf3
  v3 := Tryz.zeroValue3
  t4 := Tryz.underlying4
  a4 := Tryz.isAgg4
  z4 := Tryz.sizeOf4
  v4 := Tryz.zeroValue4
  t5 := Tryz.underlying5
  a5 := Tryz.isAgg5
  z5 := Tryz.sizeOf5
  v5 := Tryz.zeroValue5
  t9 := Tryz.underlying9
  a9 := Tryz.isAgg9
  z9 := Tryz.sizeOf9
  v9 := Tryz.zeroValue9
  t22 := Tryz.underlying33
  a22 := Tryz.isAgg33
  z22 := Tryz.sizeOf33
  v22 := Tryz.zeroValue33
  t25 := Tryz.underlying110
  a25 := Tryz.isAgg110
  z25 := Tryz.sizeOf110
  v25 := Tryz.zeroValue110
  t39 := Tryz.underlying138
  a39 := Tryz.isAgg138
  z39 := Tryz.sizeOf138
  v39 := Tryz.zeroValue138
  t45 := Tryz.underlying172
  a45 := Tryz.isAgg172
  z45 := Tryz.sizeOf172
  v45 := Tryz.zeroValue172
  t46 := Tryz.underlying173
  a46 := Tryz.isAgg173
  z46 := Tryz.sizeOf173
  v46 := Tryz.zeroValue173
  t50 := Tryz.underlying178
  a50 := Tryz.isAgg178
  z50 := Tryz.sizeOf178
  v50 := Tryz.zeroValue178
  t53 := Tryz.underlying181
  a53 := Tryz.isAgg181
  z53 := Tryz.sizeOf181
  v53 := Tryz.zeroValue181
  t55 := Tryz.underlying183
  a55 := Tryz.isAgg183
  z55 := Tryz.sizeOf183
  v55 := Tryz.zeroValue183
  t66 := Tryz.underlying219
  a66 := Tryz.isAgg219
  z66 := Tryz.sizeOf219
  v66 := Tryz.zeroValue219
  t70 := Tryz.underlying223
  a70 := Tryz.isAgg223
  z70 := Tryz.sizeOf223
  v70 := Tryz.zeroValue223
  t76 := Tryz.underlying249
  a76 := Tryz.isAgg249
  z76 := Tryz.sizeOf249
  v76 := Tryz.zeroValue249
  t77 := Tryz.underlying250
  a77 := Tryz.isAgg250
  z77 := Tryz.sizeOf250
  v77 := Tryz.zeroValue250 }
end Go.Proofs

/-! slices.SortFunc at routines, by their names. -/
namespace Go.Proofs.YteolfnceobjonaaGreat
open Go.RowKit Go.Shelf

def cfR (x y : RV) : Int := Lib.compareBytes x.1.1 y.1.1
theorem ltR (x y : RV) : ltOf cfR x y = Op.bytesLess x.1.1 y.1.1 := by
  unfold ltOf cfR
  rcases h : Op.bytesLess x.1.1 y.1.1 with _ | _
  · exact decide_eq_false (fun e => by rw [(cmp_less _ _).1.1 e] at h; cases h)
  · exact decide_eq_true ((cmp_less _ _).1.2 h)
theorem swoR : Go.Sort.SWO (ltOf cfR) where
  irrefl x := by rw [ltR]; exact lt8_irr _
  trans x y z h1 h2 := by rw [ltR] at *; exact lt8_trans h1 h2
  ntrans x y z h1 h2 := by rw [ltR] at *; exact lt8_ntrans h2 h1

set_option maxHeartbeats 2000000 in
set_option maxRecDepth 100000 in
theorem implSort15 (B g c : Nat) (xs : List RV) (w : World) (h : RtsOwn w B (.slice (some ⟨g, 0, none⟩) xs.length c) xs) (hn : xs.length ≤ 1048576) :
    Calls Tryz.prog 74 #[.slice (some ⟨g, 0, none⟩) xs.length c, .func (.func 75) #[] #[]] w fun e w' => e = .returned (.tuple #[]) ∧ ∃ ys : List RV, ys.Perm xs ∧ SortR (ys.map (·.1)) ∧ RtsOwn w' B (.slice (some ⟨g, 0, none⟩) ys.length c) ys ∧ w.grownBy w' (some g) := by
  have hh := h.holds
  have eg : ∀ args w, (callFunc 75 args).run Tryz.prog w = .ok (.enter 75 args) w := enters_of Tryz.func75 (by kernel_rfl) rfl
  have hcmp : CmpLays Tryz.prog 75 #[] encR 3 cfR g 0 xs.toArray.size w := fun _ _ _ _ x y => implCmp15 x.1.1 y.1.1 x.1.2.1 y.1.2.1 x.2.1 y.2.1 x.1.2.2.length y.1.2.2.length x.2.2 y.2.2 _
  have hc := AnyQ.slices_SortFunc Tryz.laidSortF 3 Tryz.isAgg75 Tryz.sizeOf75 encR (fun _ => rfl) (fun x v hv => by simp [encR] at hv; rcases hv with rfl | rfl | rfl <;> rfl) cfR swoR 75 #[] g 0 c xs.toArray w eg hcmp hh.1 hh.2 (by simp; omega)
  rw [List.size_toArray] at hc
  refine Calls.mono hc ?_
  rintro e w' ⟨rfl, d', n, os, hp, hs, rfl⟩
  obtain ⟨h1, _, h3⟩ := hp
  have hsz : d'.size = xs.length := by rw [h1, List.size_toArray]
  have e1 : d'.extract 0 xs.length = d' := by rw [← hsz]; simp
  have e2 : xs.toArray.extract 0 xs.length = xs.toArray := by simp
  rw [e1, e2] at h3
  have hperm : d'.toList.Perm xs := by simpa using h3
  have hr := h.sorted hperm n os
  rw [Array.toArray_toList] at hr
  refine ⟨rfl, d'.toList, hperm, ?_, hr.1, hr.2⟩
  refine List.pairwise_map.2 (List.pairwise_iff_getElem.2 (fun i j hi hj hij => ?_))
  have hlt := hs i j (Nat.zero_le _) hij (by rw [← hsz]; simpa using hj)
  rw [ltR, getElem!_pos d' j (by simpa using hj), getElem!_pos d' i (by simpa using hi)] at hlt
  simpa using hlt

set_option maxHeartbeats 1000000 in
set_option maxRecDepth 100000 in
theorem implSortBy (B g c : Nat) (xs : List RV) (w : World) (h : RtsOwn w B (.slice (some ⟨g, 0, none⟩) xs.length c) xs) (hn : xs.length ≤ 1048576) :
    Calls Tryz.prog 48 #[.slice (some ⟨g, 0, none⟩) xs.length c] w fun e w' => e = .returned (.tuple #[]) ∧ ∃ ys : List RV, ys.Perm xs ∧ SortR (ys.map (·.1)) ∧ RtsOwn w' B (.slice (some ⟨g, 0, none⟩) ys.length c) ys ∧ w.grownBy w' (some g) := by
  have HC : Hid (_) := implSort15 B g c xs w h hn
  clear h
  generalize xs.length = nx at HC ⊢
  go_enter Tryz.func48, Tryz.ntmps48
  go_wp2_with fail
  refine Calls.mono HC.out ?_
  rintro e w' ⟨rfl, ys, h1, h2, h3, h4⟩
  have HR : Hid (∃ ys : List RV, ys.Perm xs ∧ SortR (ys.map (·.1)) ∧ RtsOwn w' B (.slice (some ⟨g, 0, none⟩) ys.length c) ys ∧ w.grownBy w' (some g)) := ⟨ys, h1, h2, h3, h4⟩
  clear HC h1 h2 h3 h4
  go_wp2
  go_end0
  exact ⟨rfl, HR.out⟩

end Go.Proofs.YteolfnceobjonaaGreat

/-! Rows that lie apart, in another order. -/
namespace Go.Proofs.YteolfnceobjonaaGreat
open Go.RowKit

theorem ApartR.perm {xs ys : List RV} (h : ApartR (xs.map rvT)) (hp : ys.Perm xs) : ApartR (ys.map rvT) := by
  refine (List.Perm.pairwise_iff (fun {a b} hab => ?_) (hp.map rvT)).2 h
  rcases ha : Value.ownBlock a with _ | p
  · rcases hb : Value.ownBlock b with _ | q
    · exact Or.inl rfl
    · exact Or.inr (by simp)
  · rcases hab with hab | hab
    · rw [ha] at hab; cases hab
    · rw [ha] at hab; exact Or.inr (fun e => hab e.symm)

end Go.Proofs.YteolfnceobjonaaGreat

/-! Contracts of chapter 16's landed code: Linked. -/
namespace Go.Proofs.YteolfnceobjonaaGreat
open Go.RowKit

theorem linkC_zero {os : List Ob} (h : linkC os = 0) : objsB os = true ∧ os ≠ [] ∧ (nms16 (rts16 os)).Nodup := by
  unfold linkC at h
  split at h
  · cases h
  · rename_i h1
    split at h
    · cases h
    · rename_i h2
      refine ⟨?_, fun e => h1 (Or.inl e), Decidable.not_not.1 h2⟩
      rcases e : objsB os with _ | _
      · exact absurd (Or.inr e) h1
      · rfl
theorem InsIn.keepB {W X : World} {a : Option Addr} {len : Nat} {is : List In13} (h : InsIn W a len is) (hs : W.heap.size ≤ X.heap.size) (hb : ∀ b off, a = some ⟨b, off, none⟩ → X.heap[b]? = W.heap[b]?) : InsIn X a len is := by
  refine ⟨h.1, fun j hj => ?_⟩
  obtain ⟨b, off, e, hlt, c0, c1, c2, c3, c4⟩ := h.2 j hj
  have hk := hb b off e
  exact ⟨b, off, e, by omega, (World.cell?_of_block (a := ⟨b, off + j * 5, none⟩) hk).trans c0, (World.cell?_of_block (a := ⟨b, off + j * 5 + 1, none⟩) hk).trans c1, (World.cell?_of_block (a := ⟨b, off + j * 5 + 2, none⟩) hk).trans c2, (World.cell?_of_block (a := ⟨b, off + j * 5 + 3, none⟩) hk).trans c3, (World.cell?_of_block (a := ⟨b, off + j * 5 + 4, none⟩) hk).trans c4⟩
theorem InsIn.neM {W : World} {a : Option Addr} {len : Nat} {is : List In13} (h : InsIn W a len is) (h0 : 0 < len) {M : Nat} (hM : ∀ o v, W.cell? ⟨M, o, none⟩ = some (.int .i64 v) → False) {b off : Nat} (e : a = some ⟨b, off, none⟩) : b ≠ M ∧ b < W.heap.size := by
  obtain ⟨b', off', e', hlt, c0, _⟩ := h.2 0 h0
  rw [e] at e'
  injection e' with e'
  injection e' with e1 e2 _
  subst e1 e2
  refine ⟨fun hb => ?_, hlt⟩
  subst hb
  exact hM _ _ c0
/-- What the landed Linked makes. -/
def LkOutA (w : World) (os : List Ob) (e : Ending) (w' : World) : Prop := ∃ (v : Value) (xs : List RV), e = .returned (.tuple #[.agg #[v], .int .i64 (linkC os)]) ∧ xs.map (·.1) = linkedV os ∧ RtsOwn w' w.heap.size v xs ∧ ApartR (xs.map rvT) ∧ Below w.heap.size w w'

theorem linkedV_small (os : List Ob) : (linkedV os).length ≤ 64 ∧ ∀ r ∈ linkedV os, r.2.2.length ≤ 200 := by
  by_cases h : linkC os = 0
  · have hS := sm16 (linkC_zero h).1
    rw [linkedV_yes h]
    exact ⟨by rw [sort15_len]; exact hS.l, fun r hr => (codeB_len (rtB_parts (hS.rt r ((sort15_perm _).mem_iff.1 hr))).2.2.1).2⟩
  · rw [linkedV_no h]
    exact ⟨by simp, fun r hr => by cases hr⟩

set_option maxHeartbeats 16000000 in
set_option maxRecDepth 100000 in
theorem implLinked (a : Option Addr) (len cap : Nat) (os : List Ob) (w : World) (h : ObjsOk w a len cap os) :
    Calls Tryz.prog 19 #[.slice a len cap] w fun e w' => LkOutA w os e w' := by
  have bR := Bx1.new w (.slice none 0 0) 35
  obtain ⟨W1, hW1⟩ : ∃ W, w.alloc (.cells #[.slice none 0 0] 35) = W := ⟨_, rfl⟩
  rw [hW1] at bR
  have hb1 : Below w.heap.size w W1 := by rw [← hW1]; exact (Below.refl _ _).alloc (Nat.le_refl _) _
  have HC0 : Hid (_) := implLinkCode a len cap os W1 (h.below hb1)
  have HBx : Hid (Bx1 W1 w.heap.size (.slice none 0 0) ∧ Below w.heap.size w W1) := ⟨bR, hb1⟩
  obtain ⟨D, hD⟩ : ∃ D, w.heap.size = D := ⟨_, rfl⟩
  have HD : Hid (w.heap.size = D) := hD
  rw [hD] at HBx
  by_cases hz : linkC os = 0
  rotate_left
  · have HV : Hid (linkedV os = []) := linkedV_no hz
    unfold LkOutA
    rw [HV.out]
    obtain ⟨res, hres⟩ : ∃ res, linkC os = res := ⟨_, rfl⟩
    rw [hres] at HC0 hz ⊢
    have hzb : (res != 0) = true := bne_iff_ne.2 hz
    clear h bR hb1 hres hz
    go_enter Tryz.func19, Tryz.ntmps19
    go_wp2_with fail
    refine Calls.mono HC0.out ?_
    rintro e w1 ⟨rfl, hbn⟩
    have bD := HBx.out.1.below hbn
    have hbb : Below D w w1 := HBx.out.2.trans (hbn.mono (by have := HBx.out.1.lt; omega))
    have d0c := bD.c
    have d0f := bD.f
    have k0 := (bD.set (.slice none 0 0)).c
    have HO : Hid (Below D w (w1.setCell ⟨D, 0, none⟩ (.slice none 0 0))) := hbb.grown (grown_set _ _ _ _) (by have := hbb.size; have := HD.out; omega) (fun q e => by injection e with e; omega)
    obtain ⟨Z, hZ⟩ : ∃ Z, w1.setCell ⟨D, 0, none⟩ (.slice none 0 0) = Z := ⟨_, rfl⟩
    rw [hZ] at HO k0
    clear bD hbb hbn HC0
    go_wp2
    refine bodyPost_ret (v := .tuple #[.agg #[.slice none 0 0], .int .i64 res]) (by simp [results, Tryz.results19, go_sem, k0]) rfl ?_
    have h4 := HO.out
    first | exact ⟨.slice none 0 0, [], rfl, rfl, RtsOwn.nil _ _, ApartR.nil, h4⟩ | exact ⟨.slice none 0 0, rfl, [], rfl, RtsOwn.nil _ _, ApartR.nil, h4⟩ | (rw [← HD.out] at h4; exact ⟨.slice none 0 0, [], rfl, rfl, RtsOwn.nil _ _, ApartR.nil, h4⟩)
  · obtain ⟨hB, hne, hnd⟩ := linkC_zero hz
    have HV : Hid (linkedV os = sort15 (rts16 os)) := linkedV_yes hz
    unfold LkOutA
    rw [HV.out, hz]
    rw [hz] at HC0
    have HRt : Hid (∀ X, Below w.heap.size w X → Calls Tryz.prog 38 #[.slice a len cap] X fun e w' => ∃ g c xs, e = .returned (.slice (some ⟨g, 0, none⟩) (rts16 os).length c) ∧ xs.map (·.1) = rts16 os ∧ RtRow X w' (.slice (some ⟨g, 0, none⟩) xs.length c) xs) := fun X hX => implRoutinesIn a len cap os X (h.below hX) hB
    have hSm := sm16 hB
    have hl1 : 1 ≤ (rts16 os).length := by
      have h1 := (rts16_len (objsB_parts hB).1).1
      have h2 : 1 ≤ os.length := by cases os with | nil => exact absurd rfl hne | cons _ _ => simp
      omega
    have hl64 := hSm.l
    have HSh : Hid (ShortR (rts16 os)) := (rts_ok hSm.rt).2
    have HFin : Hid (∀ ys : List Rt, ys.Perm (rts16 os) → SortR ys → ys = sort15 (rts16 os)) := fun ys hp hs => sort15_eq (once16 hnd) hp hs
    have HTk : Hid (∀ k, k < (rts16 os).length → (rts16 os).take (k + 1) = (rts16 os).take k ++ [(rts16 os).getD k rt0]) := fun k hk => by
      rw [List.take_succ_eq_append_getElem hk, List.getD_eq_getElem?_getD, List.getElem?_eq_getElem hk]; rfl
    have HPos : Hid (∀ k, k < (rts16 os).length → 0 < ((rts16 os).getD k rt0).2.2.length) := fun k hk => (codeB_len (rtB_parts (hSm.rt _ (getD_mem16 _ rt0 hk))).2.2.1).1
    have HTe : Hid ((rts16 os).take (rts16 os).length = rts16 os) := List.take_of_length_le (Nat.le_refl _)
    generalize rts16 os = rs at HRt HSh HFin HTk HTe hl1 hl64 HPos ⊢
    rw [hD] at HRt
    clear h bR hb1 hB hne hnd hSm HV hz
    go_enter Tryz.func19, Tryz.ntmps19
    go_wp2_with fail
    refine Calls.mono HC0.out ?_
    rintro e w0 ⟨rfl, hbn⟩
    have bD := HBx.out.1.below hbn
    have hbb : Below D w w0 := HBx.out.2.trans (hbn.mono (by have := HBx.out.1.lt; omega))
    have bM := Bx1.new w0 (.slice none 0 0) 35
    have hbM : Below w0.heap.size w0 (w0.alloc (.cells #[.slice none 0 0] 35)) := (Below.refl _ _).alloc (Nat.le_refl _) _
    have hbbM : Below D w (w0.alloc (.cells #[.slice none 0 0] 35)) := hbb.trans (hbM.mono (by have := bD.lt; omega))
    have HC1 : Hid (_) := HRt.out _ hbbM
    obtain ⟨M, hM⟩ : ∃ M, w0.heap.size = M := ⟨_, rfl⟩
    have HMc : Hid (∀ o v, (w0.alloc (.cells #[.slice none 0 0] 35)).cell? ⟨M, o, none⟩ = some (.int .i64 v) → False) := fun o v hc => by
      rw [← hM, cell_of_row _ _ _ _ _ _ (heap_alloc_new w0 _)] at hc
      cases o <;> simp at hc
    have HB0 : Hid (Bx1 (w0.alloc (.cells #[.slice none 0 0] 35)) D (.slice none 0 0) ∧ Bx1 (w0.alloc (.cells #[.slice none 0 0] 35)) M (.slice none 0 0) ∧ D < M ∧ Below D w (w0.alloc (.cells #[.slice none 0 0] 35))) := ⟨bD.below hbM, by rw [← hM]; exact bM, by have := bD.lt; omega, hbbM⟩
    clear HC0 HRt hbn bD hbb bM hbM hbbM HBx
    go_wp2_with fail
    refine Calls.mono HC1.out ?_
    rintro e w1 ⟨gs, cs, zs, rfl, hzs, hrow⟩
    have hin := hrow.rts hzs
    have HL0 : Hid (Lk16 w1 w1 D M none 0 0 []) := ⟨HB0.out.1.below hrow.b, HB0.out.2.1.below hrow.b, RtsOwn.nil _ _, rfl, WroteR.refl _ _, HB0.out.2.2.1, (HB0.out.2.1.below hrow.b).lt⟩
    have HBw : Hid (Below w.heap.size w w1) := by
      have h1 := HB0.out.2.2.2
      have h2 := h1.trans (hrow.b.mono (by have := HB0.out.1.lt; omega))
      rw [← HD.out] at h2
      exact h2
    have HRI : Hid (RtsIn w1 (some ⟨gs, 0, none⟩) rs.length rs ∧ w0.heap.size + 1 ≤ gs) := ⟨hin, by
      have := (hrow.row.lt gs rfl).1
      simpa using this⟩
    have HMe : Hid (w0.heap.size = M) := hM
    -- what the routines' row holds at a later world
    have HAt : Hid (∀ X ra rl rc xs, Lk16 w1 X D M ra rl rc xs → ∀ k, k < rs.length → X.cell? ⟨gs, k * 3, none⟩ = some (.string ⟨(rs.getD k rt0).1.toArray⟩) ∧ X.cell? ⟨gs, k * 3 + 1, none⟩ = some (.int .i64 (rs.getD k rt0).2.1) ∧ ∃ ca cc, X.cell? ⟨gs, k * 3 + 2, none⟩ = some (.slice ca (rs.getD k rt0).2.2.length cc) ∧ InsIn X ca (rs.getD k rt0).2.2.length (rs.getD k rt0).2.2) := fun X ra rl rc xs hL k hk => by
      have hbX : Below D w X := by
        have := hL.bl HBw.out (Nat.le_of_eq HD.out)
        rw [HD.out] at this
        exact this
      have hrowX := own_wroteR hrow.row hL.wr (fun q e hq => by
        have e2 : gs = q := by simpa [Value.ownBlock] using e
        have h2 := HRI.out.2
        have h3 := HMe.out
        omega)
      have hzl : zs.length = rs.length := by rw [← hzs, List.length_map]
      obtain ⟨v0, v1, v2⟩ := rtsV_at zs k (by omega)
      have hgd : rs.getD k rt0 = (zs.getD k rv0).1 := by rw [← hzs]; exact getD_map_rt zs k
      have hmem := getD_mem16 zs rv0 (j := k) (by omega)
      have hcod := hrow.cod _ hmem
      rw [hgd]
      have hc := fun j (hj : j < zs.length * 3) => World.ownsRow.cellAt hrowX j hj
      refine ⟨by rw [hc _ (by omega), v0], by rw [hc _ (by omega), v1], (zs.getD k rv0).2.1, (zs.getD k rv0).2.2, by rw [hc _ (by omega), v2]; rfl, ?_⟩
      have hpos : 0 < (zs.getD k rv0).1.2.2.length := by
        rw [← hgd]
        exact HPos.out k hk
      refine hcod.keepB (Nat.le_trans hrow.b.size hL.wr.size) (fun b off e => ?_)
      obtain ⟨hbM, hbl⟩ := hcod.neM hpos (M := M) HMc.out e
      rw [hL.wr.block b (Nat.lt_of_lt_of_le hbl hrow.b.size) hbM]
      exact hrow.b.block b hbl
    clear hin HB0 hzs hrow HC1
    obtain ⟨n, hn⟩ : ∃ n, rs.length = n := ⟨_, rfl⟩
    rw [hn] at HRI HAt HTk HTe hl1 hl64 ⊢
    have HNr : Hid (rs.length = n) := hn
    have HM0 : Hid (([] : List RV).map (·.1) = rs.take 0) := by exact (by simp : ([] : List RV).map (·.1) = rs.take 0)
    clear hn HRI
    go_wp2
    go_loopw [18] (fun iv wr => ∃ (k : Nat) (ra : Option Addr) (rc : Nat) (xs : List RV), iv = .int .i64 (k : Int) ∧ k ≤ n ∧ Hid (xs.map (·.1) = rs.take k) ∧ Hid (ApartR (xs.map rvT)) ∧ Hid (Lk16 w1 wr D M ra k rc xs)) (fun iv _ => n - (intOf iv).toNat)
    case atStart => exact ⟨0, none, 0, [], rfl, Nat.zero_le _, HM0, ApartR.nil, HL0⟩
    case round =>
      obtain ⟨k, ra, rc, xs, rfl, hk, HM, HAp, HLk⟩ := hrel
      clear HL0 HM0
      by_cases hlt : (k : Int) < (n : Int)
      · obtain ⟨d0, d1, ca, cc, d2, hins⟩ := HAt.out wr ra k rc xs HLk.out k (by omega)
        have hst := HTk.out k (by omega)
        have hsh := HSh.out k
        obtain ⟨r, hr⟩ : ∃ r, rs.getD k rt0 = r := ⟨_, rfl⟩
        rw [hr] at d0 d1 d2 hins hst hsh
        obtain ⟨rn, ar, cd⟩ := r
        simp only at d0 d1 d2 hins hsh
        obtain ⟨Y, hY⟩ : ∃ Y, wr.alloc (.cells #[.string ⟨rn.toArray⟩, .int .i64 ar, .slice ca cd.length cc] 75) = Y := ⟨_, rfl⟩
        have hb : Below wr.heap.size wr Y := by rw [← hY]; exact (Below.refl _ _).alloc (Nat.le_refl _) _
        have hsY : wr.heap.size < Y.heap.size := by rw [← hY]; simp
        have hR : Y.heap[wr.heap.size]? = some (.cells #[.string ⟨rn.toArray⟩, .int .i64 ar, .slice ca cd.length cc] 75) := by rw [← hY]; exact heap_alloc_new wr _
        have hLY := HLk.out.below hb
        obtain ⟨y0, y1, y2, _⟩ := threeR (Below.refl _ Y) hsY hR
        have o0 := hLY.m.c
        have HCp : Hid (∀ V, Below Y.heap.size Y V → Calls Tryz.prog 47 #[.agg #[.string ⟨rn.toArray⟩, .int .i64 ar, .slice ca cd.length cc]] V fun e w' => ∃ g c, e = .returned (.agg #[.string ⟨rn.toArray⟩, .int .i64 ar, .slice (some ⟨g, 0, none⟩) cd.length c]) ∧ w'.ownsRow V.heap.size 102 5 (.slice (some ⟨g, 0, none⟩) cd.length c) cd.length (insV cd) ∧ Below V.heap.size V w') := fun V hV => implCopyRt rn ar ca cc cd V ((hins.below hb).below hV) hsh.1 hsh.2.1 hsh.2.2
        have HSt : Hid (∀ V w5 g c, Below Y.heap.size Y V → w5.ownsRow V.heap.size 102 5 (.slice (some ⟨g, 0, none⟩) cd.length c) cd.length (insV cd) → Below V.heap.size V w5 → ∃ g' c' Z, (Builtin.append_ #[33, 33] 33 #[.slice ra k rc, .slice (some ⟨w5.heap.size, 0, none⟩) 1 1]).run Tryz.prog (w5.alloc (.cells #[.string ⟨rn.toArray⟩, .int .i64 ar, .slice (some ⟨g, 0, none⟩) cd.length c] 75)) = .ok (.slice (some ⟨g', 0, none⟩) (k + 1) c') Z ∧ Z.cell? ⟨M, 0, none⟩ = some (.slice ra k rc) ∧ Z.frozen? ⟨M, 0, none⟩ = false ∧ Lk16 w1 (Z.setCell ⟨M, 0, none⟩ (.slice (some ⟨g', 0, none⟩) (k + 1) c')) D M (some ⟨g', 0, none⟩) (k + 1) c' (xs ++ [((rn, ar, cd), some ⟨g, 0, none⟩, c)]) ∧ ApartR ((xs ++ [(((rn, ar, cd), some ⟨g, 0, none⟩, c) : RV)]).map rvT) ∧ w5.cell? ⟨M, 0, none⟩ = some (.slice ra k rc) ∧ (w5.alloc (.cells #[.string ⟨rn.toArray⟩, .int .i64 ar, .slice (some ⟨g, 0, none⟩) cd.length c] 75)).cell? ⟨M, 0, none⟩ = some (.slice ra k rc)) := fun V w5 g c hV hcr hb5 => by
          have hLV := hLY.below hV
          have hL5 := hLV.below hb5
          obtain ⟨g', c', Z, hrun, bZ, hL2⟩ := hL5.push ((rn, ar, cd), some ⟨g, 0, none⟩, c) (own_base hcr hLV.sz) (by omega)
          simp only [rvT] at hrun
          refine ⟨g', c', Z, hrun, bZ.c, bZ.f, hL2, ?_, hL5.m.c, (hL5.m.below ((Below.refl _ _).alloc (Nat.le_refl _) _)).c⟩
          rw [List.map_append]
          refine ApartR.snoc HAp.out (fun v hv => ?_)
          obtain ⟨z, hz, rfl⟩ := List.mem_map.1 hv
          exact own_aheadR (hLV.rts.trees z hz) hcr (Nat.le_refl _)
        have HM2 : Hid (xs.map (·.1) ++ [((rn, ar, cd) : Rt)] = rs.take (k + 1)) := by exact (by rw [hst, HM.out] : xs.map (·.1) ++ [((rn, ar, cd) : Rt)] = rs.take (k + 1))
        have HMp : Hid (∀ (x : RV), x.1 = (rn, ar, cd) → (xs ++ [x]).map (·.1) = rs.take (k + 1)) := fun x hx => by rw [← HM2.out, List.map_append, ← hx]; rfl
        obtain ⟨E, hE⟩ : ∃ E, wr.heap.size = E := ⟨_, rfl⟩
        rw [hE] at y0 y1 y2
        obtain ⟨nc, hnc⟩ : ∃ nc, cd.length = nc := ⟨_, rfl⟩
        rw [hnc] at d2 hY y2 HCp HSt
        clear hst hr hins hsh hb hR hLY HLk HM HM2 hsY hnc HAp
        go_wp2_with fail
        go_region_law (first | (refine step_append_run (by rfl) (.tmp 23) (.tmp 26) 33 (by rfl) _ _ _ (by rfl) (by rfl) hr5 ?_) | (go_simp; go_at_call 47; refine Calls.mono (HCp.out _ ⟨rfl, rfl, rfl, Nat.le_refl _, fun _ _ => rfl⟩) ?_; rintro e w5 ⟨g5, c5, rfl, hcr, hb5⟩; obtain ⟨g', c', Z, hr5, z0, zf, hq, hap, o15, o16⟩ := HSt.out Y.drew w5 g5 c5 ⟨rfl, rfl, rfl, Nat.le_refl _, fun _ _ => rfl⟩ hcr hb5; have HQ : Hid (_) := hq; have HQa : Hid (_) := hap; clear hcr hb5 hq hap; dsimp only))
        all_goals
          go_wp2
          go_roundw
          case rel => exact ⟨k + 1, some ⟨g', 0, none⟩, c', _, by go_num, by omega, HMp.out _ rfl, HQa, HQ⟩
          case measure => simp [intOf]; omega
      · obtain rfl : k = n := by omega
        rw [HTe.out] at HM
        obtain ⟨g, cp, eg⟩ := own_some HLk.out.row (by omega)
        injection eg with eg1 _ eg3
        subst eg1 eg3
        have hgl := HLk.out.gl
        have hgw := (HLk.out.row.lt g rfl).1
        have hlm := HLk.out.lm
        have hlr := HLk.out.lr
        have hrt := HLk.out.rts
        have q0 := HLk.out.m.c
        have HC : Hid (_) := implSortBy w1.heap.size g rc xs wr (by rw [hgl]; exact hrt) (by omega)
        rw [hgl] at HC
        have HK : Hid (∀ w2, wr.grownBy w2 (some g) → Bx1 w2 M (.slice (some ⟨g, 0, none⟩) k rc) ∧ Bx1 w2 D (.slice none 0 0) ∧ Below w.heap.size w w2) := fun w2 hg => by
          have hb0 := HLk.out.bl HBw.out (Nat.le_of_eq HD.out)
          have hsz := HBw.out.size
          exact ⟨HLk.out.m.grown hg (fun e => by injection e with e; omega), HLk.out.r.grown hg (fun e => by injection e with e; omega), hb0.grown hg hb0.size (fun q e => by injection e with e; omega)⟩
        have HP : Hid (∀ ys : List RV, ys.Perm xs → SortR (ys.map (·.1)) → ys.map (·.1) = sort15 rs ∧ ApartR (ys.map rvT) ∧ ys.length = k) := fun ys hp hs => ⟨HFin.out _ (by rw [← HM.out]; exact hp.map _) hs, HAp.out.perm hp, by rw [hp.length_eq, hgl]⟩
        have hDw : D < w1.heap.size := by omega
        clear HLk hrt hgl HM HAp
        go_wp2_with fail
        refine Calls.mono HC.out ?_
        rintro e w2 ⟨rfl, ys, hp, hs, hry, hg2⟩
        obtain ⟨b1, b2, hbz⟩ := HK.out w2 hg2
        obtain ⟨hys, hay, hyl⟩ := HP.out ys hp hs
        rw [hyl] at hry
        have m0 := b1.c
        have d0c := b2.c
        have d0f := b2.f
        have k0 := (b2.set (.slice (some ⟨g, 0, none⟩) k rc)).c
        have hgs := grown_set w2 D 0 (.slice (some ⟨g, 0, none⟩) k rc)
        have HO : Hid (∃ (v : Value) (xs2 : List RV), Ending.returned (.tuple #[.agg #[.slice (some ⟨g, 0, none⟩) k rc], .int .i64 0]) = .returned (.tuple #[.agg #[v], .int .i64 0]) ∧ xs2.map (·.1) = sort15 rs ∧ RtsOwn (w2.setCell ⟨D, 0, none⟩ (.slice (some ⟨g, 0, none⟩) k rc)) w.heap.size v xs2 ∧ ApartR (xs2.map rvT) ∧ Below w.heap.size w (w2.setCell ⟨D, 0, none⟩ (.slice (some ⟨g, 0, none⟩) k rc))) := by
          have hsz := HBw.out.size
          exact ⟨_, ys, rfl, hys, RtsOwn.base ⟨own_other hry.row hDw hgs, fun x hx => own_other (hry.trees x hx) hDw hgs⟩ hsz, hay, hbz.grown hgs hbz.size (fun q e => by injection e with e; have := HD.out; omega)⟩
        obtain ⟨Z, hZ⟩ : ∃ Z, w2.setCell ⟨D, 0, none⟩ (.slice (some ⟨g, 0, none⟩) k rc) = Z := ⟨_, rfl⟩
        rw [hZ] at HO k0
        clear HC HK HP hp hs hry hg2 b1 b2 hbz hys hay hyl hgs
        go_wp2
        refine bodyPost_ret (v := .tuple #[.agg #[.slice (some ⟨g, 0, none⟩) k rc], .int .i64 0]) (by simp [results, Tryz.results19, go_sem, k0]) rfl ?_
        obtain ⟨v, xs2, h1, h2, h3, h4, h5⟩ := HO.out
        first | exact ⟨v, xs2, h1, h2, h3, h4, h5⟩ | (rw [HD.out] at h3 h5; first | exact ⟨v, xs2, h1, h2, h3, h4, h5⟩ | exact ⟨v, h1, xs2, h2, h3, h4, h5⟩)

end Go.Proofs.YteolfnceobjonaaGreat

/-! Contracts of chapter 16's specification: Linked. -/
namespace Go.Proofs.YteolfnceobjonaaGreat
open Go.RowKit

theorem linkC_four {os : List Ob} (h : os = [] ∨ objsB os = false) : linkC os = 4 := by unfold linkC; rw [if_pos h]
set_option maxHeartbeats 4000000 in
set_option maxRecDepth 100000 in
theorem specLinked (a : Option Addr) (len cap : Nat) (os : List Ob) (w : World) (hin : ObjsIn w a len os) (hlen : len ≤ 1048576) (hsh : ShortOs os) :
    Calls Tryz.prog 18 #[.slice a len cap] w fun e w' => LkOut w os e w' := by
  have hl := hin.1
  have bR := Bx1.new w (.slice none 0 0) 35
  obtain ⟨W1, hW1⟩ : ∃ W, w.alloc (.cells #[.slice none 0 0] 35) = W := ⟨_, rfl⟩
  rw [hW1] at bR
  have hb1 : Below w.heap.size w W1 := by rw [← hW1]; exact (Below.refl _ _).alloc (Nat.le_refl _) _
  have HFour : Hid ((os = [] ∨ objsB os = false) → ∀ X, Bx1 X w.heap.size (.slice none 0 0) → Below w.heap.size w X → LkOut w os (.returned (.tuple #[.agg #[.slice none 0 0], .int .i64 4])) (X.setCell ⟨w.heap.size, 0, none⟩ (.slice none 0 0))) := fun h X _ hX =>
    ⟨.slice none 0 0, [], by rw [linkC_four h], by rw [linkedV_no (by rw [linkC_four h]; decide)]; rfl, RtsOwn.nil _ _, hX.grown (grown_set _ _ _ _) hX.size (fun q e => by injection e with e; omega)⟩
  have HOkC : Hid (_) := specOk16 a len cap os W1 (hin.below hb1) hlen hsh
  by_cases h0 : len = 0
  · have HF : Hid (∀ X, Bx1 X w.heap.size (.slice none 0 0) → Below w.heap.size w X → LkOut w os (.returned (.tuple #[.agg #[.slice none 0 0], .int .i64 4])) (X.setCell ⟨w.heap.size, 0, none⟩ (.slice none 0 0))) := HFour.out (Or.inl (List.length_eq_zero_iff.1 (by omega)))
    subst h0
    have HO : Hid (LkOut w os (.returned (.tuple #[.agg #[.slice none 0 0], .int .i64 4])) (W1.setCell ⟨w.heap.size, 0, none⟩ (.slice none 0 0))) := HF.out W1 bR hb1
    have d0c := bR.c
    have d0f := bR.f
    have k0 := (bR.set (.slice none 0 0)).c
    generalize LkOut w os = QQ at HO ⊢
    obtain ⟨D, hD⟩ : ∃ D, w.heap.size = D := ⟨_, rfl⟩
    rw [hD] at HO d0c d0f k0
    obtain ⟨Z, hZ⟩ : ∃ Z, W1.setCell ⟨D, 0, none⟩ (.slice none 0 0) = Z := ⟨_, rfl⟩
    rw [hZ] at HO k0
    clear hin hsh hl HFour HOkC HF bR hb1
    go_enter Tryz.func18, Tryz.ntmps18
    go_wp2
    refine bodyPost_ret (v := .tuple #[.agg #[.slice none 0 0], .int .i64 4]) (by simp [results, Tryz.results18, go_sem, k0]) rfl ?_
    exact HO.out
  have h0b : ((len : Int) == 0) = false := beq_eq_false_iff_ne.2 (by omega)
  rcases hB : objsB os with _ | _
  · have HF : Hid (∀ X, Bx1 X w.heap.size (.slice none 0 0) → Below w.heap.size w X → LkOut w os (.returned (.tuple #[.agg #[.slice none 0 0], .int .i64 4])) (X.setCell ⟨w.heap.size, 0, none⟩ (.slice none 0 0))) := HFour.out (Or.inr hB)
    rw [hB] at HOkC
    have HBx : Hid (Bx1 W1 w.heap.size (.slice none 0 0) ∧ Below w.heap.size w W1) := ⟨bR, hb1⟩
    generalize LkOut w os = QQ at HF ⊢
    obtain ⟨D, hD⟩ : ∃ D, w.heap.size = D := ⟨_, rfl⟩
    rw [hD] at HF HBx
    clear hin hsh hl HFour bR hb1 hB
    go_enter Tryz.func18, Tryz.ntmps18
    go_wp2_with fail
    refine Calls.mono HOkC.out ?_
    rintro e w1 ⟨rfl, hbn⟩
    have bR := HBx.out.1.below hbn
    have hbb : Below D w w1 := HBx.out.2.trans (hbn.mono (by have := HBx.out.2.size; have := HBx.out.1.lt; omega))
    have HO := HF.out w1 bR hbb
    have d0c := bR.c
    have d0f := bR.f
    have k0 := (bR.set (.slice none 0 0)).c
    obtain ⟨Z, hZ⟩ : ∃ Z, w1.setCell ⟨D, 0, none⟩ (.slice none 0 0) = Z := ⟨_, rfl⟩
    rw [hZ] at HO k0
    have HO2 : Hid (QQ (.returned (.tuple #[.agg #[.slice none 0 0], .int .i64 4])) Z) := HO
    clear HO bR hbb hbn HOkC
    go_wp2
    refine bodyPost_ret (v := .tuple #[.agg #[.slice none 0 0], .int .i64 4]) (by simp [results, Tryz.results18, go_sem, k0]) rfl ?_
    exact HO2.out
  · have HL : Hid (∀ X, Below w.heap.size w X → Calls Tryz.prog 45 #[.slice a len cap] X fun e w' => LkOut X os e w') := fun X hX => specLinked16 a len cap os X (hin.below hX) hB (fun e => by rw [e] at hl; simp at hl; omega)
    rw [hB] at HOkC
    have HBx : Hid (Bx1 W1 w.heap.size (.slice none 0 0) ∧ Below w.heap.size w W1) := ⟨bR, hb1⟩
    obtain ⟨D, hD⟩ : ∃ D, w.heap.size = D := ⟨_, rfl⟩
    have HD : Hid (w.heap.size = D) := hD
    rw [hD] at HBx HL
    clear hin hsh hl HFour bR hb1 hB
    unfold LkOut
    unfold LkOut at HL
    generalize linkC os = res at HL ⊢
    generalize linkedV os = rv at HL ⊢
    go_enter Tryz.func18, Tryz.ntmps18
    go_wp2_with fail
    refine Calls.mono HOkC.out ?_
    rintro e w1 ⟨rfl, hbn⟩
    have bR := HBx.out.1.below hbn
    have hbb : Below D w w1 := HBx.out.2.trans (hbn.mono (by have := HBx.out.2.size; have := HBx.out.1.lt; omega))
    have HC2 : Hid (_) := HL.out w1 hbb
    have HB1 : Hid (Bx1 w1 D (.slice none 0 0) ∧ Below D w w1) := ⟨bR, hbb⟩
    clear HOkC HL bR hbb hbn
    go_wp2_with fail
    refine Calls.mono HC2.out ?_
    rintro e w2 ⟨v, xs, rfl, hxs, hrt, hb2⟩
    have bD := HB1.out.1.below hb2
    have hlt := HB1.out.1.lt
    have hg := grown_set w2 D 0 v
    obtain ⟨vf, rfl⟩ : ∃ vf, v = vf := ⟨v, rfl⟩
    have HO : Hid (RtsOwn (w2.setCell ⟨D, 0, none⟩ v) D v xs ∧ Below D w (w2.setCell ⟨D, 0, none⟩ v)) := by
      have hs1 := HB1.out.2.size
      have hbz := HB1.out.2.trans (hb2.mono (by omega))
      exact ⟨RtsOwn.base ⟨own_other hrt.row hlt hg, fun x hx => own_other (hrt.trees x hx) hlt hg⟩ (by omega), hbz.grown hg (by have := hb2.size; have := HD.out; omega) (fun q e => by injection e with e; omega)⟩
    obtain ⟨av, cv, rfl⟩ := own_any12 hrt.row
    have d0c := bD.c
    have d0f := bD.f
    have k0 := (bD.set (.slice av xs.length cv)).c
    obtain ⟨Z, hZ⟩ : ∃ Z, w2.setCell ⟨D, 0, none⟩ (.slice av xs.length cv) = Z := ⟨_, rfl⟩
    rw [hZ] at HO k0
    have HXS : Hid (xs.map (·.1) = rv) := hxs
    have HOx : Hid (∃ (v : Value) (xs2 : List RV), Ending.returned (.tuple #[.agg #[.slice av xs.length cv], .int .i64 res]) = .returned (.tuple #[.agg #[v], .int .i64 res]) ∧ xs2.map (·.1) = rv ∧ RtsOwn Z D v xs2 ∧ Below D w Z) := ⟨_, xs, rfl, HXS.out, HO.out.1, HO.out.2⟩
    clear hrt hb2 bD hg HC2 HB1 hxs HO HXS
    generalize xs.length = nx at HOx k0 hZ ⊢
    go_wp2
    refine bodyPost_ret (v := .tuple #[.agg #[.slice av nx cv], .int .i64 res]) (by simp [results, Tryz.results18, go_sem, k0]) rfl ?_
    obtain ⟨v, xs2, h1, h2, h3, h4⟩ := HOx.out
    first | exact ⟨v, xs2, h1, h2, h3, h4⟩ | exact ⟨v, h1, xs2, h2, h3, h4⟩ | (rw [← HD.out] at h3 h4; exact ⟨v, xs2, h1, h2, h3, h4⟩)

end Go.Proofs.YteolfnceobjonaaGreat
