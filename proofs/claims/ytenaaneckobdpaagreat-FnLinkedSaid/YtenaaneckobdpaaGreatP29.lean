/-
  Parts of one proof, one behind the other: LsC, LsD, LsE, LsF.
-/
import Derived.Test.YtenaaneckobdpaaGreatP28
import Derived.Test.YtenaaneckobdpaaGreatP21
import Derived.Test.YtenaaneckobdpaaGreatP16
import Derived.Deep.RegionHeld3
namespace Go.Proofs.YtenaaneckobdpaaGreat
open Go.RowKit
structure Bx1 (X : World) (b : Nat) (u : Value) : Prop where
 c : X.cell? ⟨b, 0, none⟩ = some u
 f : X.frozen? ⟨b, 0, none⟩ = false
theorem Bx1.lt {X : World} {b : Nat} {u : Value} (h : Bx1 X b u) : b < X.heap.size := World.block_lt_of_cell? X ⟨b, 0, none⟩ h.c
theorem Bx1.keep {X Y : World} {b : Nat} {u : Value} (h : Bx1 X b u) (hb : Y.heap[b]? = X.heap[b]?) : Bx1 Y b u := ⟨(World.cell?_of_block (a := ⟨b, 0, none⟩) hb).trans h.c, by have := h.f; simp only [World.frozen?, hb] at this ⊢; exact this⟩
theorem Bx1.below {X Y : World} {b : Nat} {u : Value} (h : Bx1 X b u) (hb : Below X.heap.size X Y) : Bx1 Y b u := h.keep (hb.block b h.lt)
theorem Bx1.grown {X Y : World} {b : Nat} {u : Value} {row : Option Nat} (h : Bx1 X b u) (hg : X.grownBy Y row) (hne : some b ≠ row) : Bx1 Y b u := h.keep (hg.block b h.lt hne)
theorem Bx1.set {X : World} {b : Nat} {u : Value} (h : Bx1 X b u) (v : Value) : Bx1 (X.setCell ⟨b, 0, none⟩ v) b v := ⟨World.cell?_setCell_same _ _ _ h.c, by simpa using h.f⟩
theorem Bx1.new (X : World) (u : Value) (t : TypeId) : Bx1 (X.alloc (.cells #[u] t)) X.heap.size u := by
 have hA := heap_alloc_new X (.cells #[u] t)
 exact ⟨by rw [cell_of_row _ _ _ _ _ _ hA]; rfl, frozen_of_row _ _ _ _ _ hA⟩
theorem zb4.src {w : World} {a : Option Addr} {len : Nat} {is : List In13} (h : zb4 w a len is) (h0 : 0 < len) (cap : Nat) : Src w (.slice a len cap) len 5 (insV is) := by
 obtain ⟨b, off, rfl, _⟩ := h.2 0 h0
 have hl := h.1
 refine ⟨by rw [zdw, hl], zfF _, Or.inr ⟨_, cap, rfl, fun j u hu => ?_⟩⟩
 have hj : j < len * 5 := by have := (List.getElem?_eq_some_iff.1 hu).1; rw [zdw, hl] at this; exact this
 obtain ⟨v0, v1, v2, v3, v4⟩ := zjQ is (j / 5) (by omega)
 obtain ⟨b', off', e, _, c0, c1, c2, c3, c4⟩ := h.2 (j / 5) (by omega)
 injection e with e
 injection e with e1 e2 _
 subst e1 e2
 have he : ∀ i, (⟨b, off, none⟩ : Addr).add i = ⟨b, off + i, none⟩ := fun i => by unfold Addr.add; split <;> simp_all
 rw [he]
 have h5 : j % 5 = 0 ∨ j % 5 = 1 ∨ j % 5 = 2 ∨ j % 5 = 3 ∨ j % 5 = 4 := by omega
 rcases h5 with h' | h' | h' | h' | h'
 ·
  have ej : j / 5 * 5 = j := by omega
  rw [ej] at v0 c0
  rw [v0] at hu
  injection hu with hu
  rw [← hu]; exact c0
 ·
  have ej : j / 5 * 5 + 1 = j := by omega
  rw [ej] at v1
  rw [Nat.add_assoc, ej] at c1
  rw [v1] at hu
  injection hu with hu
  rw [← hu]; exact c1
 ·
  have ej : j / 5 * 5 + 2 = j := by omega
  rw [ej] at v2
  rw [Nat.add_assoc, ej] at c2
  rw [v2] at hu
  injection hu with hu
  rw [← hu]; exact c2
 ·
  have ej : j / 5 * 5 + 3 = j := by omega
  rw [ej] at v3
  rw [Nat.add_assoc, ej] at c3
  rw [v3] at hu
  injection hu with hu
  rw [← hu]; exact c3
 ·
  have ej : j / 5 * 5 + 4 = j := by omega
  rw [ej] at v4
  rw [Nat.add_assoc, ej] at c4
  rw [v4] at hu
  injection hu with hu
  rw [← hu]; exact c4
structure Lk16 (w1 X : World) (R M : Nat) (ra : Option Addr) (rl rc : Nat) (xs : List RV) : Prop where
 r : Bx1 X R (.slice none 0 0)
 m : Bx1 X M (.slice ra rl rc)
 rts : za7 X w1.heap.size (.slice ra rl rc) xs
 gl : xs.length = rl
 wr : zby w1 X (fun q => q = M)
 lr : R < M
 lm : M < w1.heap.size
section
variable {w1 X Y : World} {R M : Nat} {ra : Option Addr} {rl rc : Nat} {xs : List RV}
theorem Lk16.below (h : Lk16 w1 X R M ra rl rc xs) (hb : Below X.heap.size X Y) : Lk16 w1 Y R M ra rl rc xs :=
 ⟨h.r.below hb, h.m.below hb, h.rts.below hb, h.gl, h.wr.trans (zby.of_below hb), h.lr, h.lm⟩
theorem Lk16.sz (h : Lk16 w1 X R M ra rl rc xs) : w1.heap.size ≤ X.heap.size := h.wr.size
theorem Lk16.bl {w : World} (h : Lk16 w1 X R M ra rl rc xs) (hb : Below w.heap.size w w1) (hR : w.heap.size ≤ R) : Below w.heap.size w X := by
 have hlr := h.lr
 exact hb.trans (h.wr.below hb.size (fun k e => by rw [e]; omega))
theorem Lk16.row (h : Lk16 w1 X R M ra rl rc xs) : X.ownsRow w1.heap.size 41 3 (.slice ra rl rc) rl (rtsV xs) := by have := h.rts.row; rw [h.gl] at this; exact this
theorem Lk16.off (h : Lk16 w1 X R M ra rl rc xs) {k : Nat} (hk : k < w1.heap.size) : some k ≠ (Value.slice ra rl rc).ownBlock := fun e => by
 have := (h.row.lt k e.symm).1
 omega
theorem Lk16.own (h : Lk16 w1 X R M ra rl rc xs) {g : Nat} (hg : X.grownBy Y (some g)) (hw : w1.heap.size ≤ g) (h1 : (Value.slice ra rl rc).ownBlock = none ∨ (Value.slice ra rl rc).ownBlock ≠ some g) (h2 : ∀ x ∈ xs, (rvT x).ownBlock = none ∨ (rvT x).ownBlock ≠ some g) : Lk16 w1 Y R M ra rl rc xs := by
 have hlr := h.lr
 have hlm := h.lm
 refine ⟨h.r.grown hg (fun e => by injection e with e; omega), h.m.grown hg (fun e => by injection e with e; omega), h.rts.kept hg h1 h2, h.gl, ⟨hg.os.trans h.wr.os, hg.tape.trans h.wr.tape, hg.output.trans h.wr.output, Nat.le_trans h.wr.size hg.size, fun k hk hn => ?_⟩, h.lr, h.lm⟩
 exact (hg.block k (by have := h.wr.size; omega) (fun e => by injection e with e; omega)).trans (h.wr.block k hk hn)
theorem Lk16.push (h : Lk16 w1 X R M ra rl rc xs) (x : RV) (ht : X.ownsRow w1.heap.size 58 5 (rvT x) x.1.2.2.length (insV x.1.2.2)) (hl : rl ≤ 1048576) :
 ∃ g' c' Y, (Builtin.append_ #[26, 26] 26 #[.slice ra rl rc, .slice (some ⟨X.heap.size, 0, none⟩) 1 1]).run Tryz.prog (X.alloc (.cells #[.string ⟨x.1.1.toArray⟩, .int .i64 x.1.2.1, rvT x] 41)) = .ok (.slice (some ⟨g', 0, none⟩) (rl + 1) c') Y ∧ Bx1 Y M (.slice ra rl rc) ∧ Lk16 w1 (Y.setCell ⟨M, 0, none⟩ (.slice (some ⟨g', 0, none⟩) (rl + 1) c')) R M (some ⟨g', 0, none⟩) (rl + 1) c' (xs ++ [x]) := by
 have hlr := h.lr
 have hlm := h.lm
 obtain ⟨v', Y, hr, ho, hg⟩ := push_rv h.rts x ht h.sz (by rw [h.gl]; exact hl)
 have hlen : (xs ++ [x]).length = rl + 1 := by rw [List.length_append, h.gl]; rfl
 obtain ⟨g', c', rfl⟩ := za9 ho.row (by omega)
 rw [hlen] at hr ho
 have hmY : Bx1 Y M (.slice ra rl rc) := h.m.grown hg (h.off hlm)
 have hrY : Bx1 Y R (.slice none 0 0) := h.r.grown hg (h.off (by omega))
 have hg2 := zaB Y M 0 (.slice (some ⟨g', 0, none⟩) (rl + 1) c')
 refine ⟨g', c', Y, hr, hmY, hrY.grown hg2 (fun e => by injection e with e; omega), hmY.set _, ⟨zaV ho.row hlm hg2, fun y hy => zaV (ho.trees y hy) hlm hg2⟩, hlen, ?_, hlr, hlm⟩
 refine ⟨hg2.os.trans (hg.os.trans h.wr.os), hg2.tape.trans (hg.tape.trans h.wr.tape), hg2.output.trans (hg.output.trans h.wr.output), Nat.le_trans h.wr.size (Nat.le_trans hg.size hg2.size), fun k hk hn => ?_⟩
 have hs1 := h.wr.size
 have hs2 := hg.size
 rw [hg2.block k (by omega) (fun e => by injection e with e; exact hn e), hg.block k (by omega) (h.off hk)]
 exact h.wr.block k hk hn
end
theorem own_neE {Y : World} {B e size n : Nat} {v : Value} {xs : List Value} (h : Y.ownsRow B e size v n xs) {E t : Nat} {cs : Array Value} {fr : Nat × Nat} (hE : Y.heap[E]? = some (.cells cs t fr)) (hne : e ≠ t) : v.ownBlock = none ∨ v.ownBlock ≠ some E := by
 rcases h.2 with ⟨rfl, _⟩ | ⟨g, cap, cur, rfl, _, hb, _⟩
 ·
  exact Or.inl rfl
 ·
  refine Or.inr (fun e1 => ?_)
  have e2 : g = E := by simpa [Value.ownBlock] using e1
  subst e2
  rw [hb] at hE
  injection hE with hE
  injection hE with _ hE _
  exact hne hE
theorem zfu {Y : World} {B e size n : Nat} {v : Value} {xs : List Value} (h : Y.ownsRow B e size v n xs) {E : Nat} (hE : Y.heap.size ≤ E) : v.ownBlock = none ∨ v.ownBlock ≠ some E := by
 rcases hv : v.ownBlock with _ | k
 ·
  exact Or.inl rfl
 ·
  refine Or.inr (fun e => ?_)
  injection e with e
  have := (h.lt k hv).2
  omega
theorem Lk16.code {w1 X X1 : World} {R M : Nat} {ra : Option Addr} {rl rc : Nat} {xs : List RV} (h : Lk16 w1 X R M ra rl rc xs) {nm : List UInt8} {ar : Int} {cd : List In13} {ca : Option Addr} {cc : Nat} (hX1 : X.alloc (.cells #[.string ⟨nm.toArray⟩, .int .i64 ar, .slice ca cd.length cc] 41) = X1) (hin : zb4 X ca cd.length cd) (h0 : 0 < cd.length) (h2 : cd.length ≤ 1048576) :
 ∃ g1 c1 Y, (Builtin.append_ #[39, 39] 39 #[.slice (some ⟨X1.heap.size, 0, none⟩) 0 0, .slice ca cd.length cc]).run Tryz.prog (X1.alloc (.cells #[] 58)) = .ok (.slice (some ⟨g1, 0, none⟩) cd.length c1) Y ∧ Y.cell? ⟨X.heap.size, 2, none⟩ = some (.slice ca cd.length cc) ∧ Y.frozen? ⟨X.heap.size, 2, none⟩ = false ∧
  Lk16 w1 (Y.setCell ⟨X.heap.size, 2, none⟩ (.slice (some ⟨g1, 0, none⟩) cd.length c1)) R M ra rl rc xs ∧ (Y.setCell ⟨X.heap.size, 2, none⟩ (.slice (some ⟨g1, 0, none⟩) cd.length c1)).cell? ⟨X.heap.size, 0, none⟩ = some (.string ⟨nm.toArray⟩) ∧ (Y.setCell ⟨X.heap.size, 2, none⟩ (.slice (some ⟨g1, 0, none⟩) cd.length c1)).cell? ⟨X.heap.size, 1, none⟩ = some (.int .i64 ar) ∧ (Y.setCell ⟨X.heap.size, 2, none⟩ (.slice (some ⟨g1, 0, none⟩) cd.length c1)).cell? ⟨X.heap.size, 2, none⟩ = some (.slice (some ⟨g1, 0, none⟩) cd.length c1) ∧
  (Y.setCell ⟨X.heap.size, 2, none⟩ (.slice (some ⟨g1, 0, none⟩) cd.length c1)).ownsRow w1.heap.size 58 5 (.slice (some ⟨g1, 0, none⟩) cd.length c1) cd.length (insV cd) := by
 have hsz := h.sz
 have hb1 : Below X.heap.size X X1 := by rw [← hX1]; exact (Below.refl _ _).alloc (Nat.le_refl _) _
 have hE : X1.heap[X.heap.size]? = some (.cells #[.string ⟨nm.toArray⟩, .int .i64 ar, .slice ca cd.length cc] 41) := by rw [← hX1]; exact heap_alloc_new X _
 have hs1 : X1.heap.size = X.heap.size + 1 := by rw [← hX1]; simp
 have hb2 : Below X1.heap.size X1 (X1.alloc (.cells #[] 58)) := (Below.refl _ _).alloc (Nat.le_refl _) _
 have hlit : (X1.alloc (.cells #[] 58)).ownsRow w1.heap.size 58 5 (.slice (some ⟨X1.heap.size, 0, none⟩) 0 0) 0 (insV []) := World.ownsRow_lit X1 #[] 0 (by omega) (by decide) rfl
 have hL2 := (h.below hb1).below hb2
 obtain ⟨i0, hi, hz0, hz1, hz2⟩ := info_parts zhb
 obtain ⟨v', Y, hrun, hown, hg, _⟩ := zal (P := Tryz.prog) (X1.alloc (.cells #[] 58)) w1.heap.size 39 39 58 i0 _ 5 48 Tryz.underlying39 hi hz0 hz1 hz2 rfl (by decide) _ _ _ hlit _ _ _ (((hin.below hb1).below hb2).src h0 cc) (by unfold maxLen; omega) (by omega) (by simp; omega)
 rw [Nat.zero_add, show insV [] ++ insV cd = insV cd from rfl] at hown
 obtain ⟨g1, c1, rfl⟩ := za9 hown (by omega)
 have hgb : (Value.slice (some ⟨X1.heap.size, 0, none⟩) 0 0).ownBlock = some X1.heap.size := rfl
 rw [hgb] at hg
 have hLY : Lk16 w1 Y R M ra rl rc xs := hL2.own hg (by omega) (zfu h.row (by omega)) (fun x hx => zfu (h.rts.trees x hx) (by omega))
 have hEY : Y.heap[X.heap.size]? = some (.cells #[.string ⟨nm.toArray⟩, .int .i64 ar, .slice ca cd.length cc] 41) := by
  rw [hg.block X.heap.size (by simp; omega) (fun e => by injection e with e; omega), hb2.block X.heap.size (by omega)]
  exact hE
 have k0 : Y.cell? ⟨X.heap.size, 0, none⟩ = some (.string ⟨nm.toArray⟩) := by rw [cell_of_row _ _ _ _ _ _ hEY]; rfl
 have k1 : Y.cell? ⟨X.heap.size, 1, none⟩ = some (.int .i64 ar) := by rw [cell_of_row _ _ _ _ _ _ hEY]; rfl
 have k2 : Y.cell? ⟨X.heap.size, 2, none⟩ = some (.slice ca cd.length cc) := by rw [cell_of_row _ _ _ _ _ _ hEY]; rfl
 have kf : Y.frozen? ⟨X.heap.size, 2, none⟩ = false := frozen_of_row _ _ _ _ _ hEY
 have hg2 := zaB Y X.heap.size 2 (.slice (some ⟨g1, 0, none⟩) cd.length c1)
 refine ⟨g1, c1, Y, hrun, k2, kf, hLY.own hg2 hsz (zfu h.row (Nat.le_refl _)) (fun x hx => zfu (h.rts.trees x hx) (Nat.le_refl _)), ?_, ?_, World.cell?_setCell_same _ _ _ k2, hown.kept hg2 (own_neE hown hEY (by decide))⟩
 ·
  rw [World.cell?_setCell_other (h := by simp)]; exact k0
 ·
  rw [World.cell?_setCell_other (h := by simp)]; exact k1
theorem byN_take (RS : List Rt) (ts : List (List UInt8)) (n : Nat) (hn : n < ts.length) : (ts.take (n + 1)).flatMap (ofN RS) = (ts.take n).flatMap (ofN RS) ++ ofN RS (ts.getD n []) := by
 rw [List.take_succ_eq_append_getElem hn, List.flatMap_append, List.getD_eq_getElem?_getD, List.getElem?_eq_getElem hn]
 simp
def ze8 (w : World) (os : List Ob) (e : Ending) (w' : World) : Prop := ∃ (v : Value) (xs : List RV), e = .returned (.tuple #[.agg #[v], .int .i64 (zbb os)]) ∧ xs.map (·.1) = zaM os ∧ za7 w' w.heap.size v xs ∧ Below w.heap.size w w'
theorem zdN {os : List Ob} (h : zbb os ≠ 0) : zaM os = [] := by unfold zaM; rw [if_neg h]
theorem zeu {os : List Ob} (h : zbb os = 0) : zaM os = zao (za2 os) := by unfold zaM; rw [if_pos h]
set_option maxHeartbeats 16000000 in
set_option maxRecDepth 100000 in
theorem zfY (a : Option Addr) (len cap : Nat) (os : List Ob) (w : World) (hin : zc1 w a len os) (hB : zb1 os = true) (hne : os ≠ []) :
 Calls Tryz.prog 28 #[.slice a len cap] w fun e w' => ze8 w os e w' := by
 have hl := hin.1
 have h8 : len ≤ 8 := by have := (zam hB).2; omega
 have hV : zbb os = if ¬ (zaw (za2 os)).Nodup then 1 else if zaF (za2 os) (za1 (za2 os)) ≠ [] then 2 else if zbN (za2 os) (za1 (za2 os)) = false then 3 else 0 := by
  unfold zbb
  rw [if_neg (by rintro (e | e); exact hne e; rw [hB] at e; cases e)]
 have HIm : Hid ((zaw (za2 os)).Nodup → zbM (zao (za2 os)) = zbN (za2 os) (za1 (za2 os))) := fun h => zf8 hB hne h
 have HAll : Hid ((zaw (za2 os)).Nodup → (zaQ (za2 os)).flatMap (ofN (za2 os)) = zao (za2 os)) := fun h => byN_all h
 have HNd : Hid ((∀ s ∈ zaQ (za2 os), (ofN (za2 os) s).length ≤ 1) → (zaw (za2 os)).Nodup) := fun h => zju h
 have HTw : Hid (∀ s, 1 < (ofN (za2 os) s).length → ¬ (zaw (za2 os)).Nodup) := fun s h => zjt h
 have HRt : Hid (∀ r ∈ za2 os, rtB r = true) := fun r hr => zdp hB hr
 have HOb : Hid (∀ k, k < len → za2 (os.take (k + 1)) = za2 (os.take k) ++ (os.getD k ob0).2.2 ∧ (os.getD k ob0).2.2.length ≤ 8 ∧ zhv (os.getD k ob0).2.2 ∧ (∀ r ∈ (os.getD k ob0).2.2, rtB r = true)) := fun k hk => by
  have ho := (zam hB).1 _ (zcu os ob0 (j := k) (by omega))
  exact ⟨zcU os k (by omega), (zbD ho).l.2, zjw ho, fun r hr => zh1 ho hr⟩
 have HTk : Hid (za2 (os.take len) = za2 os) := by exact (by rw [List.take_of_length_le (by omega)] : za2 (os.take len) = za2 os)
 have HZ0 : Hid (∀ s, ofN (za2 (os.take 0)) s = []) := fun s => by simp [za2, ofN]
 have HDl : Hid ((zaQ (za2 os)).length ≤ 64) := by
  have h1 := zcp (zaw (za2 os))
  have h2 := (zbs (zam hB).1).2
  have h3 : (zaw (za2 os)).length = (za2 os).length := by unfold zaw; rw [List.length_map]
  show (zaQ (za2 os)).length ≤ 64
  unfold zaQ; omega
 have HL0 : Hid (zbb os ≠ 0 → zaM os = []) := zdN
 have HLY : Hid (zbb os = 0 → zaM os = zao (za2 os)) := zeu
 unfold ze8
 generalize zbb os = res at hV HL0 HLY ⊢
 generalize zaM os = rv at HL0 HLY ⊢
 -- the two boxes
 have bR := Bx1.new w (.slice none 0 0) 28
 obtain ⟨W1, hW1⟩ : ∃ W, w.alloc (.cells #[.slice none 0 0] 28) = W := ⟨_, rfl⟩
 rw [hW1] at bR
 have hb1 : Below w.heap.size w W1 := by rw [← hW1]; exact (Below.refl _ _).alloc (Nat.le_refl _) _
 have hs1 : W1.heap.size = w.heap.size + 1 := by rw [← hW1]; simp
 have bM := Bx1.new W1 (.slice none 0 0) 28
 have hb2 : Below W1.heap.size W1 (W1.alloc (.cells #[.slice none 0 0] 28)) := (Below.refl _ _).alloc (Nat.le_refl _) _
 have hs2 : (W1.alloc (.cells #[.slice none 0 0] 28)).heap.size = w.heap.size + 2 := by simp [hs1]
 have hbW : Below w.heap.size w (W1.alloc (.cells #[.slice none 0 0] 28)) := hb1.trans (hb2.mono hb1.size)
 have bR2 := bR.below hb2
 have HC0 : Hid (_) := zel a len cap os (W1.alloc (.cells #[.slice none 0 0] 28)) (hin.below hbW) hB
 have HMs : Hid (∀ X, Below w.heap.size w X → Calls Tryz.prog 31 #[.slice a len cap] X fun e w' => ∃ g c, e = .returned (.slice (some ⟨g, 0, none⟩) (zaF (za2 os) (za1 (za2 os))).length c) ∧ w'.ownsRow X.heap.size 9 1 (.slice (some ⟨g, 0, none⟩) (zaF (za2 os) (za1 (za2 os))).length c) (zaF (za2 os) (za1 (za2 os))).length (strV (zaF (za2 os) (za1 (za2 os)))) ∧ Below X.heap.size X w') := fun X hX => zfX a len cap os X (hin.below hX) hB
 have HI : Hid (zc1 w a len os) := hin
 have HV : Hid (res = if ¬ (zaw (za2 os)).Nodup then 1 else if zaF (za2 os) (za1 (za2 os)) ≠ [] then 2 else if zbN (za2 os) (za1 (za2 os)) = false then 3 else 0) := hV
 obtain ⟨RS, hRS⟩ : ∃ RS, za2 os = RS := ⟨_, rfl⟩
 rw [hRS] at HIm HAll HNd HTw HRt HTk HDl HLY HC0 HMs HV
 obtain ⟨ts, hts⟩ : ∃ ts, zaQ RS = ts := ⟨_, rfl⟩
 rw [hts] at HAll HNd HDl HC0
 obtain ⟨D, hD⟩ : ∃ D, w.heap.size = D := ⟨_, rfl⟩
 obtain ⟨M, hM⟩ : ∃ M, W1.heap.size = M := ⟨_, rfl⟩
 have HMD : Hid (M = D + 1) := by exact (by omega : M = D + 1)
 rw [hD] at bR2
 rw [hM] at bM
 have HBx : Hid (Bx1 (W1.alloc (.cells #[.slice none 0 0] 28)) D (.slice none 0 0) ∧ Bx1 (W1.alloc (.cells #[.slice none 0 0] 28)) M (.slice none 0 0) ∧ Below w.heap.size w (W1.alloc (.cells #[.slice none 0 0] 28)) ∧ (W1.alloc (.cells #[.slice none 0 0] 28)).heap.size = D + 2 ∧ w.heap.size = D) := ⟨bR2, bM, hbW, by omega, hD⟩
 clear hin hB hne hl hRS hts bR bM hb1 hs1 hb2 bR2 hbW hV hs2
 go_enter Tryz.func28, Tryz.ntmps28
 go_wp2_with fail
 refine Calls.mono HC0.out ?_
 rintro e w1 ⟨gn, cn, rfl, hrn, hbn⟩
 have HL : Hid (Lk16 w1 w1 D M none 0 0 []) := by
  have hx := HBx.out
  have hmd := HMD.out
  have hz := hbn.size
  exact (⟨hx.1.below hbn, hx.2.1.below hbn, za7.nil _ _, rfl, zby.refl _ _, by omega, by omega⟩ : Lk16 w1 w1 D M none 0 0 [])
 have HNm : Hid (∀ X ra rl rc xs, Lk16 w1 X D M ra rl rc xs → ∀ j, j < ts.length → X.cell? ⟨gn, j, none⟩ = some (.string ⟨(ts.getD j []).toArray⟩)) := fun X ra rl rc xs hL j hj => by
  have hx := HBx.out
  have hmd := HMD.out
  have h1 := zeZ hrn hL.wr (fun k e h => by have := (hrn.lt k e).1; omega)
  rw [World.ownsRow.cellAt h1 j (by omega)]
  simp [strV, List.getD, hj]
 have HBw : Hid (Below w.heap.size w w1 ∧ w.heap.size = D) := ⟨HBx.out.2.2.1.trans (hbn.mono HBx.out.2.2.1.size), HBx.out.2.2.2.2⟩
 obtain ⟨nt, hnt⟩ : ∃ nt, ts.length = nt := ⟨_, rfl⟩
 have HNt : Hid (ts.length = nt) := hnt
 have hntl := HDl.out
 have HTs : Hid (∀ n, n < nt → (ts.take (n + 1)).flatMap (ofN RS) = (ts.take n).flatMap (ofN RS) ++ ofN RS (ts.getD n [])) := fun n hn => byN_take RS ts n (by omega)
 have HTe : Hid (ts.take nt = ts) := List.take_of_length_le (by omega)
 have HGd : Hid (∀ s ∈ ts, ∃ j, j < nt ∧ ts.getD j [] = s) := fun s hs => by
  obtain ⟨j, hj, rfl⟩ := List.mem_iff_getElem.1 hs
  exact ⟨j, by omega, by rw [List.getD_eq_getElem?_getD, List.getElem?_eq_getElem hj]; rfl⟩
 rw [hnt] at HNm hntl ⊢
 clear HC0 hrn hbn HBx HDl hnt
 go_wp2
 go_loopw [6] (fun iv wr => ∃ (n : Nat) (ra : Option Addr) (rl rc : Nat) (xs : List RV), iv = .int .i64 (n : Int) ∧ n ≤ nt ∧ rl ≤ 8 * n ∧ Hid (xs.map (·.1) = (ts.take n).flatMap (ofN RS)) ∧ Hid (∀ j, j < n → (ofN RS (ts.getD j [])).length ≤ 1) ∧ Hid (Lk16 w1 wr D M ra rl rc xs)) (fun iv _ => nt - (intOf iv).toNat)
 case atStart => exact ⟨0, none, 0, 0, [], rfl, Nat.zero_le _, Nat.zero_le _, (by simp : ([] : List RV).map (·.1) = (ts.take 0).flatMap (ofN RS)), (fun j hj => absurd hj (Nat.not_lt_zero _)), HL⟩
 case round =>
  obtain ⟨n, ra, rl, rc, xs, rfl, hn, hrl, HM, HF, HLk⟩ := hrel
  clear HL
  by_cases hlt : (n : Int) < (nt : Int)
  ·
   have hst := HTs.out n (by omega)
   obtain ⟨s, hs⟩ : ∃ s, ts.getD n [] = s := ⟨_, rfl⟩
   have HS : Hid (ts.getD n [] = s) := hs
   rw [hs] at hst
   have HSt : Hid ((ts.take (n + 1)).flatMap (ofN RS) = (ts.take n).flatMap (ofN RS) ++ ofN RS s) := hst
   obtain ⟨ds, hds⟩ : ∃ ds, (ts.take n).flatMap (ofN RS) = ds := ⟨_, rfl⟩
   rw [hds] at HM HSt
   have HM0 : Hid (xs.map (·.1) = ds ++ ofN (za2 (os.take 0)) s) := by exact (by rw [HZ0.out, List.append_nil]; exact HM.out : xs.map (·.1) = ds ++ ofN (za2 (os.take 0)) s)
   have HF0 : Hid ((ofN (za2 (os.take 0)) s).length = 0) := by exact (by rw [HZ0.out]; rfl : (ofN (za2 (os.take 0)) s).length = 0)
   clear hst hs hds HM
   go_wp2
   go_loopw [7, 8] (fun fv iv wx => ∃ (i f : Nat) (ra : Option Addr) (rl rc : Nat) (xs : List RV), iv = .int .i64 (i : Int) ∧ fv = .int .i64 (f : Int) ∧ i ≤ len ∧ f ≤ i ∧ rl ≤ 8 * n + i ∧ Hid ((ofN (za2 (os.take i)) s).length = f) ∧ Hid (xs.map (·.1) = ds ++ ofN (za2 (os.take i)) s) ∧ Hid (Lk16 w1 wx D M ra rl rc xs)) (fun _ iv _ => len - (intOf iv).toNat)
   case atStart => exact ⟨0, 0, ra, rl, rc, xs, rfl, rfl, Nat.zero_le _, Nat.le_refl _, by omega, HF0, HM0, HLk⟩
   case round =>
    clear HM0 HF0 HLk hrl
    obtain ⟨i, f, ra, rl, rc, xs, rfl, rfl, hi, hfi, hrl, HFl, HM, HLk⟩ := hrel
    by_cases hil : (i : Int) < (len : Int)
    ·
     have hbl0 : Below w.heap.size w wr := HLk.out.bl HBw.out.1 (by have := HBw.out.2; omega)
     obtain ⟨b, off, rfl, hbl, d0, ia, il, ic, fa, fl, fc, d1, d2, hii, hff⟩ := (HI.out.below hbl0).2 i (by omega)
     obtain ⟨hst, hle, hrise, hrt⟩ := HOb.out i (by omega)
     obtain ⟨o, ho⟩ : ∃ o, os.getD i ob0 = o := ⟨_, rfl⟩
     rw [ho] at hst hle hrise hrt hff
     obtain ⟨nm, ims, rs⟩ := o
     simp only at hst hle hrise hrt hff
     obtain rfl : rs.length = fl := hff.1
     have c5 := HNm.out wr ra rl rc xs HLk.out n (by omega)
     rw [HS.out] at c5
     have hat := at14_ofN hrise s
     have HA : Hid (∀ V, zbp V fa rs.length rs → Calls Tryz.prog 33 #[.slice fa rs.length fc, .string ⟨s.toArray⟩] V fun e w' => e = .returned (.int .i64 (at14 rs s)) ∧ w' = V) := fun V hV => zhF fa rs.length fc rs s V hV (by omega)
     have HRI : Hid (zbp wr fa rs.length rs) := hff
     have HSt2 : Hid (za2 (os.take (i + 1)) = za2 (os.take i) ++ rs) := hst
     have HRB : Hid (∀ r ∈ rs, rtB r = true) := hrt
     clear hst ho hrise hrt hff d0 d1 hii hbl0
     rcases hat with ⟨hat, hof⟩ | ⟨j, hj, hat, hof⟩
     ·
      rw [hat] at HA
      have HFl2 : Hid ((ofN (za2 (os.take (i + 1))) s).length = f) := by exact (by rw [HSt2.out, zct, hof, List.append_nil]; exact HFl.out : (ofN (za2 (os.take (i + 1))) s).length = f)
      have HM2 : Hid (xs.map (·.1) = ds ++ ofN (za2 (os.take (i + 1))) s) := by exact (by rw [HSt2.out, zct, hof, List.append_nil]; exact HM.out : xs.map (·.1) = ds ++ ofN (za2 (os.take (i + 1))) s)
      clear hof hat HFl HM
      go_wp2_with fail
      go_quiet (first | (go_at_call 33; refine Calls.quiet_of_same (HA.out _ (HRI.out.below ⟨rfl, rfl, rfl, Nat.le_refl _, fun _ _ => rfl⟩))))
      go_wp2
      go_roundw
      case rel => exact ⟨i + 1, f, ra, rl, rc, xs, by go_num, rfl, by omega, by omega, by omega, HFl2, HM2, HLk.out.below ⟨rfl, rfl, rfl, Nat.le_refl _, fun _ _ => rfl⟩⟩
      case measure => simp [intOf]; omega
     ·
      rw [hat] at HA
      obtain ⟨b2, off2, rfl, hbl2, e0, e1, ca, cl, cc, e2, hins⟩ := HRI.out.2 j hj
      have hmem := zcu rs rt0 hj
      obtain ⟨r, hr⟩ : ∃ r, rs.getD j rt0 = r := ⟨_, rfl⟩
      rw [hr] at e0 e1 hins hof hmem
      obtain ⟨rn, ar, cd⟩ := r
      simp only at e0 e1 hins
      obtain rfl : cd.length = cl := hins.1
      have hcd := zcP (zc7 (HRB.out _ hmem)).2.2.1
      simp only at hcd
      have HIn : Hid (zb4 wr ca cd.length cd) := hins
      have HFl2 : Hid ((ofN (za2 (os.take (i + 1))) s).length = f + 1) := by exact (by rw [HSt2.out, zct, hof, List.length_append, HFl.out]; rfl : (ofN (za2 (os.take (i + 1))) s).length = f + 1)
      have HM2 : Hid (xs.map (·.1) ++ [((rn, ar, cd) : Rt)] = ds ++ ofN (za2 (os.take (i + 1))) s) := by exact (by rw [HSt2.out, zct, hof, HM.out, List.append_assoc] : xs.map (·.1) ++ [((rn, ar, cd) : Rt)] = ds ++ ofN (za2 (os.take (i + 1))) s)
      have hjr : (j : Int) < (rs.length : Int) := by omega
      clear hof hat HFl HM hr hins hmem HRB HSt2
      go_wp2_with fail
      go_quiet (first | (go_at_call 33; refine Calls.quiet_of_same (HA.out _ (HRI.out.below ⟨rfl, rfl, rfl, Nat.le_refl _, fun _ _ => rfl⟩))))
      obtain ⟨V, hVV⟩ : ∃ V, wr.drewN nq = V := ⟨_, rfl⟩
      have hdr : Below wr.heap.size wr V := by rw [← hVV]; exact ⟨rfl, rfl, rfl, Nat.le_refl _, fun _ _ => rfl⟩
      rw [hVV]
      have hLV := HLk.out.below hdr
      replace d2 := (hdr.cell (p := ⟨b, off + i * 3 + 2, none⟩) hbl).trans d2
      replace e0 := (hdr.cell (p := ⟨b2, off2 + j * 3, none⟩) hbl2).trans e0
      replace e1 := (hdr.cell (p := ⟨b2, off2 + j * 3 + 1, none⟩) hbl2).trans e1
      replace e2 := (hdr.cell (p := ⟨b2, off2 + j * 3 + 2, none⟩) hbl2).trans e2
      obtain ⟨X1, hX1⟩ : ∃ X, V.alloc (.cells #[.string ⟨rn.toArray⟩, .int .i64 ar, .slice ca cd.length cc] 41) = X := ⟨_, rfl⟩
      have hX1e : X1.heap[V.heap.size]? = some (.cells #[.string ⟨rn.toArray⟩, .int .i64 ar, .slice ca cd.length cc] 41) := by rw [← hX1]; exact heap_alloc_new V _
      have x2 : (X1.alloc (.cells #[] 58)).cell? ⟨V.heap.size, 2, none⟩ = some (.slice ca cd.length cc) := by
       have hb2 : Below X1.heap.size X1 (X1.alloc (.cells #[] 58)) := (Below.refl _ _).alloc (Nat.le_refl _) _
       rw [hb2.cell (p := ⟨V.heap.size, 2, none⟩) (lt_of_block hX1e), cell_of_row _ _ _ _ _ _ hX1e]; rfl
      obtain ⟨g1, c1, Y, hrun1, k2, kf, hL1, m0, m1, m2, hcode⟩ := hLV.code hX1 (HIn.out.below hdr) (by omega) (by omega)
      obtain ⟨E, hE⟩ : ∃ E, V.heap.size = E := ⟨_, rfl⟩
      rw [hE] at x2 k2 kf hL1 m0 m1 m2 hcode
      obtain ⟨Y1, hY1⟩ : ∃ Y1, Y.setCell ⟨E, 2, none⟩ (.slice (some ⟨g1, 0, none⟩) cd.length c1) = Y1 := ⟨_, rfl⟩
      rw [hY1] at hL1 m0 m1 m2 hcode
      obtain ⟨g2, c2, Z, hrun2, bZ, hL2⟩ := hL1.push ((rn, ar, cd), some ⟨g1, 0, none⟩, c1) hcode (by omega)
      have q0 := hL1.m.c
      have z0 := bZ.c
      have zf := bZ.f
      simp only [rvT] at hrun2
      have HL2 : Hid (Lk16 w1 (Z.setCell ⟨M, 0, none⟩ (.slice (some ⟨g2, 0, none⟩) (rl + 1) c2)) D M (some ⟨g2, 0, none⟩) (rl + 1) c2 (xs ++ [((rn, ar, cd), some ⟨g1, 0, none⟩, c1)])) := hL2
      have HM3 : Hid ((xs ++ [(((rn, ar, cd), some ⟨g1, 0, none⟩, c1) : RV)]).map (·.1) = ds ++ ofN (za2 (os.take (i + 1))) s) := by exact (by rw [← HM2.out, List.map_append]; rfl : (xs ++ [(((rn, ar, cd), some ⟨g1, 0, none⟩, c1) : RV)]).map (·.1) = ds ++ ofN (za2 (os.take (i + 1))) s)
      generalize xs ++ [(((rn, ar, cd), some ⟨g1, 0, none⟩, c1) : RV)] = xs2 at HL2 HM3
      obtain ⟨ncd, hncd⟩ : ∃ ncd, cd.length = ncd := ⟨_, rfl⟩
      rw [hncd] at e2 hX1 x2 hrun1 k2 hY1 m2 hrun2
      clear hLV hL1 hcode bZ hL2 HM2 HLk HIn hX1e hdr hVV HA HRI hncd hcd
      go_wp2_with (first | (at_builtin; refine za0 rfl (.tmp 48) (.tmp 50) 39 rfl _ _ _ rfl rfl hrun1 ?_; clear hrun1) | (at_builtin; refine za0 rfl (.tmp 54) (.tmp 56) 26 rfl _ _ _ rfl rfl hrun2 ?_; clear hrun2))
      go_roundw
      case rel => exact ⟨i + 1, f + 1, some ⟨g2, 0, none⟩, rl + 1, c2, xs2, by go_num, by go_num, by omega, by omega, by omega, HFl2, HM3, HL2⟩
      case measure => simp [intOf]; omega
    ·
     obtain rfl : i = len := by omega
     rw [HTk.out] at HFl HM
     by_cases hf1 : (1 : Int) < (f : Int)
     ·
      have HR : Hid (res = 1) := by exact (by rw [HV.out, if_pos (HTw.out s (by rw [HFl.out]; omega))] : res = 1)
      have bD := HLk.out.r
      have d0c := bD.c
      have d0f := bD.f
      have k0 := (bD.set (.slice none 0 0)).c
      have HO : Hid (∃ (v : Value), Ending.returned (.tuple #[.agg #[.slice none 0 0], .int .i64 1]) = .returned (.tuple #[.agg #[v], .int .i64 res]) ∧ ∃ (xs : List RV), xs.map (·.1) = rv ∧ za7 (wr.setCell ⟨D, 0, none⟩ (.slice none 0 0)) D v xs ∧ Below D w (wr.setCell ⟨D, 0, none⟩ (.slice none 0 0))) := by
       have hbl0 : Below w.heap.size w wr := HLk.out.bl HBw.out.1 (by have := HBw.out.2; omega)
       have hwd := HBw.out.2
       have hbz := hbl0.grown (zaB wr D 0 (.slice none 0 0)) hbl0.size (fun q e => by injection e with e; omega)
       rw [hwd] at hbz
       exact ⟨.slice none 0 0, by rw [HR.out], [], (HL0.out (by rw [HR.out]; decide)).symm, za7.nil _ _, hbz⟩
      obtain ⟨Z, hZ⟩ : ∃ Z, wr.setCell ⟨D, 0, none⟩ (.slice none 0 0) = Z := ⟨_, rfl⟩
      rw [hZ] at HO k0
      clear HLk bD
      go_wp2
      refine bodyPost_ret (v := .tuple #[.agg #[.slice none 0 0], .int .i64 1]) (by simp [results, Tryz.results28, go_sem, k0]) rfl ?_
      first | exact HO.out | (obtain ⟨v, h1, xs, h2, h3, h4⟩ := HO.out; rw [← HBw.out.2] at h3 h4; exact ⟨v, xs, h1, h2, h3, h4⟩)
     ·
      have HM2 : Hid (xs.map (·.1) = (ts.take (n + 1)).flatMap (ofN RS)) := by exact (by rw [HSt.out]; exact HM.out : xs.map (·.1) = (ts.take (n + 1)).flatMap (ofN RS))
      have HF2 : Hid (∀ j, j < n + 1 → (ofN RS (ts.getD j [])).length ≤ 1) := fun j hj => by
       rcases Nat.lt_or_ge j n with g | g
       ·
        exact HF.out j g
       ·
        obtain rfl : j = n := by omega
        rw [HS.out, HFl.out]; omega
      clear HM HFl
      go_wp2
      go_roundw
      case rel => exact ⟨n + 1, ra, rl, rc, xs, by go_num, by omega, by omega, HM2, HF2, HLk⟩
      case measure => simp [intOf]; omega
  ·
   obtain rfl : n = nt := by omega
   have hnd : (zaw RS).Nodup := HNd.out (fun s hs => by
    obtain ⟨j, hj, rfl⟩ := HGd.out s hs
    exact HF.out j hj)
   rw [HTe.out, HAll.out hnd] at HM
   have HV2 : Hid (res = if zaF RS (za1 RS) ≠ [] then 2 else if zbN RS (za1 RS) = false then 3 else 0) := by exact (by rw [HV.out, if_neg (fun h => h hnd)] : res = if zaF RS (za1 RS) ≠ [] then 2 else if zbN RS (za1 RS) = false then 3 else 0)
   have HI2 : Hid (zbM (zao RS) = zbN RS (za1 RS)) := HIm.out hnd
   have HC : Hid (_) := HMs.out wr (HLk.out.bl HBw.out.1 (by have := HBw.out.2; omega))
   obtain ⟨nm, hnm⟩ : ∃ nm, (zaF RS (za1 RS)).length = nm := ⟨_, rfl⟩
   rw [hnm] at HC
   clear HV HIm hnd HMs HF HNd HAll
   go_wp2_with fail
   refine Calls.mono HC.out ?_
   rintro e w2 ⟨gm, cm, rfl, hrm, hbm⟩
   replace HLk : Hid (Lk16 w1 w2 D M ra rl rc xs) := HLk.out.below hbm
   clear hrm hbm HC
   by_cases hgt : (0 : Int) < (nm : Int)
   ·
    have HR : Hid (res = 2) := by exact (by rw [HV2.out, if_pos (fun h => by rw [h] at hnm; simp at hnm; omega)] : res = 2)
    clear hnm
    have bD := HLk.out.r
    have d0c := bD.c
    have d0f := bD.f
    have k0 := (bD.set (.slice none 0 0)).c
    have HO : Hid (∃ (v : Value), Ending.returned (.tuple #[.agg #[.slice none 0 0], .int .i64 2]) = .returned (.tuple #[.agg #[v], .int .i64 res]) ∧ ∃ (xs : List RV), xs.map (·.1) = rv ∧ za7 (w2.setCell ⟨D, 0, none⟩ (.slice none 0 0)) D v xs ∧ Below D w (w2.setCell ⟨D, 0, none⟩ (.slice none 0 0))) := by
     have hbl0 : Below w.heap.size w w2 := HLk.out.bl HBw.out.1 (by have := HBw.out.2; omega)
     have hwd := HBw.out.2
     have hbz := hbl0.grown (zaB w2 D 0 (.slice none 0 0)) hbl0.size (fun q e => by injection e with e; omega)
     rw [hwd] at hbz
     exact ⟨.slice none 0 0, by rw [HR.out], [], (HL0.out (by rw [HR.out]; decide)).symm, za7.nil _ _, hbz⟩
    obtain ⟨Z, hZ⟩ : ∃ Z, w2.setCell ⟨D, 0, none⟩ (.slice none 0 0) = Z := ⟨_, rfl⟩
    rw [hZ] at HO k0
    clear HLk bD
    go_wp2
    refine bodyPost_ret (v := .tuple #[.agg #[.slice none 0 0], .int .i64 2]) (by simp [results, Tryz.results28, go_sem, k0]) rfl ?_
    first | exact HO.out | (obtain ⟨v, h1, xs, h2, h3, h4⟩ := HO.out; rw [← HBw.out.2] at h3 h4; exact ⟨v, xs, h1, h2, h3, h4⟩)
   ·
    have hmz : zaF RS (za1 RS) = [] := List.length_eq_zero_iff.1 (by omega)
    have HV3 : Hid (res = if zbN RS (za1 RS) = false then 3 else 0) := by exact (by rw [HV2.out, if_neg (fun h => h hmz)] : res = if zbN RS (za1 RS) = false then 3 else 0)
    have hxr : ∀ r ∈ xs.map (·.1), rtB r = true := fun r hr => by rw [HM.out] at hr; exact HRt.out r ((zb0 RS).mem_iff.1 hr)
    obtain ⟨ra', rc', er, _, hri⟩ := HLk.out.rts.in
    injection er with er1 er2 er3
    subst er1 er3
    rw [← er2] at hri
    have HC2 : Hid (_) := zek ra rl rc (xs.map (·.1)) w2 hri (zg0 hxr).2 (by omega)
    rw [HM.out, HI2.out] at HC2
    have q0 := HLk.out.m.c
    clear hmz hxr hri HV2 HI2 hnm er2
    rcases hf : zbN RS (za1 RS) with _ | _
    ·
     have HR : Hid (res = 3) := by exact (by rw [HV3.out, hf]; rfl : res = 3)
     rw [hf] at HC2
     clear hf HV3
     go_wp2_with fail
     refine Calls.mono HC2.out ?_
     rintro e w3 ⟨rfl, hb3⟩
     replace HLk : Hid (Lk16 w1 w3 D M ra rl rc xs) := HLk.out.below hb3
     clear hb3 HC2 q0
     have bD := HLk.out.r
     have d0c := bD.c
     have d0f := bD.f
     have k0 := (bD.set (.slice none 0 0)).c
     have HO : Hid (∃ (v : Value), Ending.returned (.tuple #[.agg #[.slice none 0 0], .int .i64 3]) = .returned (.tuple #[.agg #[v], .int .i64 res]) ∧ ∃ (xs : List RV), xs.map (·.1) = rv ∧ za7 (w3.setCell ⟨D, 0, none⟩ (.slice none 0 0)) D v xs ∧ Below D w (w3.setCell ⟨D, 0, none⟩ (.slice none 0 0))) := by
      have hbl0 : Below w.heap.size w w3 := HLk.out.bl HBw.out.1 (by have := HBw.out.2; omega)
      have hwd := HBw.out.2
      have hbz := hbl0.grown (zaB w3 D 0 (.slice none 0 0)) hbl0.size (fun q e => by injection e with e; omega)
      rw [hwd] at hbz
      exact ⟨.slice none 0 0, by rw [HR.out], [], (HL0.out (by rw [HR.out]; decide)).symm, za7.nil _ _, hbz⟩
     obtain ⟨Z, hZ⟩ : ∃ Z, w3.setCell ⟨D, 0, none⟩ (.slice none 0 0) = Z := ⟨_, rfl⟩
     rw [hZ] at HO k0
     clear HLk bD
     go_wp2
     refine bodyPost_ret (v := .tuple #[.agg #[.slice none 0 0], .int .i64 3]) (by simp [results, Tryz.results28, go_sem, k0]) rfl ?_
     first | exact HO.out | (obtain ⟨v, h1, xs, h2, h3, h4⟩ := HO.out; rw [← HBw.out.2] at h3 h4; exact ⟨v, xs, h1, h2, h3, h4⟩)
    ·
     have HR : Hid (res = 0) := by exact (by rw [HV3.out, hf]; rfl : res = 0)
     rw [hf] at HC2
     clear hf HV3
     go_wp2_with fail
     refine Calls.mono HC2.out ?_
     rintro e w3 ⟨rfl, hb3⟩
     replace HLk : Hid (Lk16 w1 w3 D M ra rl rc xs) := HLk.out.below hb3
     clear hb3 HC2 q0
     have q0 := HLk.out.m.c
     have bD := HLk.out.r
     have d0c := bD.c
     have d0f := bD.f
     have k0 := (bD.set (.slice ra rl rc)).c
     have HO : Hid (∃ (v : Value), Ending.returned (.tuple #[.agg #[.slice ra rl rc], .int .i64 0]) = .returned (.tuple #[.agg #[v], .int .i64 res]) ∧ ∃ (xs : List RV), xs.map (·.1) = rv ∧ za7 (w3.setCell ⟨D, 0, none⟩ (.slice ra rl rc)) D v xs ∧ Below D w (w3.setCell ⟨D, 0, none⟩ (.slice ra rl rc))) := by
      have hbl0 : Below w.heap.size w w3 := HLk.out.bl HBw.out.1 (by have := HBw.out.2; omega)
      have hlr := HLk.out.lr
      have hlm := HLk.out.lm
      have hg := zaB w3 D 0 (.slice ra rl rc)
      have hwd := HBw.out.2
      have hbz := hbl0.grown hg hbl0.size (fun q e => by injection e with e; omega)
      have hsz := HBw.out.1.size
      rw [hwd] at hbz hsz
      exact ⟨.slice ra rl rc, by rw [HR.out], xs, by rw [HM.out, HLY.out HR.out], za7.base ⟨zaV HLk.out.rts.row (by omega) hg, fun x hx => zaV (HLk.out.rts.trees x hx) (by omega) hg⟩ hsz, hbz⟩
     obtain ⟨Z, hZ⟩ : ∃ Z, w3.setCell ⟨D, 0, none⟩ (.slice ra rl rc) = Z := ⟨_, rfl⟩
     rw [hZ] at HO k0
     clear HLk bD
     go_wp2
     refine bodyPost_ret (v := .tuple #[.agg #[.slice ra rl rc], .int .i64 0]) (by simp [results, Tryz.results28, go_sem, k0]) rfl ?_
     first | exact HO.out | (obtain ⟨v, h1, xs, h2, h3, h4⟩ := HO.out; rw [← HBw.out.2] at h3 h4; exact ⟨v, xs, h1, h2, h3, h4⟩)
theorem zfa {os : List Ob} (h : os = [] ∨ zb1 os = false) : zbb os = 4 := by unfold zbb; rw [if_pos h]
set_option maxHeartbeats 4000000 in
set_option maxRecDepth 100000 in
theorem zif (a : Option Addr) (len cap : Nat) (os : List Ob) (w : World) (hin : zc1 w a len os) (hlen : len ≤ 1048576) (hsh : zdl os) :
 Calls Tryz.prog 9 #[.slice a len cap] w fun e w' => ze8 w os e w' := by
 have hl := hin.1
 have bR := Bx1.new w (.slice none 0 0) 28
 obtain ⟨W1, hW1⟩ : ∃ W, w.alloc (.cells #[.slice none 0 0] 28) = W := ⟨_, rfl⟩
 rw [hW1] at bR
 have hb1 : Below w.heap.size w W1 := by rw [← hW1]; exact (Below.refl _ _).alloc (Nat.le_refl _) _
 have HFour : Hid ((os = [] ∨ zb1 os = false) → ∀ X, Bx1 X w.heap.size (.slice none 0 0) → Below w.heap.size w X → ze8 w os (.returned (.tuple #[.agg #[.slice none 0 0], .int .i64 4])) (X.setCell ⟨w.heap.size, 0, none⟩ (.slice none 0 0))) := fun h X _ hX =>
  ⟨.slice none 0 0, [], by rw [zfa h], by rw [zdN (by rw [zfa h]; decide)]; rfl, za7.nil _ _, hX.grown (zaB _ _ _ _) hX.size (fun q e => by injection e with e; omega)⟩
 have HOkC : Hid (_) := zfk a len cap os W1 (hin.below hb1) hlen hsh
 by_cases h0 : len = 0
 ·
  have HF : Hid (∀ X, Bx1 X w.heap.size (.slice none 0 0) → Below w.heap.size w X → ze8 w os (.returned (.tuple #[.agg #[.slice none 0 0], .int .i64 4])) (X.setCell ⟨w.heap.size, 0, none⟩ (.slice none 0 0))) := HFour.out (Or.inl (List.length_eq_zero_iff.1 (by omega)))
  subst h0
  have HO : Hid (ze8 w os (.returned (.tuple #[.agg #[.slice none 0 0], .int .i64 4])) (W1.setCell ⟨w.heap.size, 0, none⟩ (.slice none 0 0))) := HF.out W1 bR hb1
  have d0c := bR.c
  have d0f := bR.f
  have k0 := (bR.set (.slice none 0 0)).c
  generalize ze8 w os = QQ at HO ⊢
  obtain ⟨D, hD⟩ : ∃ D, w.heap.size = D := ⟨_, rfl⟩
  rw [hD] at HO d0c d0f k0
  obtain ⟨Z, hZ⟩ : ∃ Z, W1.setCell ⟨D, 0, none⟩ (.slice none 0 0) = Z := ⟨_, rfl⟩
  rw [hZ] at HO k0
  clear hin hsh hl HFour HOkC HF bR hb1
  go_enter Tryz.func9, Tryz.ntmps9
  go_wp2
  refine bodyPost_ret (v := .tuple #[.agg #[.slice none 0 0], .int .i64 4]) (by simp [results, Tryz.results9, go_sem, k0]) rfl ?_
  exact HO.out
 have h0b : ((len : Int) == 0) = false := beq_eq_false_iff_ne.2 (by omega)
 rcases hB : zb1 os with _ | _
 ·
  have HF : Hid (∀ X, Bx1 X w.heap.size (.slice none 0 0) → Below w.heap.size w X → ze8 w os (.returned (.tuple #[.agg #[.slice none 0 0], .int .i64 4])) (X.setCell ⟨w.heap.size, 0, none⟩ (.slice none 0 0))) := HFour.out (Or.inr hB)
  rw [hB] at HOkC
  have HBx : Hid (Bx1 W1 w.heap.size (.slice none 0 0) ∧ Below w.heap.size w W1) := ⟨bR, hb1⟩
  generalize ze8 w os = QQ at HF ⊢
  obtain ⟨D, hD⟩ : ∃ D, w.heap.size = D := ⟨_, rfl⟩
  rw [hD] at HF HBx
  clear hin hsh hl HFour bR hb1 hB
  go_enter Tryz.func9, Tryz.ntmps9
  go_wp2_with fail
  refine Calls.mono HOkC.out ?_
  rintro e w1 ⟨rfl, hbn⟩
  have bR := HBx.out.1.below hbn
  have hbb : Below D w w1 := HBx.out.2.trans (hbn.mono (by have := HBx.out.2.size; have := HBx.out.1.lt; omega))
  have HO := HF.out w1 bR hbb
  have d0c := bR.c
  have d0f := bR.f
  have k0 := (bR.set (.slice none 0 0)).c
  obtain ⟨Z, hZ⟩ : ∃ Z, w1.setCell ⟨D, 0, none⟩ (.slice none 0 0) = Z := ⟨_, rfl⟩
  rw [hZ] at HO k0
  have HO2 : Hid (QQ (.returned (.tuple #[.agg #[.slice none 0 0], .int .i64 4])) Z) := HO
  clear HO bR hbb hbn HOkC
  go_wp2
  refine bodyPost_ret (v := .tuple #[.agg #[.slice none 0 0], .int .i64 4]) (by simp [results, Tryz.results9, go_sem, k0]) rfl ?_
  exact HO2.out
 ·
  have HL : Hid (∀ X, Below w.heap.size w X → Calls Tryz.prog 28 #[.slice a len cap] X fun e w' => ze8 X os e w') := fun X hX => zfY a len cap os X (hin.below hX) hB (fun e => by rw [e] at hl; simp at hl; omega)
  rw [hB] at HOkC
  have HBx : Hid (Bx1 W1 w.heap.size (.slice none 0 0) ∧ Below w.heap.size w W1) := ⟨bR, hb1⟩
  obtain ⟨D, hD⟩ : ∃ D, w.heap.size = D := ⟨_, rfl⟩
  have HD : Hid (w.heap.size = D) := hD
  rw [hD] at HBx HL
  clear hin hsh hl HFour bR hb1 hB
  unfold ze8
  unfold ze8 at HL
  generalize zbb os = res at HL ⊢
  generalize zaM os = rv at HL ⊢
  go_enter Tryz.func9, Tryz.ntmps9
  go_wp2_with fail
  refine Calls.mono HOkC.out ?_
  rintro e w1 ⟨rfl, hbn⟩
  have bR := HBx.out.1.below hbn
  have hbb : Below D w w1 := HBx.out.2.trans (hbn.mono (by have := HBx.out.2.size; have := HBx.out.1.lt; omega))
  have HC2 : Hid (_) := HL.out w1 hbb
  have HB1 : Hid (Bx1 w1 D (.slice none 0 0) ∧ Below D w w1) := ⟨bR, hbb⟩
  clear HOkC HL bR hbb hbn
  go_wp2_with fail
  refine Calls.mono HC2.out ?_
  rintro e w2 ⟨v, xs, rfl, hxs, hrt, hb2⟩
  have bD := HB1.out.1.below hb2
  have hlt := HB1.out.1.lt
  have hg := zaB w2 D 0 v
  obtain ⟨vf, rfl⟩ : ∃ vf, v = vf := ⟨v, rfl⟩
  have HO : Hid (za7 (w2.setCell ⟨D, 0, none⟩ v) D v xs ∧ Below D w (w2.setCell ⟨D, 0, none⟩ v)) := by
   have hs1 := HB1.out.2.size
   have hbz := HB1.out.2.trans (hb2.mono (by omega))
   exact ⟨za7.base ⟨zaV hrt.row hlt hg, fun x hx => zaV (hrt.trees x hx) hlt hg⟩ (by omega), hbz.grown hg (by have := hb2.size; have := HD.out; omega) (fun q e => by injection e with e; omega)⟩
  obtain ⟨av, cv, rfl⟩ := zaO hrt.row
  have d0c := bD.c
  have d0f := bD.f
  have k0 := (bD.set (.slice av xs.length cv)).c
  obtain ⟨Z, hZ⟩ : ∃ Z, w2.setCell ⟨D, 0, none⟩ (.slice av xs.length cv) = Z := ⟨_, rfl⟩
  rw [hZ] at HO k0
  have HXS : Hid (xs.map (·.1) = rv) := hxs
  have HOx : Hid (∃ (v : Value) (xs2 : List RV), Ending.returned (.tuple #[.agg #[.slice av xs.length cv], .int .i64 res]) = .returned (.tuple #[.agg #[v], .int .i64 res]) ∧ xs2.map (·.1) = rv ∧ za7 Z D v xs2 ∧ Below D w Z) := ⟨_, xs, rfl, HXS.out, HO.out.1, HO.out.2⟩
  clear hrt hb2 bD hg HC2 HB1 hxs HO HXS
  generalize xs.length = nx at HOx k0 hZ ⊢
  go_wp2
  refine bodyPost_ret (v := .tuple #[.agg #[.slice av nx cv], .int .i64 res]) (by simp [results, Tryz.results9, go_sem, k0]) rfl ?_
  obtain ⟨v, xs2, h1, h2, h3, h4⟩ := HOx.out
  first | exact ⟨v, xs2, h1, h2, h3, h4⟩ | exact ⟨v, h1, xs2, h2, h3, h4⟩ | (rw [← HD.out] at h3 h4; exact ⟨v, xs2, h1, h2, h3, h4⟩)
end Go.Proofs.YtenaaneckobdpaaGreat
