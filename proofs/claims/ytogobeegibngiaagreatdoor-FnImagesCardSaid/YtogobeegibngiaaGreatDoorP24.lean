/-
  Parts of one proof, one behind the other: ImgS3.
-/
import Derived.Test.YtogobeegibngiaaGreatDoorP23
import Derived.Test.YtogobeegibngiaaGreatDoorP2
import Derived.Test.YtogobeegibngiaaGreatDoorP16
import Derived.Deep.RegionHeld
import Derived.RegionTactic

/-! The contracts of chapter 14's specification: l14Show, ShowImage. -/
namespace Go.Proofs.YtogobeegibngiaaGreatDoor
open Go.RowKit

/-- A line with its end. -/
def lineR (x : List UInt8) : List UInt8 := x ++ [10]
theorem termJ_appR (x y : List (List UInt8)) : termJ (x ++ y) = termJ x ++ termJ y := by simp [termJ]
theorem showI_app (x y : List Rt) : showI (x ++ y) = showI x ++ showI y := by simp [showI, imLines, termJ]
theorem showI_one (r : Rt) : showI [r] = lineR (rtLn r) ++ termJ (r.2.2.map insLn) := by simp [showI, imLines, rtLines, termJ, lineR]
theorem showI_snoc (rs : List Rt) (k : Nat) (hk : k < rs.length) : showI (rs.take (k + 1)) = showI (rs.take k) ++ lineR (rtLn (rs.getD k rt0)) ++ termJ ((rs.getD k rt0).2.2.map insLn) := by
  have e : rs.getD k rt0 = rs[k] := by rw [List.getD_eq_getElem?_getD, List.getElem?_eq_getElem hk]; rfl
  rw [e, List.take_succ_eq_append_getElem hk, showI_app, showI_one, List.append_assoc]
theorem showI_le (rs : List Rt) (k : Nat) : (showI (rs.take k)).length ≤ (showI rs).length := by
  have h := congrArg List.length (showI_app (rs.take k) (rs.drop k))
  rw [List.take_append_drop, List.length_append] at h
  omega
theorem insJ_snoc (c : List In13) (q : Nat) (hq : q < c.length) : termJ ((c.take (q + 1)).map insLn) = termJ ((c.take q).map insLn) ++ lineR (insLn (c.getD q in0)) := by
  have e : c.getD q in0 = c[q] := by rw [List.getD_eq_getElem?_getD, List.getElem?_eq_getElem hq]; rfl
  rw [e, List.take_succ_eq_append_getElem hq, List.map_append, termJ_appR]
  simp [termJ, lineR]
theorem insJ_le (c : List In13) (q : Nat) : (termJ ((c.take q).map insLn)).length ≤ (termJ (c.map insLn)).length := by
  have h := congrArg List.length (termJ_appR ((c.take q).map insLn) ((c.drop q).map insLn))
  rw [← List.map_append, List.take_append_drop, List.length_append] at h
  omega
theorem RowW.none (w : World) : RowW (w.alloc (.cells #[] 5)) w.heap.size w.heap.size 0 [] :=
  ⟨⟨Nat.le_refl _, by simp, Nat.le_refl _, Nat.zero_le _, fun j hj => by simp at hj, fun j hj => by simp at hj⟩, fun j hj => by omega⟩

/-- What l14Show holds of a routine: its box at F, the row of bytes at g. -/
structure Sh14 (w X : World) (D F g cp : Nat) (l s : List UInt8) (n : Int) (cv : Value) : Prop where
  c0 : X.cell? ⟨F, 0, none⟩ = some (.string ⟨s.toArray⟩)
  c1 : X.cell? ⟨F, 1, none⟩ = some (.int .i64 n)
  c2 : X.cell? ⟨F, 2, none⟩ = some cv
  ne : g ≠ F
  row : RowW X D g cp l
  b : Below D w X
  bs : D ≤ X.heap.size
section
variable {w X Y : World} {D F g cp : Nat} {l s : List UInt8} {n : Int} {cv : Value}
theorem Sh14.lt (h : Sh14 w X D F g cp l s n cv) : F < X.heap.size := World.block_lt_of_cell? X ⟨F, 0, none⟩ h.c0
theorem Sh14.below (h : Sh14 w X D F g cp l s n cv) (hb : Below X.heap.size X Y) : Sh14 w Y D F g cp l s n cv :=
  ⟨(hb.cell (p := ⟨F, 0, none⟩) h.lt).trans h.c0, (hb.cell (p := ⟨F, 1, none⟩) h.lt).trans h.c1, (hb.cell (p := ⟨F, 2, none⟩) h.lt).trans h.c2, h.ne, h.row.below hb, h.b.trans (hb.mono h.bs), Nat.le_trans h.bs hb.size⟩
theorem Sh14.drew (h : Sh14 w X D F g cp l s n cv) : Sh14 w X.drew D F g cp l s n cv := h.below ⟨rfl, rfl, rfl, Nat.le_refl _, fun _ _ => rfl⟩
/-- One more line. -/
theorem Sh14.line (h : Sh14 w X D F g cp l s n cv) (x : List UInt8) (hx : l.length + x.length ≤ 4194304) :
    ∃ g' cp' Y, (Builtin.append_ #[22, 9] 22 #[.slice (some ⟨g, 0, none⟩) l.length cp, .string ⟨x.toArray⟩]).run Tryz.prog X = .ok (.slice (some ⟨g', 0, none⟩) (l ++ x).length cp') Y ∧ Sh14 w Y D F g' cp' (l ++ x) s n cv ∧ X.grownBy Y (some g) := by
  obtain ⟨g', cp', Y, hrun, hrow, hg, hat⟩ := h.row.append_at x hx h.bs 22
  have hbk := hg.block F h.lt (by intro e; injection e with e; exact h.ne e.symm)
  have hgD := h.row.row.new
  refine ⟨g', cp', Y, hrun, ⟨(World.cell?_of_block (a := ⟨F, 0, none⟩) hbk).trans h.c0, (World.cell?_of_block (a := ⟨F, 1, none⟩) hbk).trans h.c1, (World.cell?_of_block (a := ⟨F, 2, none⟩) hbk).trans h.c2, ?_, hrow, h.b.grown hg h.bs (fun q e => by injection e with e; omega), Nat.le_trans h.bs hg.size⟩, hg⟩
  rcases hat with e | e
  · rw [e]; exact h.ne
  · have := h.lt; omega
end
/-- And of an instruction: its box at G. -/
structure Si14 (w X : World) (D F G g cp : Nat) (l s : List UInt8) (n : Int) (cv : Value) (kd R A Bq : Int) : Prop where
  h : Sh14 w X D F g cp l s n cv
  i0 : X.cell? ⟨G, 0, none⟩ = some (.int .i64 kd)
  i1 : X.cell? ⟨G, 1, none⟩ = some (.int .i64 R)
  i2 : X.cell? ⟨G, 2, none⟩ = some (.int .i64 A)
  i3 : X.cell? ⟨G, 3, none⟩ = some (.int .i64 Bq)
section
variable {w X Y : World} {D F G g cp : Nat} {l s : List UInt8} {n : Int} {cv : Value} {kd R A Bq : Int}
theorem Si14.below (t : Si14 w X D F G g cp l s n cv kd R A Bq) (hb : Below X.heap.size X Y) : Si14 w Y D F G g cp l s n cv kd R A Bq :=
  have hl : G < X.heap.size := World.block_lt_of_cell? X ⟨G, 0, none⟩ t.i0
  ⟨t.h.below hb, (hb.cell (p := ⟨G, 0, none⟩) hl).trans t.i0, (hb.cell (p := ⟨G, 1, none⟩) hl).trans t.i1, (hb.cell (p := ⟨G, 2, none⟩) hl).trans t.i2, (hb.cell (p := ⟨G, 3, none⟩) hl).trans t.i3⟩
/-- What is asked of it behind its last line: that it can still be read. -/
theorem Si14.after {g' cp' : Nat} {l' : List UInt8} (t : Si14 w X D F G g cp l s n cv kd R A Bq) (h : Sh14 w Y D F g' cp' l' s n cv) (hb : Y.heap[G]? = X.heap[G]?) : Si14 w Y D F G g' cp' l' s n cv kd R A Bq :=
  ⟨h, (World.cell?_of_block (a := ⟨G, 0, none⟩) hb).trans t.i0, (World.cell?_of_block (a := ⟨G, 1, none⟩) hb).trans t.i1, (World.cell?_of_block (a := ⟨G, 2, none⟩) hb).trans t.i2, (World.cell?_of_block (a := ⟨G, 3, none⟩) hb).trans t.i3⟩
theorem Si14.set4 (t : Si14 w X D F G g cp l s n cv kd R A Bq) (hg : g ≠ G) (hF : F ≠ G) (hD : D ≤ G) (u : Value) : Si14 w (X.setCell ⟨G, 4, none⟩ u) D F G g cp l s n cv kd R A Bq := by
  have h := grown_set X G 4 u
  have hbk := h.block F t.h.lt (by intro e; injection e with e; exact hF e)
  refine ⟨⟨(World.cell?_of_block (a := ⟨F, 0, none⟩) hbk).trans t.h.c0, (World.cell?_of_block (a := ⟨F, 1, none⟩) hbk).trans t.h.c1, (World.cell?_of_block (a := ⟨F, 2, none⟩) hbk).trans t.h.c2, t.h.ne, t.h.row.kept h (by intro e; injection e with e; exact hg e), t.h.b.grown h t.h.bs (fun q e => by injection e with e; omega), Nat.le_trans t.h.bs h.size⟩, ?_, ?_, ?_, ?_⟩
  · exact (World.cell?_setCell_other _ _ _ _ (by simp)).trans t.i0
  · exact (World.cell?_setCell_other _ _ _ _ (by simp)).trans t.i1
  · exact (World.cell?_setCell_other _ _ _ _ (by simp)).trans t.i2
  · exact (World.cell?_setCell_other _ _ _ _ (by simp)).trans t.i3
theorem Si14.drew (t : Si14 w X D F G g cp l s n cv kd R A Bq) : Si14 w X.drew D F G g cp l s n cv kd R A Bq := t.below ⟨rfl, rfl, rfl, Nat.le_refl _, fun _ _ => rfl⟩
end

set_option maxHeartbeats 8000000 in
set_option maxRecDepth 100000 in
theorem specShowIR (a : Option Addr) (len cap : Nat) (rs : List Rt) (w : World) (hin : RtsIn w a len rs) (hrt : ∀ r ∈ rs, rtB r = true) (h64 : rs.length ≤ 64) :
    Calls Tryz.prog 25 #[.slice a len cap] w fun e w' => e = .returned (.string ⟨(showI rs).toArray⟩) ∧ Below w.heap.size w w' := by
  obtain rfl : rs.length = len := hin.1
  have HLen : Hid ((showI rs).length ≤ 400000) := by
    have h1 := showI_len' rs hrt
    exact (by unfold showI; omega : (showI rs).length ≤ 400000)
  have HRt : Hid (∀ k, k < rs.length → rtB (rs.getD k rt0) = true) := fun k hk => hrt _ (by rw [List.getD_eq_getElem?_getD, List.getElem?_eq_getElem hk]; exact List.getElem_mem hk)
  have HSn : Hid (∀ k, k < rs.length → showI (rs.take (k + 1)) = showI (rs.take k) ++ lineR (rtLn (rs.getD k rt0)) ++ termJ ((rs.getD k rt0).2.2.map insLn)) := fun k hk => showI_snoc rs k hk
  have HLe : Hid (∀ k, (showI (rs.take k)).length ≤ 400000) := fun k => Nat.le_trans (showI_le rs k) HLen.out
  have HAll : Hid (∀ k, rs.length ≤ k → showI (rs.take k) = showI rs) := fun k hk => by rw [List.take_of_length_le hk]
  obtain ⟨W, hW⟩ : ∃ W, w.alloc (.cells #[] 5) = W := ⟨_, rfl⟩
  have hB0 : Below w.heap.size w W := by rw [← hW]; exact (Below.refl _ _).alloc (Nat.le_refl _) _
  have hR0 := RowW.none w
  rw [hW] at hR0
  have HQ : Hid (∀ k, k < rs.length → ∃ b off ca cl cc, a = some ⟨b, off, none⟩ ∧ b < w.heap.size ∧ (rs.getD k rt0).2.2.length = cl ∧ ∀ V, Below w.heap.size w V → V.cell? ⟨b, off + k * 3, none⟩ = some (.string ⟨(rs.getD k rt0).1.toArray⟩) ∧ V.cell? ⟨b, off + k * 3 + 1, none⟩ = some (.int .i64 (rs.getD k rt0).2.1) ∧ V.cell? ⟨b, off + k * 3 + 2, none⟩ = some (.slice ca cl cc) ∧ InsIn V ca cl (rs.getD k rt0).2.2) := fun k hk => by
    obtain ⟨b, off, e, hbl, c0, c1, ca, cl, cc, c2, hni⟩ := hin.2 k hk
    exact ⟨b, off, ca, cl, cc, e, hbl, hni.1, fun V hV => ⟨(hV.cell (p := ⟨b, off + k * 3, none⟩) hbl).trans c0, (hV.cell (p := ⟨b, off + k * 3 + 1, none⟩) hbl).trans c1, (hV.cell (p := ⟨b, off + k * 3 + 2, none⟩) hbl).trans c2, hni.below hV⟩⟩
  obtain ⟨D, hD⟩ : ∃ D, w.heap.size = D := ⟨_, rfl⟩
  rw [hD] at hB0 hR0 HQ
  have HR0 : Hid (RowW W D D 0 []) := hR0
  have HB0 : Hid (Below D w W) := hB0
  have HD : Hid (w.heap.size = D) := hD
  obtain ⟨n, hn⟩ : ∃ n, rs.length = n := ⟨_, rfl⟩
  rw [hn] at HRt h64 HSn HQ HAll ⊢
  clear hin hrt hB0 hR0 hn HLen
  go_enter Tryz.func25, Tryz.ntmps25
  go_wp2
  go_loopw [3, 4] (fun v i wr => ∃ (k g cp : Nat) (l : List UInt8), k ≤ n ∧ i = .int .i64 k ∧ v = .slice (some ⟨g, 0, none⟩) l.length cp ∧ Hid (l = showI (rs.take k)) ∧ Hid (RowW wr D g cp l) ∧ Hid (Below D w wr)) (fun _ i _ => n - (intOf i).toNat)
  case atStart => exact ⟨0, D, 0, [], Nat.zero_le _, rfl, rfl, rfl, HR0, HB0⟩
  case round =>
    obtain ⟨k, g, cp, l, hk, rfl, rfl, HL, HRw, HBl⟩ := hrel
    clear HR0 HB0 hW
    by_cases hkl : (k : Int) < (n : Int)
    · obtain ⟨b, off, ca, cl, cc, rfl, hbl, hcl, hq⟩ := HQ.out k (by omega)
      obtain ⟨c0, c1, c2, -⟩ := hq _ HBl.out
      have hrt := HRt.out k (by omega)
      have hsk := HSn.out k (by omega)
      have hle := HLe.out (k + 1)
      rw [hsk, ← HL.out] at hle
      rw [← HL.out] at hsk
      have HIn : Hid (∀ V, Below D w V → InsIn V ca cl (rs.getD k rt0).2.2) := fun V hV => (hq V hV).2.2.2
      obtain ⟨r, hr⟩ : ∃ r, rs.getD k rt0 = r := ⟨_, rfl⟩
      rw [hr] at c0 c1 hrt hsk hle HIn hcl
      obtain ⟨s, na, c⟩ := r
      simp only at c0 c1 HIn hcl
      have hll := rtLn_len hrt
      obtain ⟨hnm, hna, hco, -⟩ := rtB_parts hrt
      simp only at hnm hna hco
      have hl17 := (name13_len hnm).2
      have hc200 := codeB_len hco
      have HIp : Hid (∀ i ∈ c, insP i) := codeB_ins hco
      have HSk : Hid (showI (rs.take (k + 1)) = l ++ lineR (rtLn (s, na, c)) ++ termJ (c.map insLn)) := hsk
      have HLn : Hid ((l ++ lineR (rtLn (s, na, c)) ++ termJ (c.map insLn)).length ≤ 400000) := hle
      have hl0 : l.length + (lineR (rtLn (s, na, c))).length ≤ 400000 := by rw [List.length_append, List.length_append] at hle; omega
      have HJl : Hid (∀ q, (termJ ((c.take q).map insLn)).length ≤ (termJ (c.map insLn)).length) := fun q => insJ_le c q
      have HJs : Hid (∀ q, q < c.length → termJ ((c.take (q + 1)).map insLn) = termJ ((c.take q).map insLn) ++ lineR (insLn (c.getD q in0))) := fun q hq => insJ_snoc c q hq
      have HJa : Hid (∀ q, c.length ≤ q → termJ ((c.take q).map insLn) = termJ (c.map insLn)) := fun q hq => by rw [List.take_of_length_le hq]
      obtain ⟨A1, hA1⟩ : ∃ A, kwRt ++ [32] ++ s = A := ⟨_, rfl⟩
      obtain ⟨A2, hA2⟩ : ∃ A, A1 ++ [32] = A := ⟨_, rfl⟩
      obtain ⟨A3, hA3⟩ : ∃ A, A2 ++ intL na = A := ⟨_, rfl⟩
      obtain ⟨A4, hA4⟩ : ∃ A, A3 ++ [32] = A := ⟨_, rfl⟩
      obtain ⟨A5, hA5⟩ : ∃ A, A4 ++ intL (cl : Int) = A := ⟨_, rfl⟩
      have hA6 : rtLn (s, na, c) = A5 := by rw [← hA5, ← hA4, ← hA3, ← hA2, ← hA1, ← hcl]; rfl
      rw [hA6] at hll hl0 HSk HLn
      have l4 : A4.length + (intL (cl : Int)).length ≤ 32 := by rw [← List.length_append, hA5]; exact hll
      have l3 : A3.length + 1 ≤ 32 := by have := congrArg List.length hA4; simp at this; omega
      have l2 : A2.length + (intL na).length ≤ 32 := by have := congrArg List.length hA3; rw [List.length_append] at this; omega
      have l1 : A1.length + 1 ≤ 32 := by have := congrArg List.length hA2; simp at this; omega
      have e1 : ∀ X : World, (Op.stringOp .add ⟨#[114, 111, 117, 116, 105, 110, 101, 32]⟩ ⟨s.toArray⟩).run Tryz.prog X = .ok (.string ⟨A1.toArray⟩) X := fun X => by rw [← hA1]; exact run_string_add_lists (P := Tryz.prog) X [114, 111, 117, 116, 105, 110, 101, 32] s (by simp) (by omega)
      have e2 : ∀ X : World, (Op.stringOp .add ⟨A1.toArray⟩ ⟨#[32]⟩).run Tryz.prog X = .ok (.string ⟨A2.toArray⟩) X := fun X => by rw [← hA2]; exact run_string_add_lists (P := Tryz.prog) X A1 [32] (by omega) (by simp)
      have e3 : ∀ X : World, (Op.stringOp .add ⟨A2.toArray⟩ ⟨(intL na).toArray⟩).run Tryz.prog X = .ok (.string ⟨A3.toArray⟩) X := fun X => by rw [← hA3]; exact run_string_add_lists (P := Tryz.prog) X A2 (intL na) (by omega) (by omega)
      have e4 : ∀ X : World, (Op.stringOp .add ⟨A3.toArray⟩ ⟨#[32]⟩).run Tryz.prog X = .ok (.string ⟨A4.toArray⟩) X := fun X => by rw [← hA4]; exact run_string_add_lists (P := Tryz.prog) X A3 [32] (by omega) (by simp)
      have e5 : ∀ X : World, (Op.stringOp .add ⟨A4.toArray⟩ ⟨(intL (cl : Int)).toArray⟩).run Tryz.prog X = .ok (.string ⟨A5.toArray⟩) X := fun X => by rw [← hA5]; exact run_string_add_lists (P := Tryz.prog) X A4 (intL (cl : Int)) (by omega) (by omega)
      have e6 : ∀ X : World, (Op.stringOp .add ⟨A5.toArray⟩ ⟨#[10]⟩).run Tryz.prog X = .ok (.string ⟨(lineR A5).toArray⟩) X := fun X => run_string_add_lists (P := Tryz.prog) X A5 [10] (by omega) (by simp)
      have H7 : Hid (∀ X : World, Calls Tryz.prog 41 #[.int .i64 na] X fun e w' => e = .returned (.string ⟨(intL na).toArray⟩) ∧ Below X.heap.size X w') := fun X => specInt na X (by omega) (by omega)
      have H13 : Hid (∀ X : World, Calls Tryz.prog 41 #[.int .i64 (cl : Int)] X fun e w' => e = .returned (.string ⟨(intL (cl : Int)).toArray⟩) ∧ Below X.heap.size X w') := fun X => specInt (cl : Int) X (by omega) (by omega)
      have hbs : D ≤ wr.heap.size := by have := HBl.out.size; rw [HD.out] at this; exact this
      have hneF : g ≠ wr.heap.size := by have := HRw.out.row.there; omega
      obtain ⟨V, hV⟩ : ∃ V, wr.alloc (.cells #[.string ⟨s.toArray⟩, .int .i64 na, .slice ca cl cc] 50) = V := ⟨_, rfl⟩
      have hbV : Below wr.heap.size wr V := by rw [← hV]; exact (Below.refl _ _).alloc (Nat.le_refl _) _
      have hVF : V.heap[wr.heap.size]? = some (.cells #[.string ⟨s.toArray⟩, .int .i64 na, .slice ca cl cc] 50) := by rw [← hV]; exact heap_alloc_new wr _
      have sv0 : Sh14 w V D wr.heap.size g cp l s na (.slice ca cl cc) := ⟨by simp [World.cell?, hVF], by simp [World.cell?, hVF], by simp [World.cell?, hVF], hneF, HRw.out.below hbV, HBl.out.trans (hbV.mono hbs), Nat.le_trans hbs hbV.size⟩
      obtain ⟨F, hF⟩ : ∃ F, wr.heap.size = F := ⟨_, rfl⟩
      rw [hF] at sv0
      have sv : Hid (Sh14 w V D F g cp l s na (.slice ca cl cc)) := sv0
      have hl5 : l.length + (lineR A5).length ≤ 4194304 := by omega
      have hc2 : cl ≤ 200 := by omega
      have HCl : Hid (c.length = cl) := hcl
      clear hq hrt hsk hle hr hll hnm hna hco hl17 hc200 hA1 hA2 hA3 hA4 hA5 hA6 l1 l2 l3 l4 hneF hbV hVF sv0 HRw hbs hl0 HL hcl
      go_wp2
      clear c0 c1 c2 hV hF hbl HBl
      refine wp_region_held_drew (S := fun X => ∃ g2 cp2 l2, Sh14 w X D F g2 cp2 l2 s na (.slice ca cl cc)) (by kernel_rfl) ⟨_, _, _, sv.out.drew⟩ (fun hHeld => ?_)
      refine wpAnyH_take (i := 0) (oi := ⟨some 20, _, _, _, _, _⟩) (v := ?v1) rfl (by kernel_rfl) (by kernel_rfl) (by kernel_rfl) (fun _ _ _ h => h) (Or.inl ⟨by rfl, ?hy1⟩) (by assumption) ?rest1
      case hy1 => (intro wq hSw; obtain ⟨_, _, _, hSx⟩ := hSw; have q0 := hSx.c0; have q1 := hSx.c1; have q2 := hSx.c2; clear hSx; first | (go_simp; done) | (go_simp; with_reducible rfl))
      simp only [Act.put, List.setIfInBounds_toArray, List.set_cons_zero, List.set_cons_succ]
      refine wpAnyH_take (i := 1) (oi := ⟨some 21, _, _, _, _, _⟩) (v := ?v2) rfl (by kernel_rfl) (by kernel_rfl) (by kernel_rfl) (fun _ _ _ h => h) (Or.inl ⟨by rfl, ?hy2⟩) (by assumption) ?rest2
      case hy2 => (intro wq hSw; obtain ⟨_, _, _, hSx⟩ := hSw; have q0 := hSx.c0; have q1 := hSx.c1; have q2 := hSx.c2; clear hSx; first | (go_simp; done) | (go_simp; with_reducible rfl))
      simp only [Act.put, List.setIfInBounds_toArray, List.set_cons_zero, List.set_cons_succ]
      refine wpAnyH_take (i := 2) (oi := ⟨some 22, _, _, _, _, _⟩) (v := ?v3) rfl (by kernel_rfl) (by kernel_rfl) (by kernel_rfl) (fun _ _ _ h => h) (Or.inl ⟨by rfl, ?hy3⟩) (by assumption) ?rest3
      case hy3 => (intro wq hSw; obtain ⟨_, _, _, hSx⟩ := hSw; have q0 := hSx.c0; have q1 := hSx.c1; have q2 := hSx.c2; clear hSx; first | (go_simp; done) | (go_simp; with_reducible rfl))
      simp only [Act.put, List.setIfInBounds_toArray, List.set_cons_zero, List.set_cons_succ]
      refine wpAnyH_take (i := 3) (oi := ⟨some 23, _, _, _, _, _⟩) (v := ?v4) rfl (by kernel_rfl) (by kernel_rfl) (by kernel_rfl) (fun _ _ _ h => h) (Or.inl ⟨by rfl, ?hy4⟩) (by assumption) ?rest4
      case hy4 => (intro wq hSw; obtain ⟨_, _, _, hSx⟩ := hSw; have q0 := hSx.c0; have q1 := hSx.c1; have q2 := hSx.c2; clear hSx; first | (go_simp; done) | (go_simp; with_reducible rfl))
      simp only [Act.put, List.setIfInBounds_toArray, List.set_cons_zero, List.set_cons_succ]
      refine wpAnyH_take (i := 4) (oi := ⟨some 24, _, _, _, _, _⟩) (v := ?v5) rfl (by kernel_rfl) (by kernel_rfl) (by kernel_rfl) (fun _ _ _ h => h) (Or.inl ⟨by rfl, ?hy5⟩) (by assumption) ?rest5
      case hy5 => (intro wq hSw; obtain ⟨_, _, _, hSx⟩ := hSw; have q0 := hSx.c0; have q1 := hSx.c1; have q2 := hSx.c2; clear hSx; first | (go_simp; done) | (go_simp; with_reducible rfl))
      simp only [Act.put, List.setIfInBounds_toArray, List.set_cons_zero, List.set_cons_succ]
      refine wpAnyH_take (i := 5) (oi := ⟨some 25, _, _, _, _, _⟩) (v := ?v6) rfl (by kernel_rfl) (by kernel_rfl) (by kernel_rfl) (fun _ _ _ h => h) (Or.inl ⟨by rfl, ?hy6⟩) (by assumption) ?rest6
      case hy6 => (intro wq hSw; obtain ⟨_, _, _, hSx⟩ := hSw; have q0 := hSx.c0; have q1 := hSx.c1; have q2 := hSx.c2; clear hSx; first | (go_simp; done) | (go_simp; with_reducible rfl))
      simp only [Act.put, List.setIfInBounds_toArray, List.set_cons_zero, List.set_cons_succ]
      refine wpAnyH_take (i := 6) (oi := ⟨some 26, _, _, _, _, _⟩) (v := ?v7) rfl (by kernel_rfl) (by kernel_rfl) (by kernel_rfl) (fun _ _ _ h => h) (Or.inl ⟨by rfl, ?hy7⟩) (by assumption) ?rest7
      case hy7 => (intro wq hSw; obtain ⟨_, _, _, hSx⟩ := hSw; have q0 := hSx.c0; have q1 := hSx.c1; have q2 := hSx.c2; clear hSx; first | (go_simp; done) | (go_simp; with_reducible rfl))
      simp only [Act.put, List.setIfInBounds_toArray, List.set_cons_zero, List.set_cons_succ]
      refine wpAnyH_take (i := 10) (oi := ⟨some 30, _, _, _, _, _⟩) (v := ?v8) rfl (by kernel_rfl) (by kernel_rfl) (by kernel_rfl) (fun _ _ _ h => h) (Or.inl ⟨by rfl, ?hy8⟩) (by assumption) ?rest8
      case hy8 => (intro wq hSw; obtain ⟨_, _, _, hSx⟩ := hSw; have q0 := hSx.c0; have q1 := hSx.c1; have q2 := hSx.c2; clear hSx; first | (go_simp; done) | (go_simp; with_reducible rfl))
      simp only [Act.put, List.setIfInBounds_toArray, List.set_cons_zero, List.set_cons_succ]
      refine wpAnyH_take (i := 11) (oi := ⟨some 31, _, _, _, _, _⟩) (v := ?v9) rfl (by kernel_rfl) (by kernel_rfl) (by kernel_rfl) (fun _ _ _ h => h) (Or.inl ⟨by rfl, ?hy9⟩) (by assumption) ?rest9
      case hy9 => (intro wq hSw; obtain ⟨_, _, _, hSx⟩ := hSw; have q0 := hSx.c0; have q1 := hSx.c1; have q2 := hSx.c2; clear hSx; first | (go_simp; done) | (go_simp; with_reducible rfl))
      simp only [Act.put, List.setIfInBounds_toArray, List.set_cons_zero, List.set_cons_succ]
      refine wpAnyH_take (i := 12) (oi := ⟨some 32, _, _, _, _, _⟩) (v := ?v10) rfl (by kernel_rfl) (by kernel_rfl) (by kernel_rfl) (fun _ _ _ h => h) (Or.inl ⟨by rfl, ?hy10⟩) (by assumption) ?rest10
      case hy10 => (intro wq hSw; obtain ⟨_, _, _, hSx⟩ := hSw; have q0 := hSx.c0; have q1 := hSx.c1; have q2 := hSx.c2; clear hSx; first | (go_simp; done) | (go_simp; with_reducible rfl))
      simp only [Act.put, List.setIfInBounds_toArray, List.set_cons_zero, List.set_cons_succ]
      have sx := sv.out.drew
      refine wpAnyH_ready (rs := [7]) (by kernel_rfl) (by simp) ?_
      refine AllReadyH.cons rfl (fun K hK => ?_) AllReadyH.nil
      go_simp
      refine Calls.mono (H7.out _) ?_
      rintro e W7 ⟨rfl, hb7⟩
      dsimp only
      replace sx := sx.below hb7
      clear hb7
      refine hK.out _ _ (by exact ⟨_, _, _, sx⟩) (fun hHeld => ?_)
      clear hK K
      (try simp only [Act.put, List.setIfInBounds_toArray, List.set_cons_zero, List.set_cons_succ])
      refine wpAnyH_take (i := 8) (oi := ⟨some 28, _, _, _, _, _⟩) (v := ?v11) rfl (by kernel_rfl) (by kernel_rfl) (by kernel_rfl) (fun _ _ _ h => h) (Or.inl ⟨by rfl, ?hy11⟩) (by assumption) ?rest11
      case hy11 => (intro wq hSw; obtain ⟨_, _, _, hSx⟩ := hSw; have q0 := hSx.c0; have q1 := hSx.c1; have q2 := hSx.c2; clear hSx; first | (go_simp; done) | (go_simp; with_reducible rfl))
      simp only [Act.put, List.setIfInBounds_toArray, List.set_cons_zero, List.set_cons_succ]
      refine wpAnyH_take (i := 9) (oi := ⟨some 29, _, _, _, _, _⟩) (v := ?v12) rfl (by kernel_rfl) (by kernel_rfl) (by kernel_rfl) (fun _ _ _ h => h) (Or.inl ⟨by rfl, ?hy12⟩) (by assumption) ?rest12
      case hy12 => (intro wq hSw; obtain ⟨_, _, _, hSx⟩ := hSw; have q0 := hSx.c0; have q1 := hSx.c1; have q2 := hSx.c2; clear hSx; first | (go_simp; done) | (go_simp; with_reducible rfl))
      simp only [Act.put, List.setIfInBounds_toArray, List.set_cons_zero, List.set_cons_succ]
      refine wpAnyH_ready (rs := [13]) (by kernel_rfl) (by simp) ?_
      refine AllReadyH.cons rfl (fun K hK => ?_) AllReadyH.nil
      go_simp
      refine Calls.mono (H13.out _) ?_
      rintro e W13 ⟨rfl, hb13⟩
      dsimp only
      replace sx := sx.below hb13
      clear hb13
      refine hK.out _ _ (by exact ⟨_, _, _, sx⟩) (fun hHeld => ?_)
      clear hK K
      (try simp only [Act.put, List.setIfInBounds_toArray, List.set_cons_zero, List.set_cons_succ])
      refine wpAnyH_take (i := 14) (oi := ⟨some 34, _, _, _, _, _⟩) (v := ?v13) rfl (by kernel_rfl) (by kernel_rfl) (by kernel_rfl) (fun _ _ _ h => h) (Or.inl ⟨by rfl, ?hy13⟩) (by assumption) ?rest13
      case hy13 => (intro wq hSw; obtain ⟨_, _, _, hSx⟩ := hSw; have q0 := hSx.c0; have q1 := hSx.c1; have q2 := hSx.c2; clear hSx; first | (go_simp; done) | (go_simp; with_reducible rfl))
      simp only [Act.put, List.setIfInBounds_toArray, List.set_cons_zero, List.set_cons_succ]
      refine wpAnyH_take (i := 15) (oi := ⟨some 35, _, _, _, _, _⟩) (v := ?v14) rfl (by kernel_rfl) (by kernel_rfl) (by kernel_rfl) (fun _ _ _ h => h) (Or.inl ⟨by rfl, ?hy14⟩) (by assumption) ?rest14
      case hy14 => (intro wq hSw; obtain ⟨_, _, _, hSx⟩ := hSw; have q0 := hSx.c0; have q1 := hSx.c1; have q2 := hSx.c2; clear hSx; first | (go_simp; done) | (go_simp; with_reducible rfl))
      simp only [Act.put, List.setIfInBounds_toArray, List.set_cons_zero, List.set_cons_succ]
      obtain ⟨g8, cp8, W8, hrun8, s8, hg8⟩ := sx.line (lineR A5) hl5
      refine wpAnyH_ready (rs := [16]) (by kernel_rfl) (by simp) ?_
      refine AllReadyH.cons rfl (fun K hK => ?_) AllReadyH.nil
      refine step_append_str (by rfl) (.tmp 20) (.tmp 35) 22 9 (by rfl) _ _ _ (by rfl) (by rfl) hrun8 ?_
      refine hK.out _ _ (by exact ⟨_, _, _, s8⟩) (fun hHeld => ?_)
      clear hK K
      (try simp only [Act.put, List.setIfInBounds_toArray])
      refine wpAnyH_take (i := 17) (oi := ⟨some 3, _, _, _, _, _⟩) (v := ?v15) rfl (by kernel_rfl) (by kernel_rfl) (by kernel_rfl) (fun _ _ _ h => h) (Or.inl ⟨by rfl, ?hy15⟩) (by assumption) ?rest15
      case hy15 => (intro wq hSw; obtain ⟨_, _, _, hSx⟩ := hSw; have q0 := hSx.c0; have q1 := hSx.c1; have q2 := hSx.c2; clear hSx; first | (go_simp; done) | (go_simp; with_reducible rfl))
      simp only [Act.put]
      refine wpAnyH_done (by kernel_rfl) ?_ _
      obtain ⟨L0, hL0⟩ : ∃ L, l ++ lineR A5 = L := ⟨_, rfl⟩
      have HLl : Hid (L0.length = l.length + (lineR A5).length) := by exact (by rw [← hL0, List.length_append] : L0.length = l.length + (lineR A5).length)
      rw [hL0] at s8 HSk HLn
      (try rw [hL0])
      have S8 : Hid (Sh14 w W8 D F g8 cp8 L0 s na (.slice ca cl cc)) := s8
      clear hHeld sx s8 hrun8 hg8 hL0 e1 e2 e3 e4 e5 e6 H7 H13 sv hl5
      go_wp2
      go_loopw [3, 6] (fun v i wx => ∃ (q g cp : Nat) (l : List UInt8), q ≤ cl ∧ i = .int .i64 q ∧ v = .slice (some ⟨g, 0, none⟩) l.length cp ∧ Hid (l = L0 ++ termJ ((c.take q).map insLn)) ∧ Hid (Sh14 w wx D F g cp l s na (.slice ca cl cc))) (fun _ i _ => cl - (intOf i).toNat)
      case atStart => exact ⟨0, g8, cp8, L0, Nat.zero_le _, rfl, (by first | rfl | rw [HLl.out]), (by simp [termJ] : L0 = L0 ++ termJ ((c.take 0).map insLn)), S8⟩
      case round =>
        obtain ⟨q, g9, cp9, l9, hq, rfl, rfl, HL9, S9⟩ := hrel
        clear S8
        rename World => wx
        have k2 := S9.out.c2
        by_cases hql : (q : Int) < (cl : Int)
        · obtain ⟨b9, off9, rfl, hb9, x0, x1, x2, x3, x4⟩ := (HIn.out _ S9.out.b).2 q (by omega)
          have hip : insP (c.getD q in0) := HIp.out _ (by rw [List.getD_eq_getElem?_getD, List.getElem?_eq_getElem (by rw [HCl.out]; omega)]; exact List.getElem_mem _)
          have hjs := HJs.out q (by rw [HCl.out]; omega)
          have hjl := HJl.out (q + 1)
          have hln := HLn.out
          rw [List.length_append] at hln
          obtain ⟨i, hi⟩ : ∃ i, c.getD q in0 = i := ⟨_, rfl⟩
          rw [hi] at x0 x1 x2 x3 x4 hip hjs
          have hil := insLn_len hip
          obtain ⟨w0, w1, w2, w3⟩ := insP_words hip
          rw [hjs, List.length_append] at hjl
          have hl9 : l9.length + (lineR (insLn i)).length ≤ 4194304 := by
            have h9 := congrArg List.length HL9.out
            rw [List.length_append] at h9
            omega
          have HL10 : Hid (l9 ++ lineR (insLn i) = L0 ++ termJ ((c.take (q + 1)).map insLn)) := by exact (by rw [hjs, HL9.out, List.append_assoc] : l9 ++ lineR (insLn i) = L0 ++ termJ ((c.take (q + 1)).map insLn))
          obtain ⟨kd, R, A, Bq, nm⟩ := i
          simp only at x0 x1 x2 x3 x4 w0 w1 w2 w3
          obtain ⟨B1, hB1⟩ : ∃ A, intL kd ++ [32] = A := ⟨_, rfl⟩
          obtain ⟨B2, hB2⟩ : ∃ A, B1 ++ intL R = A := ⟨_, rfl⟩
          obtain ⟨B3, hB3⟩ : ∃ A, B2 ++ [32] = A := ⟨_, rfl⟩
          obtain ⟨B4, hB4⟩ : ∃ Z, B3 ++ intL A = Z := ⟨_, rfl⟩
          obtain ⟨B5, hB5⟩ : ∃ A, B4 ++ [32] = A := ⟨_, rfl⟩
          obtain ⟨B6, hB6⟩ : ∃ A, B5 ++ intL Bq = A := ⟨_, rfl⟩
          obtain ⟨B7, hB7⟩ : ∃ A, B6 ++ [32] = A := ⟨_, rfl⟩
          obtain ⟨B8, hB8⟩ : ∃ A, B7 ++ nmL nm = A := ⟨_, rfl⟩
          have hB9 : insLn (kd, R, A, Bq, nm) = B8 := by rw [← hB8, ← hB7, ← hB6, ← hB5, ← hB4, ← hB3, ← hB2, ← hB1]; rfl
          rw [hB9] at hil hl9 HL10
          have m8 : B7.length + (nmL nm).length ≤ 28 := by rw [← List.length_append, hB8]; exact hil
          have m7 : B6.length + 1 ≤ 28 := by have := congrArg List.length hB7; simp at this; omega
          have m6 : B5.length + (intL Bq).length ≤ 28 := by have := congrArg List.length hB6; rw [List.length_append] at this; omega
          have m5 : B4.length + 1 ≤ 28 := by have := congrArg List.length hB5; simp at this; omega
          have m4 : B3.length + (intL A).length ≤ 28 := by have := congrArg List.length hB4; rw [List.length_append] at this; omega
          have m3 : B2.length + 1 ≤ 28 := by have := congrArg List.length hB3; simp at this; omega
          have m2 : B1.length + (intL R).length ≤ 28 := by have := congrArg List.length hB2; rw [List.length_append] at this; omega
          have m1 : (intL kd).length + 1 ≤ 28 := by have := congrArg List.length hB1; simp at this; omega
          have f1 : ∀ X : World, (Op.stringOp .add ⟨(intL kd).toArray⟩ ⟨#[32]⟩).run Tryz.prog X = .ok (.string ⟨B1.toArray⟩) X := fun X => by rw [← hB1]; exact run_string_add_lists (P := Tryz.prog) X (intL kd) [32] (by omega) (by simp)
          have f2 : ∀ X : World, (Op.stringOp .add ⟨B1.toArray⟩ ⟨(intL R).toArray⟩).run Tryz.prog X = .ok (.string ⟨B2.toArray⟩) X := fun X => by rw [← hB2]; exact run_string_add_lists (P := Tryz.prog) X B1 (intL R) (by omega) (by omega)
          have f3 : ∀ X : World, (Op.stringOp .add ⟨B2.toArray⟩ ⟨#[32]⟩).run Tryz.prog X = .ok (.string ⟨B3.toArray⟩) X := fun X => by rw [← hB3]; exact run_string_add_lists (P := Tryz.prog) X B2 [32] (by omega) (by simp)
          have f4 : ∀ X : World, (Op.stringOp .add ⟨B3.toArray⟩ ⟨(intL A).toArray⟩).run Tryz.prog X = .ok (.string ⟨B4.toArray⟩) X := fun X => by rw [← hB4]; exact run_string_add_lists (P := Tryz.prog) X B3 (intL A) (by omega) (by omega)
          have f5 : ∀ X : World, (Op.stringOp .add ⟨B4.toArray⟩ ⟨#[32]⟩).run Tryz.prog X = .ok (.string ⟨B5.toArray⟩) X := fun X => by rw [← hB5]; exact run_string_add_lists (P := Tryz.prog) X B4 [32] (by omega) (by simp)
          have f6 : ∀ X : World, (Op.stringOp .add ⟨B5.toArray⟩ ⟨(intL Bq).toArray⟩).run Tryz.prog X = .ok (.string ⟨B6.toArray⟩) X := fun X => by rw [← hB6]; exact run_string_add_lists (P := Tryz.prog) X B5 (intL Bq) (by omega) (by omega)
          have f7 : ∀ X : World, (Op.stringOp .add ⟨B6.toArray⟩ ⟨#[32]⟩).run Tryz.prog X = .ok (.string ⟨B7.toArray⟩) X := fun X => by rw [← hB7]; exact run_string_add_lists (P := Tryz.prog) X B6 [32] (by omega) (by simp)
          have f8 : ∀ X : World, (Op.stringOp .add ⟨B7.toArray⟩ ⟨(nmL nm).toArray⟩).run Tryz.prog X = .ok (.string ⟨B8.toArray⟩) X := fun X => by rw [← hB8]; exact run_string_add_lists (P := Tryz.prog) X B7 (nmL nm) (by omega) (by omega)
          have f9 : ∀ X : World, (Op.stringOp .add ⟨B8.toArray⟩ ⟨#[10]⟩).run Tryz.prog X = .ok (.string ⟨(lineR B8).toArray⟩) X := fun X => run_string_add_lists (P := Tryz.prog) X B8 [10] (by omega) (by simp)
          have HI : Hid (∀ (z : Int), -2147483648 ≤ z ∧ z ≤ 2147483647 → ∀ X : World, Calls Tryz.prog 41 #[.int .i64 z] X fun e w' => e = .returned (.string ⟨(intL z).toArray⟩) ∧ Below X.heap.size X w') := fun z hz X => specInt z X (by omega) (by omega)
          have HW : Hid ((-2147483648 ≤ kd ∧ kd ≤ 2147483647) ∧ (-2147483648 ≤ R ∧ R ≤ 2147483647) ∧ (-2147483648 ≤ A ∧ A ≤ 2147483647) ∧ (-2147483648 ≤ Bq ∧ Bq ≤ 2147483647)) := ⟨w0, w1, w2, w3⟩
          have hbs9 := S9.out.bs
          have hneG : g9 ≠ wx.heap.size := by have := S9.out.row.row.there; omega
          obtain ⟨V, hV⟩ : ∃ V, wx.alloc (.cells #[.int .i64 kd, .int .i64 R, .int .i64 A, .int .i64 Bq, .string ⟨nm.toArray⟩] 56) = V := ⟨_, rfl⟩
          have hbV : Below wx.heap.size wx V := by rw [← hV]; exact (Below.refl _ _).alloc (Nat.le_refl _) _
          have hVG : V.heap[wx.heap.size]? = some (.cells #[.int .i64 kd, .int .i64 R, .int .i64 A, .int .i64 Bq, .string ⟨nm.toArray⟩] 56) := by rw [← hV]; exact heap_alloc_new wx _
          have t0 : Si14 w V D F wx.heap.size g9 cp9 l9 s na (.slice (some ⟨b9, off9, none⟩) cl cc) kd R A Bq := ⟨S9.out.below hbV, by simp [World.cell?, hVG], by simp [World.cell?, hVG], by simp [World.cell?, hVG], by simp [World.cell?, hVG]⟩
          have z4 : V.cell? ⟨wx.heap.size, 4, none⟩ = some (.string ⟨nm.toArray⟩) := by simp [World.cell?, hVG]
          have zf : V.frozen? ⟨wx.heap.size, 4, none⟩ = false := by simp [World.frozen?, hVG]
          have hFG : F ≠ wx.heap.size := by have := S9.out.lt; omega
          obtain ⟨G, hG⟩ : ∃ G, wx.heap.size = G := ⟨_, rfl⟩
          rw [hG] at t0 z4 zf hFG hbs9
          have HnG : Hid (g9 ≠ G) := by rw [← hG]; exact hneG
          have tv : Hid (Si14 w V D F G g9 cp9 l9 s na (.slice (some ⟨b9, off9, none⟩) cl cc) kd R A Bq) := t0
          clear hip hjs hjl hln hi hil w0 w1 w2 w3 hB1 hB2 hB3 hB4 hB5 hB6 hB7 hB8 hB9 m1 m2 m3 m4 m5 m6 m7 m8 hneG hbV hVG t0 S9 HL9
          by_cases hnm : nm = []
          · subst hnm
            replace hV : wx.alloc (.cells #[.int .i64 kd, .int .i64 R, .int .i64 A, .int .i64 Bq, .string ⟨#[]⟩] 56) = V := hV
            replace x4 : wx.cell? ⟨b9, off9 + q * 5 + 4, none⟩ = some (.string ⟨#[]⟩) := x4
            replace z4 : V.cell? ⟨G, 4, none⟩ = some (.string ⟨#[]⟩) := z4
            have tv2 : Hid (_) := tv.out.set4 HnG.out hFG hbs9 (.string ⟨#[]⟩)
            have z42 : (V.setCell ⟨G, 4, none⟩ (.string ⟨#[]⟩)).cell? ⟨G, 4, none⟩ = some (.string ⟨#[]⟩) := World.cell?_setCell_same _ _ _ z4
            obtain ⟨V2, hV2⟩ : ∃ V2, V.setCell ⟨G, 4, none⟩ (.string ⟨#[]⟩) = V2 := ⟨_, rfl⟩
            rw [hV2] at tv2 z42
            replace tv := tv2
            clear tv2
            replace f8 : ∀ X : World, (Op.stringOp .add ⟨B7.toArray⟩ ⟨#[45]⟩).run Tryz.prog X = .ok (.string ⟨B8.toArray⟩) X := f8
            go_wp2
            clear x0 x1 x2 x3 x4 hV hV2 z42 hG hb9 k2 z4 zf hbs9 hFG
            refine wp_region_held_drew (S := fun X => ∃ g2 cp2 l2, Si14 w X D F G g2 cp2 l2 s na (.slice (some ⟨b9, off9, none⟩) cl cc) kd R A Bq) (by kernel_rfl) ⟨_, _, _, tv.out.drew⟩ (fun hHeld => ?_)
            have sx := tv.out.drew
            refine wpAnyH_take (i := 0) (oi := ⟨some 53, _, _, _, _, _⟩) (v := ?v16) rfl (by kernel_rfl) (by kernel_rfl) (by kernel_rfl) (fun _ _ _ h => h) (Or.inl ⟨by rfl, ?hy16⟩) (by assumption) ?rest16
            case hy16 => (intro wq hSw; obtain ⟨_, _, _, hSx⟩ := hSw; have q0 := hSx.i0; have q1 := hSx.i1; have q2 := hSx.i2; have q3 := hSx.i3; clear hSx; first | (go_simp; done) | (go_simp; with_reducible rfl))
            simp only [Act.put, List.setIfInBounds_toArray, List.set_cons_zero, List.set_cons_succ]
            refine wpAnyH_take (i := 1) (oi := ⟨some 54, _, _, _, _, _⟩) (v := ?v17) rfl (by kernel_rfl) (by kernel_rfl) (by kernel_rfl) (fun _ _ _ h => h) (Or.inl ⟨by rfl, ?hy17⟩) (by assumption) ?rest17
            case hy17 => (intro wq hSw; obtain ⟨_, _, _, hSx⟩ := hSw; have q0 := hSx.i0; have q1 := hSx.i1; have q2 := hSx.i2; have q3 := hSx.i3; clear hSx; first | (go_simp; done) | (go_simp; with_reducible rfl))
            simp only [Act.put, List.setIfInBounds_toArray, List.set_cons_zero, List.set_cons_succ]
            refine wpAnyH_take (i := 2) (oi := ⟨some 55, _, _, _, _, _⟩) (v := ?v18) rfl (by kernel_rfl) (by kernel_rfl) (by kernel_rfl) (fun _ _ _ h => h) (Or.inl ⟨by rfl, ?hy18⟩) (by assumption) ?rest18
            case hy18 => (intro wq hSw; obtain ⟨_, _, _, hSx⟩ := hSw; have q0 := hSx.i0; have q1 := hSx.i1; have q2 := hSx.i2; have q3 := hSx.i3; clear hSx; first | (go_simp; done) | (go_simp; with_reducible rfl))
            simp only [Act.put, List.setIfInBounds_toArray, List.set_cons_zero, List.set_cons_succ]
            refine wpAnyH_take (i := 5) (oi := ⟨some 58, _, _, _, _, _⟩) (v := ?v19) rfl (by kernel_rfl) (by kernel_rfl) (by kernel_rfl) (fun _ _ _ h => h) (Or.inl ⟨by rfl, ?hy19⟩) (by assumption) ?rest19
            case hy19 => (intro wq hSw; obtain ⟨_, _, _, hSx⟩ := hSw; have q0 := hSx.i0; have q1 := hSx.i1; have q2 := hSx.i2; have q3 := hSx.i3; clear hSx; first | (go_simp; done) | (go_simp; with_reducible rfl))
            simp only [Act.put, List.setIfInBounds_toArray, List.set_cons_zero, List.set_cons_succ]
            refine wpAnyH_take (i := 6) (oi := ⟨some 59, _, _, _, _, _⟩) (v := ?v20) rfl (by kernel_rfl) (by kernel_rfl) (by kernel_rfl) (fun _ _ _ h => h) (Or.inl ⟨by rfl, ?hy20⟩) (by assumption) ?rest20
            case hy20 => (intro wq hSw; obtain ⟨_, _, _, hSx⟩ := hSw; have q0 := hSx.i0; have q1 := hSx.i1; have q2 := hSx.i2; have q3 := hSx.i3; clear hSx; first | (go_simp; done) | (go_simp; with_reducible rfl))
            simp only [Act.put, List.setIfInBounds_toArray, List.set_cons_zero, List.set_cons_succ]
            refine wpAnyH_take (i := 10) (oi := ⟨some 63, _, _, _, _, _⟩) (v := ?v21) rfl (by kernel_rfl) (by kernel_rfl) (by kernel_rfl) (fun _ _ _ h => h) (Or.inl ⟨by rfl, ?hy21⟩) (by assumption) ?rest21
            case hy21 => (intro wq hSw; obtain ⟨_, _, _, hSx⟩ := hSw; have q0 := hSx.i0; have q1 := hSx.i1; have q2 := hSx.i2; have q3 := hSx.i3; clear hSx; first | (go_simp; done) | (go_simp; with_reducible rfl))
            simp only [Act.put, List.setIfInBounds_toArray, List.set_cons_zero, List.set_cons_succ]
            refine wpAnyH_take (i := 11) (oi := ⟨some 64, _, _, _, _, _⟩) (v := ?v22) rfl (by kernel_rfl) (by kernel_rfl) (by kernel_rfl) (fun _ _ _ h => h) (Or.inl ⟨by rfl, ?hy22⟩) (by assumption) ?rest22
            case hy22 => (intro wq hSw; obtain ⟨_, _, _, hSx⟩ := hSw; have q0 := hSx.i0; have q1 := hSx.i1; have q2 := hSx.i2; have q3 := hSx.i3; clear hSx; first | (go_simp; done) | (go_simp; with_reducible rfl))
            simp only [Act.put, List.setIfInBounds_toArray, List.set_cons_zero, List.set_cons_succ]
            refine wpAnyH_take (i := 15) (oi := ⟨some 68, _, _, _, _, _⟩) (v := ?v23) rfl (by kernel_rfl) (by kernel_rfl) (by kernel_rfl) (fun _ _ _ h => h) (Or.inl ⟨by rfl, ?hy23⟩) (by assumption) ?rest23
            case hy23 => (intro wq hSw; obtain ⟨_, _, _, hSx⟩ := hSw; have q0 := hSx.i0; have q1 := hSx.i1; have q2 := hSx.i2; have q3 := hSx.i3; clear hSx; first | (go_simp; done) | (go_simp; with_reducible rfl))
            simp only [Act.put, List.setIfInBounds_toArray, List.set_cons_zero, List.set_cons_succ]
            refine wpAnyH_take (i := 16) (oi := ⟨some 69, _, _, _, _, _⟩) (v := ?v24) rfl (by kernel_rfl) (by kernel_rfl) (by kernel_rfl) (fun _ _ _ h => h) (Or.inl ⟨by rfl, ?hy24⟩) (by assumption) ?rest24
            case hy24 => (intro wq hSw; obtain ⟨_, _, _, hSx⟩ := hSw; have q0 := hSx.i0; have q1 := hSx.i1; have q2 := hSx.i2; have q3 := hSx.i3; clear hSx; first | (go_simp; done) | (go_simp; with_reducible rfl))
            simp only [Act.put, List.setIfInBounds_toArray, List.set_cons_zero, List.set_cons_succ]
            refine wpAnyH_take (i := 20) (oi := ⟨some 73, _, _, _, _, _⟩) (v := ?v25) rfl (by kernel_rfl) (by kernel_rfl) (by kernel_rfl) (fun _ _ _ h => h) (Or.inl ⟨by rfl, ?hy25⟩) (by assumption) ?rest25
            case hy25 => (intro wq hSw; obtain ⟨_, _, _, hSx⟩ := hSw; have q0 := hSx.i0; have q1 := hSx.i1; have q2 := hSx.i2; have q3 := hSx.i3; clear hSx; first | (go_simp; done) | (go_simp; with_reducible rfl))
            simp only [Act.put, List.setIfInBounds_toArray, List.set_cons_zero, List.set_cons_succ]
            refine wpAnyH_ready (rs := [3]) (by kernel_rfl) (by simp) ?_
            refine AllReadyH.cons rfl (fun K hK => ?_) AllReadyH.nil
            go_simp
            refine Calls.mono (HI.out kd (by have := HW.out; omega) _) ?_
            rintro e W20 ⟨rfl, hb20⟩
            dsimp only
            replace sx := sx.below hb20
            clear hb20
            refine hK.out _ _ (by exact ⟨_, _, _, sx⟩) (fun hHeld => ?_)
            clear hK K
            (try simp only [Act.put, List.setIfInBounds_toArray, List.set_cons_zero, List.set_cons_succ])
            refine wpAnyH_take (i := 4) (oi := ⟨some 57, _, _, _, _, _⟩) (v := ?v26) rfl (by kernel_rfl) (by kernel_rfl) (by kernel_rfl) (fun _ _ _ h => h) (Or.inl ⟨by rfl, ?hy26⟩) (by assumption) ?rest26
            case hy26 => (intro wq hSw; obtain ⟨_, _, _, hSx⟩ := hSw; have q0 := hSx.i0; have q1 := hSx.i1; have q2 := hSx.i2; have q3 := hSx.i3; clear hSx; first | (go_simp; done) | (go_simp; with_reducible rfl))
            simp only [Act.put, List.setIfInBounds_toArray, List.set_cons_zero, List.set_cons_succ]
            refine wpAnyH_ready (rs := [7]) (by kernel_rfl) (by simp) ?_
            refine AllReadyH.cons rfl (fun K hK => ?_) AllReadyH.nil
            go_simp
            refine Calls.mono (HI.out R (by have := HW.out; omega) _) ?_
            rintro e W21 ⟨rfl, hb21⟩
            dsimp only
            replace sx := sx.below hb21
            clear hb21
            refine hK.out _ _ (by exact ⟨_, _, _, sx⟩) (fun hHeld => ?_)
            clear hK K
            (try simp only [Act.put, List.setIfInBounds_toArray, List.set_cons_zero, List.set_cons_succ])
            refine wpAnyH_take (i := 8) (oi := ⟨some 61, _, _, _, _, _⟩) (v := ?v27) rfl (by kernel_rfl) (by kernel_rfl) (by kernel_rfl) (fun _ _ _ h => h) (Or.inl ⟨by rfl, ?hy27⟩) (by assumption) ?rest27
            case hy27 => (intro wq hSw; obtain ⟨_, _, _, hSx⟩ := hSw; have q0 := hSx.i0; have q1 := hSx.i1; have q2 := hSx.i2; have q3 := hSx.i3; clear hSx; first | (go_simp; done) | (go_simp; with_reducible rfl))
            simp only [Act.put, List.setIfInBounds_toArray, List.set_cons_zero, List.set_cons_succ]
            refine wpAnyH_take (i := 9) (oi := ⟨some 62, _, _, _, _, _⟩) (v := ?v28) rfl (by kernel_rfl) (by kernel_rfl) (by kernel_rfl) (fun _ _ _ h => h) (Or.inl ⟨by rfl, ?hy28⟩) (by assumption) ?rest28
            case hy28 => (intro wq hSw; obtain ⟨_, _, _, hSx⟩ := hSw; have q0 := hSx.i0; have q1 := hSx.i1; have q2 := hSx.i2; have q3 := hSx.i3; clear hSx; first | (go_simp; done) | (go_simp; with_reducible rfl))
            simp only [Act.put, List.setIfInBounds_toArray, List.set_cons_zero, List.set_cons_succ]
            refine wpAnyH_ready (rs := [12]) (by kernel_rfl) (by simp) ?_
            refine AllReadyH.cons rfl (fun K hK => ?_) AllReadyH.nil
            go_simp
            refine Calls.mono (HI.out A (by have := HW.out; omega) _) ?_
            rintro e W22 ⟨rfl, hb22⟩
            dsimp only
            replace sx := sx.below hb22
            clear hb22
            refine hK.out _ _ (by exact ⟨_, _, _, sx⟩) (fun hHeld => ?_)
            clear hK K
            (try simp only [Act.put, List.setIfInBounds_toArray, List.set_cons_zero, List.set_cons_succ])
            refine wpAnyH_take (i := 13) (oi := ⟨some 66, _, _, _, _, _⟩) (v := ?v29) rfl (by kernel_rfl) (by kernel_rfl) (by kernel_rfl) (fun _ _ _ h => h) (Or.inl ⟨by rfl, ?hy29⟩) (by assumption) ?rest29
            case hy29 => (intro wq hSw; obtain ⟨_, _, _, hSx⟩ := hSw; have q0 := hSx.i0; have q1 := hSx.i1; have q2 := hSx.i2; have q3 := hSx.i3; clear hSx; first | (go_simp; done) | (go_simp; with_reducible rfl))
            simp only [Act.put, List.setIfInBounds_toArray, List.set_cons_zero, List.set_cons_succ]
            refine wpAnyH_take (i := 14) (oi := ⟨some 67, _, _, _, _, _⟩) (v := ?v30) rfl (by kernel_rfl) (by kernel_rfl) (by kernel_rfl) (fun _ _ _ h => h) (Or.inl ⟨by rfl, ?hy30⟩) (by assumption) ?rest30
            case hy30 => (intro wq hSw; obtain ⟨_, _, _, hSx⟩ := hSw; have q0 := hSx.i0; have q1 := hSx.i1; have q2 := hSx.i2; have q3 := hSx.i3; clear hSx; first | (go_simp; done) | (go_simp; with_reducible rfl))
            simp only [Act.put, List.setIfInBounds_toArray, List.set_cons_zero, List.set_cons_succ]
            refine wpAnyH_ready (rs := [17]) (by kernel_rfl) (by simp) ?_
            refine AllReadyH.cons rfl (fun K hK => ?_) AllReadyH.nil
            go_simp
            refine Calls.mono (HI.out Bq (by have := HW.out; omega) _) ?_
            rintro e W23 ⟨rfl, hb23⟩
            dsimp only
            replace sx := sx.below hb23
            clear hb23
            refine hK.out _ _ (by exact ⟨_, _, _, sx⟩) (fun hHeld => ?_)
            clear hK K
            (try simp only [Act.put, List.setIfInBounds_toArray, List.set_cons_zero, List.set_cons_succ])
            refine wpAnyH_take (i := 18) (oi := ⟨some 71, _, _, _, _, _⟩) (v := ?v31) rfl (by kernel_rfl) (by kernel_rfl) (by kernel_rfl) (fun _ _ _ h => h) (Or.inl ⟨by rfl, ?hy31⟩) (by assumption) ?rest31
            case hy31 => (intro wq hSw; obtain ⟨_, _, _, hSx⟩ := hSw; have q0 := hSx.i0; have q1 := hSx.i1; have q2 := hSx.i2; have q3 := hSx.i3; clear hSx; first | (go_simp; done) | (go_simp; with_reducible rfl))
            simp only [Act.put, List.setIfInBounds_toArray, List.set_cons_zero, List.set_cons_succ]
            refine wpAnyH_take (i := 19) (oi := ⟨some 72, _, _, _, _, _⟩) (v := ?v32) rfl (by kernel_rfl) (by kernel_rfl) (by kernel_rfl) (fun _ _ _ h => h) (Or.inl ⟨by rfl, ?hy32⟩) (by assumption) ?rest32
            case hy32 => (intro wq hSw; obtain ⟨_, _, _, hSx⟩ := hSw; have q0 := hSx.i0; have q1 := hSx.i1; have q2 := hSx.i2; have q3 := hSx.i3; clear hSx; first | (go_simp; done) | (go_simp; with_reducible rfl))
            simp only [Act.put, List.setIfInBounds_toArray, List.set_cons_zero, List.set_cons_succ]
            refine wpAnyH_take (i := 21) (oi := ⟨some 74, _, _, _, _, _⟩) (v := ?v33) rfl (by kernel_rfl) (by kernel_rfl) (by kernel_rfl) (fun _ _ _ h => h) (Or.inl ⟨by rfl, ?hy33⟩) (by assumption) ?rest33
            case hy33 => (intro wq hSw; obtain ⟨_, _, _, hSx⟩ := hSw; have q0 := hSx.i0; have q1 := hSx.i1; have q2 := hSx.i2; have q3 := hSx.i3; clear hSx; first | (go_simp; done) | (go_simp; with_reducible rfl))
            simp only [Act.put, List.setIfInBounds_toArray, List.set_cons_zero, List.set_cons_succ]
            refine wpAnyH_take (i := 22) (oi := ⟨some 75, _, _, _, _, _⟩) (v := ?v34) rfl (by kernel_rfl) (by kernel_rfl) (by kernel_rfl) (fun _ _ _ h => h) (Or.inl ⟨by rfl, ?hy34⟩) (by assumption) ?rest34
            case hy34 => (intro wq hSw; obtain ⟨_, _, _, hSx⟩ := hSw; have q0 := hSx.i0; have q1 := hSx.i1; have q2 := hSx.i2; have q3 := hSx.i3; clear hSx; first | (go_simp; done) | (go_simp; with_reducible rfl))
            simp only [Act.put, List.setIfInBounds_toArray, List.set_cons_zero, List.set_cons_succ]
            obtain ⟨g8, cp8, W8, hrun8, s8, hg8⟩ := sx.h.line (lineR B8) hl9
            have hGl : G < W23.heap.size := World.block_lt_of_cell? W23 ⟨G, 0, none⟩ sx.i0
            have hbk := hg8.block G hGl (by intro e; injection e with e; exact HnG.out e.symm)
            refine wpAnyH_ready (rs := [23]) (by kernel_rfl) (by simp) ?_
            refine AllReadyH.cons rfl (fun K hK => ?_) AllReadyH.nil
            refine step_append_str (by rfl) (.tmp 53) (.tmp 75) 22 9 (by rfl) _ _ _ (by rfl) (by rfl) hrun8 ?_
            refine hK.out _ _ (by exact ⟨_, _, _, sx.after s8 hbk⟩) (fun hHeld => ?_)
            clear hK K
            (try simp only [Act.put, List.setIfInBounds_toArray])
            refine wpAnyH_take (i := 24) (oi := ⟨some 3, _, _, _, _, _⟩) (v := ?v35) rfl (by kernel_rfl) (by kernel_rfl) (by kernel_rfl) (fun _ _ _ h => h) (Or.inl ⟨by rfl, ?hy35⟩) (by assumption) ?rest35
            case hy35 => (intro wq hSw; obtain ⟨_, _, _, hSx⟩ := hSw; have q0 := hSx.i0; have q1 := hSx.i1; have q2 := hSx.i2; have q3 := hSx.i3; clear hSx; first | (go_simp; done) | (go_simp; with_reducible rfl))
            simp only [Act.put]
            refine wpAnyH_done (by kernel_rfl) ?_ _
            have S10 : Hid (Sh14 w W8 D F g8 cp8 (l9 ++ lineR B8) s na (.slice (some ⟨b9, off9, none⟩) cl cc)) := s8
            clear hHeld sx s8 hrun8 hg8 hbk hGl tv f1 f2 f3 f4 f5 f6 f7 f8 f9 HI HW
            go_wp2
            go_roundw
            case rel => exact ⟨q + 1, g8, cp8, l9 ++ lineR B8, by omega, by go_num, by first | rfl | simp, HL10, S10⟩
            case measure => simp [intOf]; omega
          · have hn1 : (nm == []) = false := beq_eq_false_iff_ne.2 hnm
            have hn2 : nm.isEmpty = false := by cases nm with | nil => exact absurd rfl hnm | cons _ _ => rfl
            have hnl : nmL nm = nm := by unfold nmL; rw [if_neg hnm]
            rw [hnl] at f8
            go_wp2
            clear x0 x1 x2 x3 x4 hV hG hb9 k2 z4 zf hbs9 hFG
            refine wp_region_held_drew (S := fun X => ∃ g2 cp2 l2, Si14 w X D F G g2 cp2 l2 s na (.slice (some ⟨b9, off9, none⟩) cl cc) kd R A Bq) (by kernel_rfl) ⟨_, _, _, tv.out.drew⟩ (fun hHeld => ?_)
            have sx := tv.out.drew
            refine wpAnyH_take (i := 0) (oi := ⟨some 53, _, _, _, _, _⟩) (v := ?v36) rfl (by kernel_rfl) (by kernel_rfl) (by kernel_rfl) (fun _ _ _ h => h) (Or.inl ⟨by rfl, ?hy36⟩) (by assumption) ?rest36
            case hy36 => (intro wq hSw; obtain ⟨_, _, _, hSx⟩ := hSw; have q0 := hSx.i0; have q1 := hSx.i1; have q2 := hSx.i2; have q3 := hSx.i3; clear hSx; first | (go_simp; done) | (go_simp; with_reducible rfl))
            simp only [Act.put, List.setIfInBounds_toArray, List.set_cons_zero, List.set_cons_succ]
            refine wpAnyH_take (i := 1) (oi := ⟨some 54, _, _, _, _, _⟩) (v := ?v37) rfl (by kernel_rfl) (by kernel_rfl) (by kernel_rfl) (fun _ _ _ h => h) (Or.inl ⟨by rfl, ?hy37⟩) (by assumption) ?rest37
            case hy37 => (intro wq hSw; obtain ⟨_, _, _, hSx⟩ := hSw; have q0 := hSx.i0; have q1 := hSx.i1; have q2 := hSx.i2; have q3 := hSx.i3; clear hSx; first | (go_simp; done) | (go_simp; with_reducible rfl))
            simp only [Act.put, List.setIfInBounds_toArray, List.set_cons_zero, List.set_cons_succ]
            refine wpAnyH_take (i := 2) (oi := ⟨some 55, _, _, _, _, _⟩) (v := ?v38) rfl (by kernel_rfl) (by kernel_rfl) (by kernel_rfl) (fun _ _ _ h => h) (Or.inl ⟨by rfl, ?hy38⟩) (by assumption) ?rest38
            case hy38 => (intro wq hSw; obtain ⟨_, _, _, hSx⟩ := hSw; have q0 := hSx.i0; have q1 := hSx.i1; have q2 := hSx.i2; have q3 := hSx.i3; clear hSx; first | (go_simp; done) | (go_simp; with_reducible rfl))
            simp only [Act.put, List.setIfInBounds_toArray, List.set_cons_zero, List.set_cons_succ]
            refine wpAnyH_take (i := 5) (oi := ⟨some 58, _, _, _, _, _⟩) (v := ?v39) rfl (by kernel_rfl) (by kernel_rfl) (by kernel_rfl) (fun _ _ _ h => h) (Or.inl ⟨by rfl, ?hy39⟩) (by assumption) ?rest39
            case hy39 => (intro wq hSw; obtain ⟨_, _, _, hSx⟩ := hSw; have q0 := hSx.i0; have q1 := hSx.i1; have q2 := hSx.i2; have q3 := hSx.i3; clear hSx; first | (go_simp; done) | (go_simp; with_reducible rfl))
            simp only [Act.put, List.setIfInBounds_toArray, List.set_cons_zero, List.set_cons_succ]
            refine wpAnyH_take (i := 6) (oi := ⟨some 59, _, _, _, _, _⟩) (v := ?v40) rfl (by kernel_rfl) (by kernel_rfl) (by kernel_rfl) (fun _ _ _ h => h) (Or.inl ⟨by rfl, ?hy40⟩) (by assumption) ?rest40
            case hy40 => (intro wq hSw; obtain ⟨_, _, _, hSx⟩ := hSw; have q0 := hSx.i0; have q1 := hSx.i1; have q2 := hSx.i2; have q3 := hSx.i3; clear hSx; first | (go_simp; done) | (go_simp; with_reducible rfl))
            simp only [Act.put, List.setIfInBounds_toArray, List.set_cons_zero, List.set_cons_succ]
            refine wpAnyH_take (i := 10) (oi := ⟨some 63, _, _, _, _, _⟩) (v := ?v41) rfl (by kernel_rfl) (by kernel_rfl) (by kernel_rfl) (fun _ _ _ h => h) (Or.inl ⟨by rfl, ?hy41⟩) (by assumption) ?rest41
            case hy41 => (intro wq hSw; obtain ⟨_, _, _, hSx⟩ := hSw; have q0 := hSx.i0; have q1 := hSx.i1; have q2 := hSx.i2; have q3 := hSx.i3; clear hSx; first | (go_simp; done) | (go_simp; with_reducible rfl))
            simp only [Act.put, List.setIfInBounds_toArray, List.set_cons_zero, List.set_cons_succ]
            refine wpAnyH_take (i := 11) (oi := ⟨some 64, _, _, _, _, _⟩) (v := ?v42) rfl (by kernel_rfl) (by kernel_rfl) (by kernel_rfl) (fun _ _ _ h => h) (Or.inl ⟨by rfl, ?hy42⟩) (by assumption) ?rest42
            case hy42 => (intro wq hSw; obtain ⟨_, _, _, hSx⟩ := hSw; have q0 := hSx.i0; have q1 := hSx.i1; have q2 := hSx.i2; have q3 := hSx.i3; clear hSx; first | (go_simp; done) | (go_simp; with_reducible rfl))
            simp only [Act.put, List.setIfInBounds_toArray, List.set_cons_zero, List.set_cons_succ]
            refine wpAnyH_take (i := 15) (oi := ⟨some 68, _, _, _, _, _⟩) (v := ?v43) rfl (by kernel_rfl) (by kernel_rfl) (by kernel_rfl) (fun _ _ _ h => h) (Or.inl ⟨by rfl, ?hy43⟩) (by assumption) ?rest43
            case hy43 => (intro wq hSw; obtain ⟨_, _, _, hSx⟩ := hSw; have q0 := hSx.i0; have q1 := hSx.i1; have q2 := hSx.i2; have q3 := hSx.i3; clear hSx; first | (go_simp; done) | (go_simp; with_reducible rfl))
            simp only [Act.put, List.setIfInBounds_toArray, List.set_cons_zero, List.set_cons_succ]
            refine wpAnyH_take (i := 16) (oi := ⟨some 69, _, _, _, _, _⟩) (v := ?v44) rfl (by kernel_rfl) (by kernel_rfl) (by kernel_rfl) (fun _ _ _ h => h) (Or.inl ⟨by rfl, ?hy44⟩) (by assumption) ?rest44
            case hy44 => (intro wq hSw; obtain ⟨_, _, _, hSx⟩ := hSw; have q0 := hSx.i0; have q1 := hSx.i1; have q2 := hSx.i2; have q3 := hSx.i3; clear hSx; first | (go_simp; done) | (go_simp; with_reducible rfl))
            simp only [Act.put, List.setIfInBounds_toArray, List.set_cons_zero, List.set_cons_succ]
            refine wpAnyH_take (i := 20) (oi := ⟨some 73, _, _, _, _, _⟩) (v := ?v45) rfl (by kernel_rfl) (by kernel_rfl) (by kernel_rfl) (fun _ _ _ h => h) (Or.inl ⟨by rfl, ?hy45⟩) (by assumption) ?rest45
            case hy45 => (intro wq hSw; obtain ⟨_, _, _, hSx⟩ := hSw; have q0 := hSx.i0; have q1 := hSx.i1; have q2 := hSx.i2; have q3 := hSx.i3; clear hSx; first | (go_simp; done) | (go_simp; with_reducible rfl))
            simp only [Act.put, List.setIfInBounds_toArray, List.set_cons_zero, List.set_cons_succ]
            refine wpAnyH_ready (rs := [3]) (by kernel_rfl) (by simp) ?_
            refine AllReadyH.cons rfl (fun K hK => ?_) AllReadyH.nil
            go_simp
            refine Calls.mono (HI.out kd (by have := HW.out; omega) _) ?_
            rintro e W20 ⟨rfl, hb20⟩
            dsimp only
            replace sx := sx.below hb20
            clear hb20
            refine hK.out _ _ (by exact ⟨_, _, _, sx⟩) (fun hHeld => ?_)
            clear hK K
            (try simp only [Act.put, List.setIfInBounds_toArray, List.set_cons_zero, List.set_cons_succ])
            refine wpAnyH_take (i := 4) (oi := ⟨some 57, _, _, _, _, _⟩) (v := ?v46) rfl (by kernel_rfl) (by kernel_rfl) (by kernel_rfl) (fun _ _ _ h => h) (Or.inl ⟨by rfl, ?hy46⟩) (by assumption) ?rest46
            case hy46 => (intro wq hSw; obtain ⟨_, _, _, hSx⟩ := hSw; have q0 := hSx.i0; have q1 := hSx.i1; have q2 := hSx.i2; have q3 := hSx.i3; clear hSx; first | (go_simp; done) | (go_simp; with_reducible rfl))
            simp only [Act.put, List.setIfInBounds_toArray, List.set_cons_zero, List.set_cons_succ]
            refine wpAnyH_ready (rs := [7]) (by kernel_rfl) (by simp) ?_
            refine AllReadyH.cons rfl (fun K hK => ?_) AllReadyH.nil
            go_simp
            refine Calls.mono (HI.out R (by have := HW.out; omega) _) ?_
            rintro e W21 ⟨rfl, hb21⟩
            dsimp only
            replace sx := sx.below hb21
            clear hb21
            refine hK.out _ _ (by exact ⟨_, _, _, sx⟩) (fun hHeld => ?_)
            clear hK K
            (try simp only [Act.put, List.setIfInBounds_toArray, List.set_cons_zero, List.set_cons_succ])
            refine wpAnyH_take (i := 8) (oi := ⟨some 61, _, _, _, _, _⟩) (v := ?v47) rfl (by kernel_rfl) (by kernel_rfl) (by kernel_rfl) (fun _ _ _ h => h) (Or.inl ⟨by rfl, ?hy47⟩) (by assumption) ?rest47
            case hy47 => (intro wq hSw; obtain ⟨_, _, _, hSx⟩ := hSw; have q0 := hSx.i0; have q1 := hSx.i1; have q2 := hSx.i2; have q3 := hSx.i3; clear hSx; first | (go_simp; done) | (go_simp; with_reducible rfl))
            simp only [Act.put, List.setIfInBounds_toArray, List.set_cons_zero, List.set_cons_succ]
            refine wpAnyH_take (i := 9) (oi := ⟨some 62, _, _, _, _, _⟩) (v := ?v48) rfl (by kernel_rfl) (by kernel_rfl) (by kernel_rfl) (fun _ _ _ h => h) (Or.inl ⟨by rfl, ?hy48⟩) (by assumption) ?rest48
            case hy48 => (intro wq hSw; obtain ⟨_, _, _, hSx⟩ := hSw; have q0 := hSx.i0; have q1 := hSx.i1; have q2 := hSx.i2; have q3 := hSx.i3; clear hSx; first | (go_simp; done) | (go_simp; with_reducible rfl))
            simp only [Act.put, List.setIfInBounds_toArray, List.set_cons_zero, List.set_cons_succ]
            refine wpAnyH_ready (rs := [12]) (by kernel_rfl) (by simp) ?_
            refine AllReadyH.cons rfl (fun K hK => ?_) AllReadyH.nil
            go_simp
            refine Calls.mono (HI.out A (by have := HW.out; omega) _) ?_
            rintro e W22 ⟨rfl, hb22⟩
            dsimp only
            replace sx := sx.below hb22
            clear hb22
            refine hK.out _ _ (by exact ⟨_, _, _, sx⟩) (fun hHeld => ?_)
            clear hK K
            (try simp only [Act.put, List.setIfInBounds_toArray, List.set_cons_zero, List.set_cons_succ])
            refine wpAnyH_take (i := 13) (oi := ⟨some 66, _, _, _, _, _⟩) (v := ?v49) rfl (by kernel_rfl) (by kernel_rfl) (by kernel_rfl) (fun _ _ _ h => h) (Or.inl ⟨by rfl, ?hy49⟩) (by assumption) ?rest49
            case hy49 => (intro wq hSw; obtain ⟨_, _, _, hSx⟩ := hSw; have q0 := hSx.i0; have q1 := hSx.i1; have q2 := hSx.i2; have q3 := hSx.i3; clear hSx; first | (go_simp; done) | (go_simp; with_reducible rfl))
            simp only [Act.put, List.setIfInBounds_toArray, List.set_cons_zero, List.set_cons_succ]
            refine wpAnyH_take (i := 14) (oi := ⟨some 67, _, _, _, _, _⟩) (v := ?v50) rfl (by kernel_rfl) (by kernel_rfl) (by kernel_rfl) (fun _ _ _ h => h) (Or.inl ⟨by rfl, ?hy50⟩) (by assumption) ?rest50
            case hy50 => (intro wq hSw; obtain ⟨_, _, _, hSx⟩ := hSw; have q0 := hSx.i0; have q1 := hSx.i1; have q2 := hSx.i2; have q3 := hSx.i3; clear hSx; first | (go_simp; done) | (go_simp; with_reducible rfl))
            simp only [Act.put, List.setIfInBounds_toArray, List.set_cons_zero, List.set_cons_succ]
            refine wpAnyH_ready (rs := [17]) (by kernel_rfl) (by simp) ?_
            refine AllReadyH.cons rfl (fun K hK => ?_) AllReadyH.nil
            go_simp
            refine Calls.mono (HI.out Bq (by have := HW.out; omega) _) ?_
            rintro e W23 ⟨rfl, hb23⟩
            dsimp only
            replace sx := sx.below hb23
            clear hb23
            refine hK.out _ _ (by exact ⟨_, _, _, sx⟩) (fun hHeld => ?_)
            clear hK K
            (try simp only [Act.put, List.setIfInBounds_toArray, List.set_cons_zero, List.set_cons_succ])
            refine wpAnyH_take (i := 18) (oi := ⟨some 71, _, _, _, _, _⟩) (v := ?v51) rfl (by kernel_rfl) (by kernel_rfl) (by kernel_rfl) (fun _ _ _ h => h) (Or.inl ⟨by rfl, ?hy51⟩) (by assumption) ?rest51
            case hy51 => (intro wq hSw; obtain ⟨_, _, _, hSx⟩ := hSw; have q0 := hSx.i0; have q1 := hSx.i1; have q2 := hSx.i2; have q3 := hSx.i3; clear hSx; first | (go_simp; done) | (go_simp; with_reducible rfl))
            simp only [Act.put, List.setIfInBounds_toArray, List.set_cons_zero, List.set_cons_succ]
            refine wpAnyH_take (i := 19) (oi := ⟨some 72, _, _, _, _, _⟩) (v := ?v52) rfl (by kernel_rfl) (by kernel_rfl) (by kernel_rfl) (fun _ _ _ h => h) (Or.inl ⟨by rfl, ?hy52⟩) (by assumption) ?rest52
            case hy52 => (intro wq hSw; obtain ⟨_, _, _, hSx⟩ := hSw; have q0 := hSx.i0; have q1 := hSx.i1; have q2 := hSx.i2; have q3 := hSx.i3; clear hSx; first | (go_simp; done) | (go_simp; with_reducible rfl))
            simp only [Act.put, List.setIfInBounds_toArray, List.set_cons_zero, List.set_cons_succ]
            refine wpAnyH_take (i := 21) (oi := ⟨some 74, _, _, _, _, _⟩) (v := ?v53) rfl (by kernel_rfl) (by kernel_rfl) (by kernel_rfl) (fun _ _ _ h => h) (Or.inl ⟨by rfl, ?hy53⟩) (by assumption) ?rest53
            case hy53 => (intro wq hSw; obtain ⟨_, _, _, hSx⟩ := hSw; have q0 := hSx.i0; have q1 := hSx.i1; have q2 := hSx.i2; have q3 := hSx.i3; clear hSx; first | (go_simp; done) | (go_simp; with_reducible rfl))
            simp only [Act.put, List.setIfInBounds_toArray, List.set_cons_zero, List.set_cons_succ]
            refine wpAnyH_take (i := 22) (oi := ⟨some 75, _, _, _, _, _⟩) (v := ?v54) rfl (by kernel_rfl) (by kernel_rfl) (by kernel_rfl) (fun _ _ _ h => h) (Or.inl ⟨by rfl, ?hy54⟩) (by assumption) ?rest54
            case hy54 => (intro wq hSw; obtain ⟨_, _, _, hSx⟩ := hSw; have q0 := hSx.i0; have q1 := hSx.i1; have q2 := hSx.i2; have q3 := hSx.i3; clear hSx; first | (go_simp; done) | (go_simp; with_reducible rfl))
            simp only [Act.put, List.setIfInBounds_toArray, List.set_cons_zero, List.set_cons_succ]
            obtain ⟨g8, cp8, W8, hrun8, s8, hg8⟩ := sx.h.line (lineR B8) hl9
            have hGl : G < W23.heap.size := World.block_lt_of_cell? W23 ⟨G, 0, none⟩ sx.i0
            have hbk := hg8.block G hGl (by intro e; injection e with e; exact HnG.out e.symm)
            refine wpAnyH_ready (rs := [23]) (by kernel_rfl) (by simp) ?_
            refine AllReadyH.cons rfl (fun K hK => ?_) AllReadyH.nil
            refine step_append_str (by rfl) (.tmp 53) (.tmp 75) 22 9 (by rfl) _ _ _ (by rfl) (by rfl) hrun8 ?_
            refine hK.out _ _ (by exact ⟨_, _, _, sx.after s8 hbk⟩) (fun hHeld => ?_)
            clear hK K
            (try simp only [Act.put, List.setIfInBounds_toArray])
            refine wpAnyH_take (i := 24) (oi := ⟨some 3, _, _, _, _, _⟩) (v := ?v55) rfl (by kernel_rfl) (by kernel_rfl) (by kernel_rfl) (fun _ _ _ h => h) (Or.inl ⟨by rfl, ?hy55⟩) (by assumption) ?rest55
            case hy55 => (intro wq hSw; obtain ⟨_, _, _, hSx⟩ := hSw; have q0 := hSx.i0; have q1 := hSx.i1; have q2 := hSx.i2; have q3 := hSx.i3; clear hSx; first | (go_simp; done) | (go_simp; with_reducible rfl))
            simp only [Act.put]
            refine wpAnyH_done (by kernel_rfl) ?_ _
            have S10 : Hid (Sh14 w W8 D F g8 cp8 (l9 ++ lineR B8) s na (.slice (some ⟨b9, off9, none⟩) cl cc)) := s8
            clear hHeld sx s8 hrun8 hg8 hbk hGl tv f1 f2 f3 f4 f5 f6 f7 f8 f9 HI HW
            go_wp2
            go_roundw
            case rel => exact ⟨q + 1, g8, cp8, l9 ++ lineR B8, by omega, by go_num, by first | rfl | simp, HL10, S10⟩
            case measure => simp [intOf]; omega
        · have HE : Hid (l9 = showI (rs.take (k + 1))) := by exact (by rw [HL9.out, HJa.out q (by rw [HCl.out]; omega), HSk.out] : l9 = showI (rs.take (k + 1)))
          have HR9 : Hid (RowW wx D g9 cp9 l9) := S9.out.row
          have HB9 : Hid (Below D w wx) := S9.out.b
          clear HL9 S9
          go_wp2
          go_roundw
          case rel => exact ⟨k + 1, g9, cp9, l9, by omega, by go_num, rfl, HE, HR9, HB9⟩
          case measure => simp [intOf]; omega
    · have HE : Hid (l = showI rs) := by exact (by rw [HL.out, HAll.out k (by omega)] : l = showI rs)
      have hback := HRw.out.row.back
      go_wp2
      go_ret
      exact ⟨by rw [← HE.out]; rfl, by first | exact HBl.out | (rw [HD.out]; exact HBl.out)⟩
theorem specShowI (a : Option Addr) (len cap : Nat) (rs : List Rt) (w : World) (hin : RtsIn w a len rs) (hp : imageB rs = true) :
    Calls Tryz.prog 25 #[.slice a len cap] w fun e w' => e = .returned (.string ⟨(showI rs).toArray⟩) ∧ Below w.heap.size w w' := specShowIR a len cap rs w hin (image_rts hp) (of_decide_eq_true hp).2.2

set_option maxHeartbeats 1000000 in
set_option maxRecDepth 100000 in
theorem specShowImage (a : Option Addr) (len cap : Nat) (rs : List Rt) (w : World) (hin : RtsIn w a len rs) (hsh : ShortR rs) (hlen : len ≤ 1048576) :
    Calls Tryz.prog 11 #[.agg #[.slice a len cap]] w fun e w' => e = .returned (.string ⟨(showIm rs).toArray⟩) ∧ Below w.heap.size w w' := by
  have hb0 : Below w.heap.size w (w.alloc (.cells #[.slice a len cap] 26)) := (Below.refl _ _).alloc (Nat.le_refl _) _
  have hA := heap_alloc_new w (.cells #[.slice a len cap] 26)
  obtain ⟨W, hW⟩ : ∃ W, w.alloc (.cells #[.slice a len cap] 26) = W := ⟨_, rfl⟩
  rw [hW] at hb0 hA
  obtain ⟨D, hD⟩ : ∃ D, w.heap.size = D := ⟨_, rfl⟩
  have HIn : Hid (∀ V, Below W.heap.size W V → RtsIn V a len rs) := fun V h => (hin.below hb0).below h
  rw [hD] at hA hb0
  have hDl : D < W.heap.size := lt_of_block hA
  have HK : Hid (∀ V, Below W.heap.size W V → V.cell? ⟨D, 0, none⟩ = some (.slice a len cap)) := fun V h => (h.cell (p := ⟨D, 0, none⟩) hDl).trans (cell_of_one hA)
  have HB : Hid (∀ V, Below W.heap.size W V → Below w.heap.size w V) := fun V h => by rw [hD]; exact hb0.trans (h.mono (Nat.le_of_lt hDl))
  have HC : Hid (_) := specImageOk a len cap rs W (HIn.out W (Below.refl _ _)) hsh hlen
  have k0 := cell_of_one hA
  rcases hp : imageB rs with _ | _
  · rw [hp] at HC
    have HS : Hid (showIm rs = []) := by exact (by unfold showIm; rw [if_neg (by rw [hp]; simp)] : showIm rs = [])
    clear hp hA hb0 hin hDl
    go_enter Tryz.func11, Tryz.ntmps11
    go_wp2_with fail
    refine Calls.mono HC.out ?_
    rintro e w1 ⟨rfl, hb1⟩
    go_wp2
    go_ret
    exact ⟨by rw [HS.out]; rfl, HB.out _ hb1⟩
  · rw [hp] at HC
    have HS : Hid (showIm rs = showI rs) := by exact (by unfold showIm; rw [if_pos hp] : showIm rs = showI rs)
    have HSh : Hid (∀ V, Below W.heap.size W V → Calls Tryz.prog 25 #[.slice a len cap] V fun e w' => e = .returned (.string ⟨(showI rs).toArray⟩) ∧ Below V.heap.size V w') := fun V h => specShowI a len cap rs V (HIn.out V h) hp
    clear hp hA hb0 hin hDl
    go_enter Tryz.func11, Tryz.ntmps11
    go_wp2_with fail
    refine Calls.mono HC.out ?_
    rintro e w1 ⟨rfl, hb1⟩
    replace k0 := HK.out _ hb1
    go_wp2_with fail
    refine Calls.mono (HSh.out _ hb1) ?_
    rintro e w2 ⟨rfl, hb2⟩
    have hb3 := hb1.trans (hb2.mono hb1.size)
    go_wp2
    go_ret
    exact ⟨by rw [HS.out]; rfl, HB.out _ hb3⟩

end Go.Proofs.YtogobeegibngiaaGreatDoor
