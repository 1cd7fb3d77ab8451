/-
  Parts of one proof, one behind the other: OrdI, OrdJ, Draw3, DrawW, DrawT, DrawX, DrawN, DrawTr, FltK.
-/
import Derived.Test.YtaidhjjpdkkmcaaGreatDoorP24
import Derived.Test.YtaidhjjpdkkmcaaGreatDoorP22
import Derived.Laws.MakeOwn
import Derived.Test.YtaidhjjpdkkmcaaGreatDoorP4
import Derived.Deep.RegionWith
import Derived.Test.YtaidhjjpdkkmcaaGreatDoorP1
import Derived.Test.YtaidhjjpdkkmcaaGreatDoorP9
import Derived.Test.YtaidhjjpdkkmcaaGreatDoorP3
import Derived.Test.YtaidhjjpdkkmcaaGreatDoorP10
import Derived.Deep.Cut

/-! The contract of the landed placesInOrder: the places in their order. -/
namespace Go.Proofs.YtaidhjjpdkkmcaaGreatDoor
open Go.RowKit

def lenS8 : Value → Nat
 | .slice _ n _ => n
 | _ => 0
theorem made_nats (n : Nat) : (madeCells (Value.int .i64 0).cells n).toList = natV (List.replicate n 0) := by
 apply List.ext_getElem
 ·
  simp [madeCells, natV]
 ·
  intro i h1 h2
  simp [madeCells, natV, Value.cells, Nat.mod_one]

/-- What placesInOrder holds: how many each waits for, who is up next, who is in order. -/
structure Po8 (X : World) (B wb nb n : Nat) (hv ov : Value) (ws hl out : List Nat) : Prop where
 hp : HpIn X B nb hv hl
 hn : HpN hl hl.length
 ow : X.ownsRow B 3 1 (.slice (some ⟨wb, 0, none⟩) n n) n (natV ws)
 wl : ws.length = n
 nw : hv.ownBlock ≠ some wb
 oo : X.ownsRow B 3 1 ov out.length (natV out)
 n1 : ov.ownBlock ≠ some wb
 n2 : ∀ k, ov.ownBlock = some k → hv.ownBlock ≠ some k

section
variable {X Y : World} {B wb nb n : Nat} {hv ov : Value} {ws hl out : List Nat}

theorem Po8.wn (s : Po8 X B wb nb n hv ov ws hl out) : wb ≠ nb := by
 rcases own_types s.ow s.hp.box (by decide) with e | e
 ·
  cases e
 ·
  exact fun e2 => e (by rw [e2]; rfl)
theorem Po8.on (s : Po8 X B wb nb n hv ov ws hl out) : ov.ownBlock ≠ some nb := by
 rcases own_types s.oo s.hp.box (by decide) with e | e
 ·
  rw [e]; simp
 ·
  exact fun e2 => e (by rw [e2]; rfl)
theorem Po8.below (s : Po8 X B wb nb n hv ov ws hl out) (hb : Below X.heap.size X Y) : Po8 Y B wb nb n hv ov ws hl out :=
 ⟨s.hp.below hb, s.hn, own_below s.ow hb, s.wl, s.nw, own_below s.oo hb, s.n1, s.n2⟩
theorem Po8.setw (s : Po8 X B wb nb n hv ov ws hl out) (hB : B ≤ X.heap.size) (i x : Nat) : Po8 (X.setCell ⟨wb, i, none⟩ (.int .i64 (x : Int))) B wb nb n hv ov (ws.set i x) hl out ∧ Below B X (X.setCell ⟨wb, i, none⟩ (.int .i64 (x : Int))) := by
 obtain ⟨h1, hg⟩ := s.ow.stored i (.int .i64 (x : Int))
 rw [natV_set] at h1
 have hw : Wrote X (X.setCell ⟨wb, i, none⟩ (.int .i64 (x : Int))) (fun k => k = wb) := Wrote.of_grown hg (fun k e => by injection e with e; exact e.symm)
 refine ⟨⟨s.hp.wrote hw s.wn.symm (fun k e e2 => s.nw (by rw [e, e2])), s.hn, h1, by rw [List.length_set]; exact s.wl, s.nw, own_wrote s.oo hw (fun k e e2 => s.n1 (by rw [e, e2])), s.n1, s.n2⟩, hw.below hB (fun k e => by rw [e]; exact (s.ow.lt wb rfl).1)⟩
theorem Po8.push (s : Po8 X B wb nb n hv ov ws hl out) (hB : B ≤ X.heap.size) {v' : Value} {l' : List Nat} (h1 : HpIn Y B nb v' l') (h2 : HpN l' l'.length) (hw : Wrote X Y (fun k => k = nb ∨ hv.ownBlock = some k)) (hn : NewAt X hv v') :
 Po8 Y B wb nb n v' ov ws l' out ∧ Below B X Y := by
 have hwl := (s.ow.lt wb rfl).2
 refine ⟨⟨h1, h2, own_wrote s.ow hw (fun k e e2 => ?_), s.wl, fun e => ?_, own_wrote s.oo hw (fun k e e2 => ?_), s.n1, fun k e e2 => ?_⟩, hw.below hB (fun k e => ?_)⟩
 ·
  injection e with e
  subst e
  rcases e2 with e2 | e2
  ·
   exact s.wn e2
  ·
   exact s.nw e2
 ·
  rcases hn wb e with e | e
  ·
   exact s.nw e
  ·
   omega
 ·
  rcases e2 with e2 | e2
  ·
   exact s.on (by rw [e, e2])
  ·
   exact s.n2 k e e2
 ·
  rcases hn k e2 with e2 | e2
  ·
   exact s.n2 k e e2
  ·
   have := (s.oo.lt k e).2; omega
 ·
  rcases e with e | e
  ·
   rw [e]; exact s.hp.lt.1
  ·
   exact (s.hp.row.lt k e).1
theorem Po8.app (s : Po8 X B wb nb n hv ov ws hl out) (hB : B ≤ X.heap.size) (hl8 : out.length ≤ 1000) (x : Nat) :
 ∃ g' c' Y, (Builtin.append_ #[137, 137] 137 #[ov, .slice (some ⟨X.heap.size, 0, none⟩) 1 1]).run Tryz.prog (X.alloc (.cells #[.int .i64 (x : Int)] 3)) = .ok (.slice (some ⟨g', 0, none⟩) (out.length + 1) c') Y ∧
  Po8 Y B wb nb n hv (.slice (some ⟨g', 0, none⟩) (out.length + 1) c') ws hl (out ++ [x]) ∧ Below B X Y := by
 obtain ⟨v', Y, hr, ho, hg, hat⟩ := push_nat 137 Tryz.underlying137 x s.oo hB (by omega)
 obtain ⟨g', c', rfl⟩ := own_some ho (by omega)
 have hwl := (s.ow.lt wb rfl).2
 have hw : Wrote X Y (fun k => ov.ownBlock = some k) := Wrote.of_grown hg (fun k e => e)
 refine ⟨g', c', Y, hr, ⟨s.hp.wrote hw s.on (fun k e e2 => s.n2 k e2 e), s.hn, own_wrote s.ow hw (fun k e e2 => ?_), s.wl, s.nw, by rw [List.length_append, List.length_singleton]; exact ho, fun e => ?_, fun k e e2 => ?_⟩, hw.below hB (fun k e => (s.oo.lt k e).1)⟩
 ·
  injection e with e
  subst e
  exact s.n1 e2
 ·
  rcases hat with h | h
  ·
   exact s.n1 (by rw [← h]; exact e)
  ·
   rw [h] at e; injection e with e; omega
 ·
  rcases hat with h | h
  ·
   exact s.n2 k (by rw [← h]; exact e) e2
  ·
   rw [h] at e; injection e with e
   have := (s.hp.row.lt k e2).2
   omega
theorem Po8.newo (s : Po8 X B wb nb n hv (.slice none 0 0) ws hl []) (hB : B ≤ X.heap.size) : Po8 (X.alloc (.cells #[] 3)) B wb nb n hv (.slice (some ⟨X.heap.size, 0, none⟩) 0 0) ws hl [] := by
 have hb : Below X.heap.size X (X.alloc (.cells #[] 3)) := (Below.refl _ _).alloc (Nat.le_refl _) _
 have s2 := s.below hb
 refine ⟨s2.hp, s2.hn, s2.ow, s2.wl, s2.nw, World.ownsRow_lit (base := B) (e := 3) (size := 1) X #[] 0 hB (by decide) rfl, fun e => ?_, fun k e e2 => ?_⟩
 ·
  injection e with e
  have e3 : X.heap.size = wb := e
  have := (s.ow.lt wb rfl).2
  omega
 ·
  injection e with e
  have e3 : X.heap.size = k := e
  have := (s.hp.row.lt k e2).2
  omega
end

theorem po8_start (w : World) (n : Nat) (hn : n ≤ 1000) : Po8 (((w.alloc (.cells (madeCells (Value.int .i64 0).cells n) 3)).alloc (.cells #[] 3)).alloc (.cells #[.slice (some ⟨w.heap.size + 1, 0, none⟩) 0 0] 176)) w.heap.size w.heap.size (w.heap.size + 2) n (.slice (some ⟨w.heap.size + 1, 0, none⟩) 0 0) (.slice none 0 0) (List.replicate n 0) [] [] := by
 obtain ⟨W1, hW1⟩ : ∃ W1, w.alloc (.cells (madeCells (Value.int .i64 0).cells n) 3) = W1 := ⟨_, rfl⟩
 have h1 := World.ownsRow_lit (base := w.heap.size) (e := 3) (size := 1) w (madeCells (Value.int .i64 0).cells n) n (Nat.le_refl _) (by unfold maxLen; omega) (by rw [size_madeCells]; omega)
 rw [made_nats, hW1] at h1
 have s1 : W1.heap.size = w.heap.size + 1 := by rw [← hW1]; simp
 have h2 := World.ownsRow_lit (base := w.heap.size) (e := 3) (size := 1) W1 #[] 0 (by omega) (by decide) rfl
 rw [hW1]
 obtain ⟨W2, hW2⟩ : ∃ W2, W1.alloc (.cells #[] 3) = W2 := ⟨_, rfl⟩
 have h1b : W2.ownsRow w.heap.size 3 1 (.slice (some ⟨w.heap.size, 0, none⟩) n n) n (natV (List.replicate n 0)) := by rw [← hW2]; exact h1.alloc _
 rw [hW2] at h2 ⊢
 have s2 : W2.heap.size = w.heap.size + 2 := by rw [← hW2]; simp; omega
 rw [s1] at h2
 have h3 := World.ownsRow_lit (base := w.heap.size) (e := 176) (size := 1) W2 #[.slice (some ⟨w.heap.size + 1, 0, none⟩) 0 0] 1 (by omega) (by decide) rfl
 rw [s2] at h3
 exact ⟨⟨h3, h2.alloc _⟩, (fun k h1 h2 => by simp at h2), h1b.alloc _, List.length_replicate, (fun e => by injection e with e; have e2 : w.heap.size + 1 = w.heap.size := e; omega), World.ownsRow_nil _ _ _ _, (fun e => by cases e), (fun k e => by cases e)⟩

end Go.Proofs.YtaidhjjpdkkmcaaGreatDoor

/-! The contract of the landed placesInOrder, walked. -/
namespace Go.Proofs.YtaidhjjpdkkmcaaGreatDoor
open Go.RowKit

theorem g_len8 {ps : List Pk} {out : List Nat} {f : Nat} (g : Kf8 ps out f) : out.length + 1 ≤ 8 := by
 have h1 := (g.or.step (projB_parts g.pj).1.nodup g.nx).len
 have h2 := (projB_parts g.pj).2.1.2
 simp [nmsAt] at h1
 omega

set_option maxHeartbeats 8000000 in
set_option maxRecDepth 100000 in
theorem implPlacesInOrder (a : Option Addr) (len cap : Nat) (ps : List Pk) (w : World) (h : PkgsOk w a len cap ps) (hpj : projB ps = true) :
 Calls Tryz.prog 110 #[.slice a len cap] w fun e w' => ∃ v, e = .returned v ∧ ∃ out, w'.ownsRow w.heap.size 3 1 v out.length (natV out) ∧ nmsAt ps out = order8 ps ∧ (∀ x ∈ out, x < len) ∧ out.length ≤ 8 ∧ Below w.heap.size w w' := by
 obtain rfl : ps.length = len := h.hlen
 have hn8 : ps.length ≤ 8 := (projB_parts hpj).2.1.2
 have HI : Hid (PkgsOk w a ps.length cap ps) := h
 have HP : Hid (projB ps = true) := hpj
 clear h hpj
 obtain ⟨i0, hi, hz0, hz1, hz2⟩ := info_parts info3
 have hmk : ∀ W : World, (Instr.makeSlice 137 (.int .i64 (ps.length : Int)) (.int .i64 (ps.length : Int))).run Tryz.prog W = .ok (.slice (some ⟨W.heap.size, 0, none⟩) ps.length ps.length) (W.alloc (.cells (madeCells (Value.int .i64 0).cells ps.length) 3)) := fun W => by
  have h := run_make (P := Tryz.prog) W 137 3 i0 (.int .i64 0) Tryz.underlying137 hi hz0 .i64 .i64 (ps.length : Int) (ps.length : Int) (by omega) (by omega) (by rw [hz2]; omega) (by omega)
  rw [hz1] at h
  simpa using h
 clear hi hz0 hz1 hz2
 have HS0 : Hid (_) := po8_start w ps.length (by omega)
 have HB0 : Hid (Below w.heap.size w (((w.alloc (.cells (madeCells (Value.int .i64 0).cells ps.length) 3)).alloc (.cells #[] 3)).alloc (.cells #[.slice (some ⟨w.heap.size + 1, 0, none⟩) 0 0] 176))) := (((Below.refl _ _).alloc (Nat.le_refl _) _).alloc (by simp) _).alloc (by simp; omega) _
 have HK0 : Hid (Ks8 ps 0 (List.replicate ps.length 0) []) := Ks8.zero ps List.length_replicate
 obtain ⟨nb, hnb⟩ : ∃ nb, w.heap.size + 1 + 1 = nb := ⟨_, rfl⟩
 rw [show w.heap.size + 2 = w.heap.size + 1 + 1 from rfl, hnb] at HS0
 go_enter Tryz.func110, Tryz.ntmps110
 go_wp2
 go_loopw [17] (fun iv wr => ∃ (k : Nat) (hv : Value) (ws hl : List Nat), iv = .int .i64 (k : Int) ∧ k ≤ ps.length ∧ Hid (Po8 wr w.heap.size w.heap.size nb ps.length hv (.slice none 0 0) ws hl []) ∧ Hid (Ks8 ps k ws hl) ∧ Hid (Below w.heap.size w wr)) (fun iv _ => ps.length - (intOf iv).toNat)
 case atStart => exact ⟨0, _, _, _, rfl, by omega, HS0, HK0, HB0⟩
 case round =>
  obtain ⟨k, hv, ws, hl, rfl, hk, HS, HK, HB⟩ := hrel
  clear HS0 HB0 HK0 hmk
  by_cases hlt : (k : Int) < (ps.length : Int)
  ·
   have hk2 : k < ps.length := by omega
   have HPo : Hid (_) := implPlacesOf a ps.length cap ps k wr (HI.out.below HB.out) hk2
   obtain ⟨m, hm⟩ : ∃ m, wt8 ps [] k = m := ⟨_, rfl⟩
   have hlm : (plc ps (imsAt ps k)).length = m := by rw [← wt8_nil]; exact hm
   have hhl := HK.out.hlen (by omega)
   go_wp2_with fail
   refine Calls.mono HPo.out ?_
   rintro e w1 ⟨v1, rfl, ho1, hb1⟩
   rw [hlm] at ho1
   obtain ⟨pa, pc, rfl, _⟩ := own_nats ho1 hlm
   have s1 := HS.out.below hb1
   have hB1 : Below w.heap.size w w1 := HB.out.trans (hb1.mono HB.out.size)
   obtain ⟨s2, hB2⟩ := s1.setw hB1.size k m
   have c1 := nat_cell s1.ow s1.wl k hk2
   have f1 := s1.ow.frozenAt k
   have c2 := nat_cell s2.ow s2.wl k hk2
   rw [getD_set (by rw [s1.wl]; exact hk2), if_pos rfl] at c2
   obtain ⟨W2, hW2⟩ : ∃ W2, w1.setCell ⟨w.heap.size, k, none⟩ (.int .i64 (m : Int)) = W2 := ⟨_, rfl⟩
   rw [hW2] at s2 hB2 c2
   have HS2 : Hid (Po8 W2 w.heap.size w.heap.size nb ps.length hv (.slice none 0 0) (ws.set k m) hl []) := s2
   have HB2 : Hid (Below w.heap.size w W2) := hB1.trans hB2
   have HM : Hid (wt8 ps [] k = m) := hm
   clear HPo ho1 hb1 s1 hB1 s2 hB2 hlm hm HS HB
   by_cases hm0 : m = 0
   ·
    subst hm0
    have hW3 : w1.setCell ⟨w.heap.size, k, none⟩ (.int .i64 0) = W2 := hW2
    have c3 : W2.cell? ⟨w.heap.size, k, none⟩ = some (.int .i64 0) := c2
    go_wp2_with fail
    refine (heapPush w.heap.size nb hv hl k W2 HS2.out.hp HS2.out.hn (by omega)).mono ?_
    rintro e w3 ⟨rfl, v3, l3, h3, hn3, hp3, hw3, hat3⟩
    obtain ⟨s3, hB3⟩ := HS2.out.push HB2.out.size h3 hn3 hw3 hat3
    have HS3 : Hid (Po8 w3 w.heap.size w.heap.size nb ps.length v3 (.slice none 0 0) (ws.set k 0) l3 []) := s3
    have HB3 : Hid (Below w.heap.size w w3) := HB2.out.trans hB3
    have HK3 : Hid (Ks8 ps (k + 1) (ws.set k 0) l3) := by
     have := HK.out.push hk2 HM.out hp3
     rw [HM.out] at this
     exact this
    clear h3 hn3 hp3 hw3 hat3 s3 hB3
    go_wp2
    go_roundw
    case rel => exact ⟨k + 1, v3, _, l3, by go_num, by omega, HS3, HK3, HB3⟩
    case measure => simp [intOf]; omega
   ·
    have hmz : ¬ (m : Int) = 0 := by omega
    have HK3 : Hid (Ks8 ps (k + 1) (ws.set k m) hl) := by
     have := HK.out.pass hk2 (by rw [HM.out]; exact hm0)
     rw [HM.out] at this
     exact this
    go_wp2
    go_roundw
    case rel => exact ⟨k + 1, hv, _, hl, by go_num, by omega, HS2, HK3, HB2⟩
    case measure => simp [intOf]; omega
  ·
   obtain rfl : k = ps.length := by omega
   obtain ⟨V, hV⟩ : ∃ V, V = wr := ⟨_, rfl⟩
   subst hV
   have HA0 : Hid (Ka8 ps [] ws hl) := HK.out.start
   have HS0 : Hid (Po8 (V.alloc (.cells #[] 3)) w.heap.size w.heap.size nb ps.length hv (.slice (some ⟨V.heap.size, 0, none⟩) 0 0) ws hl []) := HS.out.newo HB.out.size
   have HB0 : Hid (Below w.heap.size w (V.alloc (.cells #[] 3))) := HB.out.alloc HB.out.size _
   clear HK HS HB
   go_wp2
   go_loopw [6] (fun ov wr => ∃ (m : Nat) (oa : Option Addr) (oc : Nat) (hv : Value) (ws hl out : List Nat), ov = .slice oa m oc ∧ m ≤ 8 ∧ Hid (out.length = m) ∧ Hid (Po8 wr w.heap.size w.heap.size nb ps.length hv (.slice oa m oc) ws hl out) ∧ Hid (Ka8 ps out ws hl) ∧ Hid (Below w.heap.size w wr)) (fun ov _ => 100 - lenS8 ov)
   case atStart => exact ⟨0, _, 0, hv, ws, hl, [], rfl, by omega, rfl, HS0, HA0, HB0⟩
   case round =>
    obtain ⟨m, oa, oc, hv, ws, hl, out, rfl, hm8, HLo, HS, HA, HB⟩ := hrel
    clear HS0 HA0 HB0
    obtain ⟨Z, hZ⟩ : ∃ Z, Z = wr := ⟨_, rfl⟩
    subst hZ
    obtain ⟨q, hq⟩ : ∃ q, hl.length = q := ⟨_, rfl⟩
    obtain ⟨ha, hc, rfl, _⟩ := own_nats (HS.out.hp.rown hq) hq
    have c0 := HS.out.hp.cell
    rcases Nat.eq_zero_or_pos q with hq0 | hq0
    ·
     subst hq0
     have hnil : hl = [] := List.eq_nil_of_length_eq_zero hq
     subst hnil
     have HE : Hid (nmsAt ps out = order8 ps ∧ (∀ x ∈ out, x < ps.length)) := ⟨HA.out.done, HA.out.lt⟩
     have HO : Hid (Z.ownsRow w.heap.size 3 1 (.slice oa m oc) out.length (natV out)) := HS.out.oo
     clear hq
     go_wp2_with (go_at_call 145; refine (upLen _ _ _ _).mono ?_; rintro e w2 ⟨rfl, hw2⟩; obtain rfl := hw2.symm)
     go_ret
     exact ⟨_, rfl, out, HO.out, HE.out.1, HE.out.2, by rw [HLo.out]; exact hm8, HB.out⟩
    ·
     obtain ⟨q, rfl⟩ : ∃ p, q = p + 1 := ⟨q - 1, by omega⟩
     obtain ⟨g, hc2, hge⟩ := own_some (HS.out.hp.rown hq) (by omega)
     injection hge with e1 _ e3
     subst e1
     subst e3
     have hhl := HA.out.hlen
     have HT : Hid (_) := implTakeFirst w.heap.size nb g q hc hl Z HS.out.hp hq HS.out.hn (by omega)
     have hqz : (0 : Int) < (q : Int) + 1 := by omega
     obtain ⟨f, hf⟩ : ∃ f, hl.getD 0 0 = f := ⟨_, rfl⟩
     rw [hf] at HT
     clear hq hf
     go_wp2_with (go_at_call 145; refine (upLen _ _ _ _).mono ?_; rintro e w2 ⟨rfl, hw2⟩; obtain rfl := hw2.symm)
     refine Calls.mono HT.out ?_
     rintro e w1 ⟨rfl, l1, h1, hn1, _, hp1, hmin1, hw1⟩
     obtain ⟨s1, hB1⟩ := HS.out.push HB.out.size h1 hn1 (hw1.mono (fun k e => e.imp id (fun e => by rw [e]; rfl))) (fun k e => Or.inl e)
     obtain ⟨kf, kb⟩ := HA.out.take HP.out hp1 hmin1
     have hBw1 := HB.out.trans hB1
     obtain ⟨g', c', Y, hr, s2, hB2⟩ := s1.app hBw1.size (by rw [HLo.out]; omega) f
     rw [HLo.out] at hr s2
     have HF : Hid (Kf8 ps out f) := kf
     have HKb0 : Hid (Kb8 ps out f 0 ws l1) := kb
     have HSb0 : Hid (Po8 Y w.heap.size w.heap.size nb ps.length (.slice (some ⟨g, 0, none⟩) q hc) (.slice (some ⟨g', 0, none⟩) (m + 1) c') ws l1 (out ++ [f])) := s2
     have HBb0 : Hid (Below w.heap.size w Y) := hBw1.trans hB2
     have hm7 : m + 1 ≤ 8 := by
      have h1 := (g_len8 kf)
      rw [HLo.out] at h1
      omega
     have hfl := kf.fl
     clear HT h1 hn1 hp1 hmin1 hw1 s1 hB1 kf kb hBw1 s2 hB2 HS HA HB c0 hhl
     go_wp2_with (at_builtin; refine wpList_append_run rfl (.tmp 46) (.tmp 48) 137 rfl _ _ _ rfl rfl hr ?_; clear hr)
     go_loopw [52] (fun iv wx => ∃ (k : Nat) (hv : Value) (ws hl : List Nat), iv = .int .i64 (k : Int) ∧ k ≤ ps.length ∧ Hid (Po8 wx w.heap.size w.heap.size nb ps.length hv (.slice (some ⟨g', 0, none⟩) (m + 1) c') ws hl (out ++ [f])) ∧ Hid (Kb8 ps out f k ws hl) ∧ Hid (Below w.heap.size w wx)) (fun iv _ => ps.length - (intOf iv).toNat)
     case atStart => exact ⟨0, _, ws, l1, rfl, by omega, HSb0, HKb0, HBb0⟩
     case round =>
      obtain ⟨k, hv, ws, hl, rfl, hk, HS, HK, HB⟩ := hrel
      clear HSb0 HKb0 HBb0
      by_cases hlt : (k : Int) < (ps.length : Int)
      ·
       have hk2 : k < ps.length := by omega
       have hok := HI.out.below HB.out
       obtain ⟨b, off, rfl, hbl, c0, ia, il, ic, fa, fl, fc, c1, c2, hpk⟩ := hok.each k hk2
       obtain ⟨b', off', he, hbl', cf, _⟩ := hok.each f hfl
       simp only [Option.some.injEq, Addr.mk.injEq, and_true] at he
       obtain ⟨rfl, rfl⟩ := he
       have hil := hpk.il
       have hti : TextsIn wr ia il (imsAt ps k) := hpk.i
       obtain ⟨x, hx⟩ : ∃ x, (ps.getD k pk0).1 = x := ⟨_, rfl⟩
       obtain ⟨y, hy⟩ : ∃ y, (ps.getD f pk0).1 = y := ⟨_, rfl⟩
       rw [hx] at c0
       rw [hy] at cf
       have HY : Hid (nmAt ps f = y) := hy
       obtain ⟨bx, hbx⟩ := Box3.new wr (.string ⟨x.toArray⟩) (.slice ia il ic) (.slice fa fl fc) 51
       obtain ⟨X, hX⟩ : ∃ X, wr.alloc (.cells #[.string ⟨x.toArray⟩, .slice ia il ic, .slice fa fl fc] 51) = X := ⟨_, rfl⟩
       rw [hX] at bx hbx
       have d0 := bx.c0
       have d1 := bx.c1
       have d2 := bx.c2
       have df : X.cell? ⟨b, off + f * 3, none⟩ = some (.string ⟨y.toArray⟩) := (hbx.cell (p := ⟨b, off + f * 3, none⟩) hbl').trans cf
       have HTi : Hid (TextsIn X ia il (imsAt ps k)) := hti.below hbx
       have HSX : Hid (Po8 X w.heap.size w.heap.size nb ps.length hv (.slice (some ⟨g', 0, none⟩) (m + 1) c') ws hl (out ++ [f])) := HS.out.below hbx
       have HBX : Hid (Below w.heap.size w X) := HB.out.trans (hbx.mono HB.out.size)
       have hfz : (f : Int) < (ps.length : Int) := by omega
       have hhl := HK.out.hlen
       have HC : Hid (∀ W, TextsIn W ia il (imsAt ps k) → Calls Tryz.prog 82 #[.slice ia il ic, .string ⟨y.toArray⟩] W fun e w' => e = .returned (.bool (decide (y ∈ imsAt ps k))) ∧ w' = W) := fun W hW => containsStr ia il ic (imsAt ps k) y W hW hil
       clear hok bx hbx hpk hti hx hy HS HB cf
       by_cases hin : y ∈ imsAt ps k
       ·
        rw [decide_eq_true hin] at HC
        obtain ⟨hd0, hd6, hd7⟩ := HK.out.less HF.out hk2 (by rw [HY.out]; exact hin)
        obtain ⟨d, hd⟩ : ∃ d, ws.getD k 0 = d + 1 := ⟨ws.getD k 0 - 1, by omega⟩
        have HKd : Hid (d ≠ 0 → Kb8 ps out f (k + 1) (ws.set k d) hl) := fun h => by
         have := HK.out.down HF.out hk2 (by rw [HY.out]; exact hin) (by rw [hd]; simpa using h)
         rw [hd] at this
         exact this
        have HKp : Hid (d = 0 → ∀ hl2 : List Nat, hl2.Perm (k :: hl) → Kb8 ps out f (k + 1) (ws.set k d) hl2) := fun h hl2 hp => by
         have := HK.out.push HF.out hk2 (by rw [HY.out]; exact hin) (by rw [hd]; simpa using h) hp
         rw [hd] at this
         exact this
        have HD : Hid (ws.getD k 0 = d + 1) := hd
        have hdb : d ≤ 5 := by omega
        clear hin hd0 hd6 hd7 hd HK
        go_wp2_with fail
        go_quiet (first | (go_at_call 82; refine Calls.quiet_of_same (HC.out _ (HTi.out.below ⟨rfl, rfl, rfl, Nat.le_refl _, fun _ _ => rfl⟩))))
        generalize hX5 : X.drewN _ = X5
        have hb5 : Below X.heap.size X X5 := by rw [← hX5]; exact ⟨rfl, rfl, rfl, Nat.le_refl _, fun _ _ => rfl⟩
        have s5 := HSX.out.below hb5
        have hB5 : Below w.heap.size w X5 := HBX.out.trans (hb5.mono HBX.out.size)
        obtain ⟨s6, hB6⟩ := s5.setw hB5.size k d
        have e1 := nat_cell s5.ow s5.wl k hk2
        rw [HD.out] at e1
        have f1 := s5.ow.frozenAt k
        have e2 := nat_cell s6.ow s6.wl k hk2
        rw [getD_set (by rw [s5.wl]; exact hk2), if_pos rfl] at e2
        obtain ⟨W6, hW6⟩ : ∃ W6, X5.setCell ⟨w.heap.size, k, none⟩ (.int .i64 (d : Int)) = W6 := ⟨_, rfl⟩
        rw [hW6] at s6 hB6 e2
        have HS6 : Hid (Po8 W6 w.heap.size w.heap.size nb ps.length hv (.slice (some ⟨g', 0, none⟩) (m + 1) c') (ws.set k d) hl (out ++ [f])) := s6
        have HB6 : Hid (Below w.heap.size w W6) := hB5.trans hB6
        clear c0 c1 c2 hX5 hb5 s5 hB5 s6 hB6 d0 d1 d2 df HC HSX HBX HD
        by_cases hd0 : d = 0
        ·
         subst hd0
         have hW7 : X5.setCell ⟨w.heap.size, k, none⟩ (.int .i64 0) = W6 := hW6
         have e3 : W6.cell? ⟨w.heap.size, k, none⟩ = some (.int .i64 0) := e2
         have e4 : X5.cell? ⟨w.heap.size, k, none⟩ = some (.int .i64 1) := e1
         go_wp2_with fail
         refine (heapPush w.heap.size nb hv hl k W6 HS6.out.hp HS6.out.hn (by omega)).mono ?_
         rintro e w7 ⟨rfl, v7, l7, h7, hn7, hp7, hw7, hat7⟩
         obtain ⟨s7, hB7⟩ := HS6.out.push HB6.out.size h7 hn7 hw7 hat7
         have HS7 : Hid (Po8 w7 w.heap.size w.heap.size nb ps.length v7 (.slice (some ⟨g', 0, none⟩) (m + 1) c') (ws.set k 0) l7 (out ++ [f])) := s7
         have HB7 : Hid (Below w.heap.size w w7) := HB6.out.trans hB7
         have HK7 : Hid (Kb8 ps out f (k + 1) (ws.set k 0) l7) := HKp.out (by simp) l7 hp7
         clear h7 hn7 hp7 hw7 hat7 s7 hB7
         go_wp2
         go_roundw
         case rel => exact ⟨k + 1, v7, _, l7, by go_num, by omega, HS7, HK7, HB7⟩
         case measure => simp [intOf]; omega
        ·
         have hdz : ¬ (d : Int) = 0 := by omega
         have HK7 : Hid (Kb8 ps out f (k + 1) (ws.set k d) hl) := HKd.out hd0
         go_wp2
         go_roundw
         case rel => exact ⟨k + 1, hv, _, hl, by go_num, by omega, HS6, HK7, HB6⟩
         case measure => simp [intOf]; omega
       ·
        rw [decide_eq_false hin] at HC
        have HK2 : Hid (Kb8 ps out f (k + 1) ws hl) := HK.out.skip HF.out hk2 (by rw [HY.out]; exact hin)
        clear hin HK
        go_wp2_with fail
        go_quiet (first | (go_at_call 82; refine Calls.quiet_of_same (HC.out _ (HTi.out.below ⟨rfl, rfl, rfl, Nat.le_refl _, fun _ _ => rfl⟩))))
        generalize hX5 : X.drewN _ = X5
        have hb5 : Below X.heap.size X X5 := by rw [← hX5]; exact ⟨rfl, rfl, rfl, Nat.le_refl _, fun _ _ => rfl⟩
        have HS5 : Hid (Po8 X5 w.heap.size w.heap.size nb ps.length hv (.slice (some ⟨g', 0, none⟩) (m + 1) c') ws hl (out ++ [f])) := HSX.out.below hb5
        have HB5 : Hid (Below w.heap.size w X5) := HBX.out.trans (hb5.mono HBX.out.size)
        clear c0 c1 c2 hX5 hb5 d0 d1 d2 df HC HSX HBX
        go_wp2
        go_roundw
        case rel => exact ⟨k + 1, hv, ws, hl, by go_num, by omega, HS5, HK2, HB5⟩
        case measure => simp [intOf]; omega
      ·
       obtain rfl : k = ps.length := by omega
       have HA2 : Hid (Ka8 ps (out ++ [f]) ws hl) := HK.out.out HF.out
       have HL2 : Hid ((out ++ [f]).length = m + 1) := by exact (by rw [List.length_append, List.length_singleton, HLo.out] : (out ++ [f]).length = m + 1)
       go_wp2
       go_roundw
       case rel => exact ⟨m + 1, _, c', hv, ws, hl, out ++ [f], rfl, by omega, HL2, HS, HA2, HB⟩
       case measure => simp [lenS8]; omega

end Go.Proofs.YtaidhjjpdkkmcaaGreatDoor

/-! The contracts of DrawHash and DrawTurned. -/
namespace Go.Proofs.YtaidhjjpdkkmcaaGreatDoor
open Go.RowKit


def pick (l : List Int) (x : Int) : Int := l.getD x.toNat 0

end Go.Proofs.YtaidhjjpdkkmcaaGreatDoor

/-! Words, and numbers that are none, are drawn. -/
namespace Go.Proofs.YtaidhjjpdkkmcaaGreatDoor
open Go.RowKit

end Go.Proofs.YtaidhjjpdkkmcaaGreatDoor

/-! A text is drawn. -/
namespace Go.Proofs.YtaidhjjpdkkmcaaGreatDoor
open Go.RowKit


end Go.Proofs.YtaidhjjpdkkmcaaGreatDoor

/-! The contracts of DrawLines, DrawWords, DrawNameOk, DrawNumberOf. -/
namespace Go.Proofs.YtaidhjjpdkkmcaaGreatDoor
open Go.RowKit



def pickT (l : List (List UInt8)) (x : Int) : List UInt8 := l.getD x.toNat []

end Go.Proofs.YtaidhjjpdkkmcaaGreatDoor

/-! A node is drawn. -/
namespace Go.Proofs.YtaidhjjpdkkmcaaGreatDoor
open Go.RowKit

theorem Code.alloc {w : World} {B : Nat} {a : Option Addr} {len : Nat} (h : Code w B a len) (hB : B ≤ w.heap.size) (o : Obj) : Code (w.alloc o) (B + 1) a len := by
 intro j hj
 obtain ⟨b, off, x, e1, e2, e3, e0⟩ := h j hj
 exact ⟨b, off, x, e1, by omega, (World.cell?_of_block (a := ⟨b, off + j, none⟩) (Below.heap_alloc _ _ _ (by show b < _; omega))).trans e3, e0⟩

end Go.Proofs.YtaidhjjpdkkmcaaGreatDoor

/-! A tree is drawn. -/
namespace Go.Proofs.YtaidhjjpdkkmcaaGreatDoor
open Go.RowKit

def SmallN (n : Nd) : Prop := IntN n ∧ n.2.2.1.length ≤ 9 ∧ n.2.2.2.length ≤ 9

def SmallT (ns : List Nd) : Prop := ∀ n ∈ ns, SmallN n

theorem own_src {w : World} {base e size n : Nat} {v : Value} {xs : List Value} (h : w.ownsRow base e size v n xs) (h1 : ∀ u ∈ xs, u.oneCell' = true) : Src w v n size xs := by
 refine ⟨h.1, h1, ?_⟩
 rcases own_forms h with ⟨rfl, rfl, _⟩ | ⟨g, cp, rfl⟩
 ·
  exact Or.inl ⟨rfl, rfl⟩
 ·
  refine Or.inr ⟨⟨g, 0, none⟩, cp, rfl, fun j u hu => ?_⟩
  have e : (⟨g, 0, none⟩ : Addr).add j = ⟨g, j, none⟩ := by unfold Addr.add; split <;> simp_all
  have hj : j < xs.length := by
   rcases Nat.lt_or_ge j xs.length with h | h
   ·
    exact h
   ·
    rw [List.getElem?_eq_none h] at hu; cases hu
  rw [e, h.cellAt j (by rw [← h.1]; exact hj)]
  exact hu

def BoxN (W : World) (D : Nat) (n : Nd) : Prop :=
 W.cell? ⟨D, 0, none⟩ = some (.int .i64 n.1) ∧ W.cell? ⟨D, 1, none⟩ = some (.int .i64 n.2.1) ∧ W.cell? ⟨D, 2, none⟩ = some (.string ⟨n.2.2.1.toArray⟩) ∧ W.cell? ⟨D, 3, none⟩ = some (.string ⟨n.2.2.2.toArray⟩) ∧ ∀ j, W.frozen? ⟨D, j, none⟩ = false

theorem BoxN.lt {W : World} {D : Nat} {n : Nd} (h : BoxN W D n) : D < W.heap.size := World.block_lt_of_cell? _ ⟨D, 0, none⟩ h.1

theorem BoxN.kept {W W' : World} {D B : Nat} {n : Nd} (h : BoxN W D n) (hg : W.grownBy W' (some B)) (hne : D ≠ B) : BoxN W' D n := by
 have hb : W'.heap[D]? = W.heap[D]? := hg.block D h.lt (by simp; omega)
 obtain ⟨h0, h1, h2, h3, hf⟩ := h
 exact ⟨(World.cell?_of_block (a := ⟨D, 0, none⟩) hb).trans h0, (World.cell?_of_block (a := ⟨D, 1, none⟩) hb).trans h1, (World.cell?_of_block (a := ⟨D, 2, none⟩) hb).trans h2, (World.cell?_of_block (a := ⟨D, 3, none⟩) hb).trans h3, fun j => (World.frozen?_of_block (a := ⟨D, j, none⟩) hb).trans (hf j)⟩

end Go.Proofs.YtaidhjjpdkkmcaaGreatDoor

/-! The contracts of chapter 9's landed code: the places in the order they are looked at, main. -/
namespace Go.Proofs.YtaidhjjpdkkmcaaGreatDoor
open Go.RowKit

theorem natV_one (l : List Nat) : ∀ u ∈ natV l, u.oneCell' = true := fun u hu => by
 obtain ⟨x, _, rfl⟩ := List.mem_map.1 hu
 rfl
set_option maxHeartbeats 1000000 in
set_option maxRecDepth 100000 in
theorem cloneNats (B : Nat) (v : Value) (l : List Nat) (w : World) (h : w.ownsRow B 3 1 v l.length (natV l)) (hlen : l.length ≤ 1000) :
 Calls Tryz.prog 161 #[v] w fun e w' => ∃ v', e = .returned v' ∧ w'.ownsRow w.heap.size 3 1 v' l.length (natV l) ∧ Below w.heap.size w w' := by
 obtain ⟨i0, hi, hz0, hz1, hz2⟩ := info_parts info3
 have hsrc := own_src h (natV_one l)
 rcases own_forms h with ⟨rfl, h0, _⟩ | ⟨g, cap, rfl⟩
 ·
  obtain rfl : l = [] := List.eq_nil_of_length_eq_zero h0
  have HO : Hid (w.ownsRow w.heap.size 3 1 (.slice none 0 0) 0 (natV [])) := World.ownsRow_nil w _ _ _
  have heq : ∀ V : World, (binOp .eql 137 (.slice none 0 0) (.slice none 0 0)).run Tryz.prog V = .ok (.bool true) V := fun V => Lib.run_eql_slice_nil V _ _ none 0 0 0 0 Tryz.underlying137
  clear h hsrc h0
  go_enter Tryz.func161, Tryz.ntmps161
  go_wp2
  go_ret
  exact ⟨_, rfl, HO.out, Below.refl _ _⟩
 ·
  have hbA : Below w.heap.size w (w.alloc (.cells #[] 3)) := (Below.refl _ _).alloc (Nat.le_refl _) _
  have hown0 := (World.ownsRow_lit (base := w.heap.size) (e := 3) (size := 1) w #[] 0 (Nat.le_refl _) (by decide) rfl)
  have hsrc2 := own_src (own_below h hbA) (natV_one l)
  obtain ⟨v', w', hrun, hown', hg, _⟩ := run_append_src (P := Tryz.prog) (w.alloc (.cells #[] 3)) w.heap.size 137 137 3 i0 _ 1 8 Tryz.underlying137 hi hz0 hz1 hz2 rfl (by decide) _ _ _ hown0 (.slice (some ⟨g, 0, none⟩) l.length cap) l.length (natV l) hsrc2 (by unfold maxLen; omega) (by omega) (by simp)
  have hb : Below w.heap.size w w' := hbA.grown hg hbA.size (fun q e => by simp [Value.ownBlock] at e; omega)
  have HO : Hid (w'.ownsRow w.heap.size 3 1 v' l.length (natV l)) := by
   simp only [Nat.zero_add] at hown'
   exact (by simpa using hown' : w'.ownsRow w.heap.size 3 1 v' l.length (natV l))
  have heq : ∀ V : World, (binOp .eql 137 (.slice (some ⟨g, 0, none⟩) l.length cap) (.slice none 0 0)).run Tryz.prog V = .ok (.bool false) V := fun V => Lib.run_eql_slice_nil V _ _ (some ⟨g, 0, none⟩) l.length cap 0 0 Tryz.underlying137
  clear hown' hg hown0 hbA h hsrc hsrc2
  go_enter Tryz.func161, Tryz.ntmps161
  go_wp2_with (at_builtin; refine wpList_append_run rfl (.tmp 5) (.tmp 6) 137 rfl _ _ _ rfl rfl hrun ?_; clear hrun)
  go_ret
  exact ⟨v', rfl, HO.out, hb⟩

set_option maxHeartbeats 4000000 in
set_option maxRecDepth 100000 in
theorem implWithLeft (B : Nat) (v : Value) (l : List Nat) (many : Nat) (w : World) (h : w.ownsRow B 3 1 v l.length (natV l)) (hlen : l.length ≤ 8) (hmany : many ≤ 8) :
 Calls Tryz.prog 134 #[v, .int .i64 (many : Int)] w fun e w' => ∃ v', e = .returned v' ∧ w'.ownsRow w.heap.size 3 1 v' (all9 l many).length (natV (all9 l many)) ∧ Below w.heap.size w w' := by
 have HCl : Hid (_) := cloneNats B v l w h (by omega)
 obtain ⟨a, c, rfl, hin⟩ := own_nats h rfl
 have HIn : Hid (NatsIn w a l.length l) := hin
 have h9 : all9 l 0 = l := by simp [all9]
 clear h hin
 go_enter Tryz.func134, Tryz.ntmps134
 go_wp2_with fail
 refine Calls.mono HCl.out ?_
 rintro e w1 ⟨v1, rfl, ho1, hb1⟩
 obtain ⟨pa, pc, rfl, -⟩ := own_nats ho1 rfl
 have HO0 : Hid (w1.ownsRow w.heap.size 3 1 (.slice pa l.length pc) l.length (natV (all9 l 0))) := by exact (by rw [h9]; exact ho1 : w1.ownsRow w.heap.size 3 1 (.slice pa l.length pc) l.length (natV (all9 l 0)))
 have HL0 : Hid ((all9 l 0).length = l.length) := by exact (by rw [h9] : (all9 l 0).length = l.length)
 have HB0 : Hid (Below w.heap.size w w1) := hb1
 clear HCl ho1 hb1 h9
 go_wp2
 go_loopw [5, 10] (fun pv iv wr => ∃ (k m : Nat) (pa : Option Addr) (pc : Nat), pv = .slice pa m pc ∧ iv = .int .i64 (k : Int) ∧ k ≤ many ∧ m ≤ 16 ∧ Hid ((all9 l k).length = m) ∧ Hid (wr.ownsRow w.heap.size 3 1 (.slice pa m pc) m (natV (all9 l k))) ∧ Hid (Below w.heap.size w wr)) (fun _ iv _ => many - (intOf iv).toNat)
 case atStart => exact ⟨0, l.length, _, _, rfl, rfl, by omega, by omega, HL0, HO0, HB0⟩
 case round =>
  obtain ⟨k, m, pa, pc, rfl, rfl, hk, hm16, HL, HO, HB⟩ := hrel
  clear HO0 HL0 HB0
  by_cases hlt : (k : Int) < (many : Int)
  ·
   have hC := containsNat a l.length c l k wr (HIn.out.below HB.out) (by omega)
   have hsucc := all9_succ l k
   have hlen9 := all9_len l (k + 1)
   by_cases hkl : k ∈ l
   ·
    rw [decide_eq_true hkl] at hC
    rw [if_pos hkl] at hsucc
    have HO2 : Hid (wr.ownsRow w.heap.size 3 1 (.slice pa m pc) m (natV (all9 l (k + 1)))) := by exact (by rw [hsucc]; exact HO.out : wr.ownsRow w.heap.size 3 1 (.slice pa m pc) m (natV (all9 l (k + 1))))
    have HL2 : Hid ((all9 l (k + 1)).length = m) := by exact (by rw [hsucc]; exact HL.out : (all9 l (k + 1)).length = m)
    have HC : Hid (_) := hC
    clear hsucc hkl hlen9 hC HO HL
    go_wp2_with fail
    refine Calls.mono HC.out ?_
    rintro e w2 ⟨rfl, hw2⟩
    obtain rfl := hw2.symm
    go_wp2
    go_roundw
    case rel => exact ⟨k + 1, m, pa, pc, rfl, by go_num, by omega, by omega, HL2, HO2, HB⟩
    case measure => simp [intOf]; omega
   ·
    rw [decide_eq_false hkl] at hC
    rw [if_neg hkl] at hsucc
    have HL2 : Hid ((all9 l (k + 1)).length = m + 1) := by exact (by rw [hsucc, List.length_append, HL.out]; rfl : (all9 l (k + 1)).length = m + 1)
    have hm1 : m + 1 ≤ 16 := by rw [HL2.out] at hlen9; omega
    obtain ⟨v', Y, hr, ho, hg, _⟩ := push_nat 137 Tryz.underlying137 k HO.out HB.out.size (by omega)
    obtain ⟨g', c', rfl⟩ := own_some ho (by omega)
    rw [← hsucc] at ho
    have HOY : Hid (Y.ownsRow w.heap.size 3 1 (.slice (some ⟨g', 0, none⟩) (m + 1) c') (m + 1) (natV (all9 l (k + 1)))) := ho
    have HBY : Hid (Below w.heap.size w Y) := HB.out.grown hg HB.out.size (fun q e => (HO.out.lt q e).1)
    have HC : Hid (_) := hC
    clear hsucc hkl hlen9 hC ho hg
    go_wp2_with fail
    refine Calls.mono HC.out ?_
    rintro e w2 ⟨rfl, hw2⟩
    obtain rfl := hw2.symm
    go_wp2_with (at_builtin; refine wpList_append_run rfl (.tmp 17) (.tmp 19) 137 rfl _ _ _ rfl rfl hr ?_; clear hr)
    go_roundw
    case rel => exact ⟨k + 1, m + 1, _, c', rfl, by go_num, by omega, by omega, HL2, HOY, HBY⟩
    case measure => simp [intOf]; omega
  ·
   obtain rfl : k = many := by omega
   go_wp2
   go_ret
   exact ⟨_, rfl, by rw [HL.out]; exact HO.out, HB.out⟩

set_option maxHeartbeats 4000000 in
set_option maxRecDepth 100000 in
theorem implHasMain (a : Option Addr) (len cap : Nat) (ps : List Pk) (w : World) (h : PkgsOk w a len cap ps) :
 Calls Tryz.prog 136 #[.slice a len cap] w fun e w' => ∃ mb : Bool, e = .returned (.bool mb) ∧ ((mb = true ∧ main9 ps = (0, [], [])) ∨ (mb = false ∧ main9 ps = (5, mainT, mainT))) ∧ Below w.heap.size w w' := by
 obtain rfl : ps.length = len := h.hlen
 have HP : Hid (_) := implPlacePk a ps.length cap ps mainT w h.in h.small
 obtain ⟨M9v, hM9⟩ : ∃ m, main9 ps = m := ⟨_, rfl⟩
 have HM : Hid (M9v = if 0 ≤ at8 ps mainT ∧ 0 ≤ atV (pkOf ps mainT).2.2 mainT ∧ ((pkOf ps mainT).2.2.getD (atV (pkOf ps mainT).2.2 mainT).toNat fn0).2.1 = 1 then (0, [], []) else (5, mainT, mainT)) := hM9.symm
 rw [hM9]
 have hsm := h.small
 clear hM9
 have hmt : (⟨mainT.toArray⟩ : ByteArray) = ⟨#[109, 97, 105, 110]⟩ := rfl
 rcases at8_is ps mainT with ⟨ea, _⟩ | ⟨f, hf, ea, _, _⟩
 ·
  have HR : Hid (M9v = (5, mainT, mainT)) := HM.out.trans (if_neg (fun e => by have := e.1; omega))
  rw [ea, hmt] at HP
  clear HM ea h
  go_enter Tryz.func136, Tryz.ntmps136
  go_wp2_with fail
  refine Calls.mono HP.out ?_
  rintro e w1 ⟨rfl, hb1⟩
  go_wp2
  go_ret
  exact ⟨_, rfl, Or.inr ⟨rfl, HR.out⟩, hb1⟩
 ·
  have hpkO : pkOf ps mainT = ps.getD f pk0 := by unfold pkOf; rw [ea, Int.toNat_natCast]
  rw [hpkO] at HM
  rw [ea, hmt] at HP
  have hfn : ((f : Int) == -1) = false := beq_eq_false_iff_ne.2 (by omega)
  have hf2 : (f : Int) < (ps.length : Int) := by omega
  have HI : Hid (PkgsOk w a ps.length cap ps) := h
  clear h hpkO
  go_enter Tryz.func136, Tryz.ntmps136
  go_wp2_with fail
  refine Calls.mono HP.out ?_
  rintro e w1 ⟨rfl, hb1⟩
  have hok := HI.out.below hb1
  obtain ⟨b, off, rfl, hbl, c0, ia, il, ic, fa, fl, fc, c1, c2, hpk⟩ := hok.each f hf
  have hflb := hpk.fl
  have hPl := implPlaceOf fa fl fc (ps.getD f pk0).2.2 mainT w1 hpk.f hpk.fl
  have hin := hpk.f
  obtain ⟨fs, hfs⟩ : ∃ fs, (ps.getD f pk0).2.2 = fs := ⟨_, rfl⟩
  rw [hfs] at hPl hin HM
  clear hpk hfs c0 c1 hok HP
  rcases at7_is fs mainT with e7 | ⟨q, hq, e7, _⟩
  ·
   have HR : Hid (M9v = (5, mainT, mainT)) := HM.out.trans (if_neg (fun e => by have := e.2.1; omega))
   rw [e7, hmt] at hPl
   have HPl : Hid (_) := hPl
   clear HM e7 hPl
   go_wp2_with fail
   refine Calls.mono HPl.out ?_
   rintro e w2 ⟨rfl, hb2⟩
   have HB2 : Hid (Below w.heap.size w w2) := hb1.trans (hb2.mono hb1.size)
   clear hb1 hb2
   go_wp2
   go_ret
   exact ⟨_, rfl, Or.inr ⟨rfl, HR.out⟩, HB2.out⟩
  ·
   rw [e7, hmt] at hPl
   have HPl : Hid (_) := hPl
   have hqn : ((q : Int) != -1) = true := by rw [bne_iff_ne]; omega
   have hql : fs.length = fl := hin.1
   have hq2 : (q : Int) < (fl : Int) := by omega
   obtain ⟨b2, o2, rfl, hb2l, r0, r1, _⟩ := hin.2 q (by omega)
   rw [e7, Int.toNat_natCast] at HM
   obtain ⟨ag, hag⟩ : ∃ ag, (fs.getD q fn0).2.1 = ag := ⟨_, rfl⟩
   rw [hag] at r1 HM
   clear e7 hPl hag hin r0
   go_wp2_with fail
   refine Calls.mono HPl.out ?_
   rintro e w2 ⟨rfl, hb2⟩
   have HB2 : Hid (Below w.heap.size w w2) := hb1.trans (hb2.mono hb1.size)
   have s2 := (hb2.cell (p := ⟨b, off + f * 3 + 2, none⟩) hbl).trans c2
   have s1 := (hb2.cell (p := ⟨b2, o2 + q * 3 + 1, none⟩) hb2l).trans r1
   clear hb1 hb2 c2 r1
   by_cases hA : ag = 1
   ·
    subst hA
    have HR : Hid (M9v = (0, [], [])) := HM.out.trans (if_pos ⟨by omega, by omega, rfl⟩)
    clear HM
    go_wp2
    go_ret
    exact ⟨_, rfl, Or.inl ⟨rfl, HR.out⟩, HB2.out⟩
   ·
    have hAb : (ag == 1) = false := beq_eq_false_iff_ne.2 hA
    have HR : Hid (M9v = (5, mainT, mainT)) := HM.out.trans (if_neg (fun e => hA e.2.2))
    clear HM
    go_wp2
    go_ret
    exact ⟨_, rfl, Or.inr ⟨rfl, HR.out⟩, HB2.out⟩

end Go.Proofs.YtaidhjjpdkkmcaaGreatDoor
