/-
  Parts of one proof, one behind the other: LsB, ObIn, OsIn.
-/
import Derived.Test.YteolfnceobjonaaGreatP22
import Derived.Test.YteolfnceobjonaaGreatP14
import Derived.Test.YteolfnceobjonaaGreatP9
import Derived.Test.YteolfnceobjonaaGreatP10
import Derived.SliceStrings
import Derived.Test.YteolfnceobjonaaGreatP11

/-! Contracts of chapter 16's specification: l16Missing, Missing. -/
namespace Go.Proofs.YteolfnceobjonaaGreat
open Go.RowKit

theorem getD_mem16 {α : Type} (l : List α) (d : α) {j : Nat} (hj : j < l.length) : l.getD j d ∈ l := by rw [List.getD_eq_getElem?_getD, List.getElem?_eq_getElem hj]; exact List.getElem_mem hj
theorem outN_append (rs : List Rt) (xs ys : List Fc) : outN rs (xs ++ ys) = outN rs xs ++ outN rs ys := by unfold outN; rw [List.map_append, List.filter_append]
theorem mis16_step (rs : List Rt) (cs : List Fc) (c : Fc) : mis16 rs (cs ++ [c]) = if c.1 ∈ nms16 rs then mis16 rs cs else put8 (mis16 rs cs) c.1 := by
  unfold mis16
  rw [outN_append]
  by_cases h : c.1 ∈ nms16 rs
  · rw [if_pos h]
    have : outN rs [c] = [] := by unfold outN; simp [h]
    rw [this, List.append_nil]
  · rw [if_neg h]
    have : outN rs [c] = [c.1] := by unfold outN; simp [h]
    rw [this, set16_snoc]
set_option maxHeartbeats 16000000 in
set_option maxRecDepth 100000 in
theorem specMis16 (a : Option Addr) (len cap : Nat) (os : List Ob) (w : World) (hin : ObjsIn w a len os) (hB : objsB os = true) :
    Calls Tryz.prog 42 #[.slice a len cap] w fun e w' => ∃ g c, e = .returned (.slice (some ⟨g, 0, none⟩) (mis16 (rts16 os) (calls16 (rts16 os))).length c) ∧ w'.ownsRow w.heap.size 9 1 (.slice (some ⟨g, 0, none⟩) (mis16 (rts16 os) (calls16 (rts16 os))).length c) (mis16 (rts16 os) (calls16 (rts16 os))).length (strV (mis16 (rts16 os) (calls16 (rts16 os)))) ∧ Below w.heap.size w w' := by
  have hl := hin.1
  have h8 : len ≤ 8 := by have := (objsB_parts hB).2; omega
  have HI : Hid (ObjsIn w a len os) := hin
  have HC0 : Hid (_) := specDef16 a len cap os w hin hB
  have HDm : Hid (∀ s, s ∈ def16 (rts16 os) ↔ s ∈ nms16 (rts16 os)) := fun s => set16_mem
  have HDl : Hid ((def16 (rts16 os)).length ≤ 1000) := by
    have h1 := set16_len (nms16 (rts16 os))
    have h2 := (rts16_len (objsB_parts hB).1).2
    have h3 : (nms16 (rts16 os)).length = (rts16 os).length := by unfold nms16; rw [List.length_map]
    show (def16 (rts16 os)).length ≤ 1000
    unfold def16; omega
  have HOb : Hid (∀ k, k < len → rts16 (os.take (k + 1)) = rts16 (os.take k) ++ (os.getD k ob0).2.2 ∧ (os.getD k ob0).2.2.length ≤ 8 ∧ (∀ j, j < (os.getD k ob0).2.2.length → ((os.getD k ob0).2.2.getD j rt0).2.2.length ≤ 200)) := fun k hk => by
    have hm := (objsB_parts hB).1
    have hmm : os.getD k ob0 ∈ os := by rw [List.getD_eq_getElem?_getD, List.getElem?_eq_getElem (by omega)]; exact List.getElem_mem (by omega)
    have ho := hm _ hmm
    refine ⟨rts16_take os k (by omega), (objB_parts ho).l.2, fun j hj => ?_⟩
    have hr := objB_rt ho (getD_mem16 (os.getD k ob0).2.2 rt0 hj)
    exact (codeB_len (rtB_parts hr).2.2.1).2
  have HAll : Hid (rts16 (os.take len) = rts16 os) := by exact (by rw [List.take_of_length_le (by omega)] : rts16 (os.take len) = rts16 os)
  have HZ0 : Hid (rts16 (os.take 0) = []) := by exact (by simp [rts16] : rts16 (os.take 0) = [])
  obtain ⟨ds, hds⟩ : ∃ ds, def16 (rts16 os) = ds := ⟨_, rfl⟩
  rw [hds] at HC0 HDm HDl
  obtain ⟨RS, hRS⟩ : ∃ RS, rts16 os = RS := ⟨_, rfl⟩
  rw [hRS] at HDm HAll ⊢
  clear hin hB hl hds hRS
  go_enter Tryz.func42, Tryz.ntmps42
  go_wp2_with fail
  refine Calls.mono HC0.out ?_
  rintro e w0 ⟨gd, cd0, rfl, hrd, hbd0⟩
  have HD0 : Hid (∀ X, Below w0.heap.size w0 X → TextsIn X (some ⟨gd, 0, none⟩) ds.length ds) := fun X hX => by
    obtain ⟨a', c', e', _, ht⟩ := own_textsO (own_below hrd hX)
    injection e' with e1 _ _
    subst e1
    exact ht
  have HX0 : Hid ((w0.alloc (.cells #[] 9)).ownsRow w0.heap.size 9 1 (.slice (some ⟨w0.heap.size, 0, none⟩) 0 0) 0 (strV []) ∧ Below w0.heap.size w0 (w0.alloc (.cells #[] 9))) := ⟨World.ownsRow_lit w0 #[] 0 (Nat.le_refl _) (by decide) rfl, (Below.refl _ _).alloc (Nat.le_refl _) _⟩
  have HB0 : Hid (Below w.heap.size w w0) := hbd0
  obtain ⟨nd, hnd⟩ : ∃ nd, ds.length = nd := ⟨_, rfl⟩
  have hndl := HDl.out
  rw [hnd] at HD0 hndl ⊢
  have HI0 : Hid (ObjsIn w0 a len os) := HI.out.below hbd0
  clear HC0 hrd hbd0 hnd HI HDl
  go_wp2
  go_loopw [4, 5] (fun vv iv wr => ∃ (k g c : Nat) (ts : List (List UInt8)), iv = .int .i64 (k : Int) ∧ k ≤ len ∧ vv = .slice (some ⟨g, 0, none⟩) ts.length c ∧ ts.length ≤ 1600 * k ∧ Hid (ts = mis16 RS (calls16 (rts16 (os.take k)))) ∧ Hid (wr.ownsRow w0.heap.size 9 1 (.slice (some ⟨g, 0, none⟩) ts.length c) ts.length (strV ts) ∧ Below w0.heap.size w0 wr)) (fun _ iv _ => len - (intOf iv).toNat)
  case atStart => exact ⟨0, w0.heap.size, 0, [], rfl, Nat.zero_le _, rfl, by simp, (by rw [HZ0.out]; simp [mis16, outN, calls16, set16] : ([] : List (List UInt8)) = mis16 RS (calls16 (rts16 (os.take 0)))), HX0⟩
  case round =>
    obtain ⟨k, g, c, ts, rfl, hk, rfl, htl, HM, HX⟩ := hrel
    clear HX0
    by_cases hlt : (k : Int) < (len : Int)
    · obtain ⟨hst, hle, hcl⟩ := HOb.out k (by omega)
      obtain ⟨b, off, rfl, hbl, d0, ia, il, ic, fa, fl, fc, d1, d2, hii, hff⟩ := HI0.out.2 k (by omega)
      obtain ⟨o, ho⟩ : ∃ o, os.getD k ob0 = o := ⟨_, rfl⟩
      rw [ho] at hst hle hff hcl
      obtain ⟨nm, ims, rs⟩ := o
      simp only at hst hle hff hcl
      have c2 := (HX.out.2.cell (p := ⟨b, off + k * 3 + 2, none⟩) hbl).trans d2
      obtain rfl : rs.length = fl := hff.1
      have HF : Hid (RtsIn w0 fa rs.length rs) := hff
      have HD2 : Hid (w0.cell? ⟨b, off + k * 3 + 2, none⟩ = some (.slice fa rs.length fc)) := d2
      have HCL : Hid (∀ j, j < rs.length → (rs.getD j rt0).2.2.length ≤ 200) := hcl
      obtain ⟨qs, hqs⟩ : ∃ qs, rts16 (os.take k) = qs := ⟨_, rfl⟩
      rw [hqs] at hst HM
      have HTk : Hid (∀ j, j < rs.length → calls16 (qs ++ rs.take (j + 1)) = calls16 (qs ++ rs.take j) ++ calR (rs.getD j rt0).2.2) := fun j hj => by
        rw [calls16_append, calls16_append, calls16_take rs j hj, List.append_assoc]
      have HEn : Hid (calls16 (qs ++ rs.take rs.length) = calls16 (rts16 (os.take (k + 1)))) := by exact (by rw [List.take_of_length_le (Nat.le_refl _), hst] : calls16 (qs ++ rs.take rs.length) = calls16 (rts16 (os.take (k + 1))))
      have HZ : Hid (ts = mis16 RS (calls16 (qs ++ rs.take 0))) := by exact (by rw [List.take_zero, List.append_nil]; exact HM.out : ts = mis16 RS (calls16 (qs ++ rs.take 0)))
      obtain ⟨m, hm⟩ : ∃ m, rs.length = m := ⟨_, rfl⟩
      rw [hm] at c2 HF HD2 HTk HEn hle HCL
      clear hst ho hff hqs HM hm d0 d1 d2 hii hcl
      go_wp2
      go_loopw [4, 6] (fun vv jv wx => ∃ (j g c : Nat) (us : List (List UInt8)), jv = .int .i64 (j : Int) ∧ j ≤ m ∧ vv = .slice (some ⟨g, 0, none⟩) us.length c ∧ us.length ≤ 1600 * k + 200 * j ∧ Hid (us = mis16 RS (calls16 (qs ++ rs.take j))) ∧ Hid (wx.ownsRow w0.heap.size 9 1 (.slice (some ⟨g, 0, none⟩) us.length c) us.length (strV us) ∧ Below w0.heap.size w0 wx)) (fun _ jv _ => m - (intOf jv).toNat)
      case atStart => exact ⟨0, g, c, ts, rfl, Nat.zero_le _, rfl, by omega, HZ, HX⟩
      case round =>
        clear HX c2 HZ htl
        obtain ⟨j, g, c, us, rfl, hj, rfl, hul, HM, HX⟩ := hrel
        have c2 := (HX.out.2.cell (p := ⟨b, off + k * 3 + 2, none⟩) hbl).trans HD2.out
        by_cases hjm : (j : Int) < (m : Int)
        · obtain ⟨b2, off2, hfa, hbl2, e0, e1, ca, cl, cc, e2, hins⟩ := HF.out.2 j (by omega)
          subst hfa
          have f2 := (HX.out.2.cell (p := ⟨b2, off2 + j * 3 + 2, none⟩) hbl2).trans e2
          have hst := HTk.out j (by omega)
          have hcl := HCL.out j (by omega)
          obtain ⟨cd, hcd⟩ : ∃ cd, (rs.getD j rt0).2.2 = cd := ⟨_, rfl⟩
          rw [hcd] at hst hcl hins
          obtain rfl : cd.length = cl := hins.1
          have HIn : Hid (InsIn w0 ca cd.length cd) := hins
          obtain ⟨cs, hcs⟩ : ∃ cs, calls16 (qs ++ rs.take j) = cs := ⟨_, rfl⟩
          rw [hcs] at hst HM
          have HTk2 : Hid (∀ i, i < cd.length → calR (cd.take (i + 1)) = if (cd.getD i in0).1 = 9 then calR (cd.take i) ++ [((cd.getD i in0).2.2.2.2, (cd.getD i in0).2.2.1)] else calR (cd.take i)) := fun i hi => calR_take cd i hi
          have HEn2 : Hid (calls16 (qs ++ rs.take (j + 1)) = cs ++ calR (cd.take cd.length)) := by exact (by rw [List.take_of_length_le (Nat.le_refl _), hst] : calls16 (qs ++ rs.take (j + 1)) = cs ++ calR (cd.take cd.length))
          have HZ2 : Hid (us = mis16 RS (cs ++ calR (cd.take 0))) := by exact (by rw [show calR (cd.take 0) = [] by simp [calR], List.append_nil]; exact HM.out : us = mis16 RS (cs ++ calR (cd.take 0)))
          obtain ⟨n, hn⟩ : ∃ n, cd.length = n := ⟨_, rfl⟩
          rw [hn] at f2 HIn HTk2 HEn2 hcl
          clear hst hcd hins hcs HM hn e0 e1 e2
          go_wp2
          go_loopw [4, 8] (fun vv iv wy => ∃ (i g c : Nat) (vs : List (List UInt8)), iv = .int .i64 (i : Int) ∧ i ≤ n ∧ vv = .slice (some ⟨g, 0, none⟩) vs.length c ∧ vs.length ≤ us.length + i ∧ Hid (vs = mis16 RS (cs ++ calR (cd.take i))) ∧ Hid (wy.ownsRow w0.heap.size 9 1 (.slice (some ⟨g, 0, none⟩) vs.length c) vs.length (strV vs) ∧ Below w0.heap.size w0 wy)) (fun _ iv _ => n - (intOf iv).toNat)
          case atStart => exact ⟨0, g, c, us, rfl, Nat.zero_le _, rfl, by omega, HZ2, HX⟩
          case round =>
            clear HX c2 f2 HZ2
            obtain ⟨i, g, c, vs, rfl, hi, rfl, hvl, HM, HX⟩ := hrel
            by_cases hin : (i : Int) < (n : Int)
            · obtain ⟨b3, off3, rfl, hbl3, x0, x1, x2, x3, x4⟩ := (HIn.out.below HX.out.2).2 i (by omega)
              have hst := HTk2.out i (by omega)
              obtain ⟨q, hq⟩ : ∃ q, cd.getD i in0 = q := ⟨_, rfl⟩
              rw [hq] at x0 x4 hst
              obtain ⟨ik, iR, iA, iB, inm⟩ := q
              simp only at x0 x4 hst
              by_cases h9 : ik = 9
              · subst h9
                rw [if_pos rfl] at hst
                have hms := mis16_step RS (cs ++ calR (cd.take i)) (inm, iA)
                rw [List.append_assoc, ← hst, ← HM.out] at hms
                simp only at hms
                have HC : Hid (_) := specHas (some ⟨gd, 0, none⟩) nd cd0 ds inm wr (HD0.out wr HX.out.2) (by omega)
                by_cases hmem : inm ∈ ds
                · rw [decide_eq_true hmem] at HC
                  rw [if_pos ((HDm.out inm).1 hmem)] at hms
                  have HM2 : Hid (vs = mis16 RS (cs ++ calR (cd.take (i + 1)))) := hms.symm
                  clear hst hms hmem hq HM
                  go_wp2_with fail
                  refine Calls.mono HC.out ?_
                  rintro e w1 ⟨rfl, rfl⟩
                  clear HC
                  go_wp2
                  go_roundw
                  case rel => exact ⟨i + 1, g, c, vs, by go_num, by omega, rfl, by omega, HM2, HX⟩
                  case measure => simp [intOf]; omega
                · rw [decide_eq_false hmem] at HC
                  rw [if_neg (fun h => hmem ((HDm.out inm).2 h))] at hms
                  have hpl := (put8_len vs inm).2
                  have HC2 : Hid (_) := specPut w0.heap.size g c vs inm wr HX.out.1 HX.out.2.size (by omega)
                  have HM2 : Hid (mis16 RS (cs ++ calR (cd.take (i + 1))) = put8 vs inm) := hms
                  have HB : Hid (Below w0.heap.size w0 wr) := HX.out.2
                  clear hst hms hmem hq HM HX
                  go_wp2_with fail
                  refine Calls.mono HC.out ?_
                  rintro e w1 ⟨rfl, rfl⟩
                  clear HC
                  go_wp2_with fail
                  refine Calls.mono HC2.out ?_
                  rintro e w2 ⟨g2, c3, rfl, hr2, hb2⟩
                  have HX2 : Hid (w2.ownsRow w0.heap.size 9 1 (.slice (some ⟨g2, 0, none⟩) (put8 vs inm).length c3) (put8 vs inm).length (strV (put8 vs inm)) ∧ Below w0.heap.size w0 w2) := ⟨hr2, HB.out.trans (hb2.mono HB.out.size)⟩
                  clear hr2 hb2 HC2
                  generalize put8 vs inm = zs at HX2 HM2 hpl
                  go_wp2
                  go_roundw
                  case rel => exact ⟨i + 1, g2, c3, zs, by go_num, by omega, rfl, by omega, HM2.out.symm, HX2⟩
                  case measure => simp [intOf]; omega
              · rw [if_neg h9] at hst
                have HM2 : Hid (vs = mis16 RS (cs ++ calR (cd.take (i + 1)))) := by exact (by rw [hst]; exact HM.out : vs = mis16 RS (cs ++ calR (cd.take (i + 1))))
                have h9b : (ik == 9) = false := beq_eq_false_iff_ne.2 h9
                clear hst hq HM
                go_wp2
                go_roundw
                case rel => exact ⟨i + 1, g, c, vs, by go_num, by omega, rfl, by omega, HM2, HX⟩
                case measure => simp [intOf]; omega
            · obtain rfl : i = n := by omega
              have HM2 : Hid (vs = mis16 RS (calls16 (qs ++ rs.take (j + 1)))) := by exact (by rw [HEn2.out]; exact HM.out : vs = mis16 RS (calls16 (qs ++ rs.take (j + 1))))
              go_wp2
              go_roundw
              case rel => exact ⟨j + 1, g, c, vs, by go_num, by omega, rfl, by omega, HM2, HX⟩
              case measure => simp [intOf]; omega
        · obtain rfl : j = m := by omega
          have HM2 : Hid (us = mis16 RS (calls16 (rts16 (os.take (k + 1))))) := by exact (by rw [← HEn.out]; exact HM.out : us = mis16 RS (calls16 (rts16 (os.take (k + 1)))))
          go_wp2
          go_roundw
          case rel => exact ⟨k + 1, g, c, us, by go_num, by omega, rfl, by omega, HM2, HX⟩
          case measure => simp [intOf]; omega
    · obtain rfl : k = len := by omega
      have HM2 : Hid (ts = mis16 RS (calls16 RS)) := by exact (by rw [HAll.out] at HM; exact HM.out : ts = mis16 RS (calls16 RS))
      have HR : Hid (wr.ownsRow w.heap.size 9 1 (.slice (some ⟨g, 0, none⟩) ts.length c) ts.length (strV ts) ∧ Below w.heap.size w wr) := ⟨own_base HX.out.1 HB0.out.size, HB0.out.trans (HX.out.2.mono HB0.out.size)⟩
      clear HX
      go_wp2
      go_ret
      exact ⟨g, c, by rw [← HM2.out]; rfl, by rw [← HM2.out]; exact HR.out.1, HR.out.2⟩

set_option maxHeartbeats 2000000 in
set_option maxRecDepth 100000 in
theorem specMissing (a : Option Addr) (len cap : Nat) (os : List Ob) (w : World) (hin : ObjsIn w a len os) (hlen : len ≤ 1048576) (hsh : ShortOs os) :
    Calls Tryz.prog 16 #[.slice a len cap] w fun e w' => ∃ g c, e = .returned (.slice (some ⟨g, 0, none⟩) (missingV os).length c) ∧ w'.ownsRow w.heap.size 9 1 (.slice (some ⟨g, 0, none⟩) (missingV os).length c) (missingV os).length (strV (missingV os)) ∧ Below w.heap.size w w' := by
  have HC : Hid (_) := specOk16 a len cap os w hin hlen hsh
  rcases hB : objsB os with _ | _
  · have HV : Hid (missingV os = []) := by exact (by unfold missingV; rw [hB]; rfl : missingV os = [])
    rw [hB] at HC
    clear hin hsh hB
    go_enter Tryz.func16, Tryz.ntmps16
    go_wp2_with fail
    refine Calls.mono HC.out ?_
    rintro e w1 ⟨rfl, hb1⟩
    have HR : Hid ((w1.alloc (.cells #[] 9)).ownsRow w.heap.size 9 1 (.slice (some ⟨w1.heap.size, 0, none⟩) 0 0) 0 (strV []) ∧ Below w.heap.size w (w1.alloc (.cells #[] 9))) := ⟨World.ownsRow_lit w1 #[] 0 hb1.size (by decide) rfl, hb1.alloc hb1.size _⟩
    clear hb1 HC
    go_wp2
    go_ret
    rw [HV.out]
    exact ⟨_, _, rfl, HR.out.1, HR.out.2⟩
  · have HV : Hid (missingV os = mis16 (rts16 os) (calls16 (rts16 os))) := by exact (by unfold missingV; rw [if_pos hB] : missingV os = mis16 (rts16 os) (calls16 (rts16 os)))
    have HD : Hid (∀ X, Below w.heap.size w X → Calls Tryz.prog 42 #[.slice a len cap] X fun e w' => ∃ g c, e = .returned (.slice (some ⟨g, 0, none⟩) (mis16 (rts16 os) (calls16 (rts16 os))).length c) ∧ w'.ownsRow X.heap.size 9 1 (.slice (some ⟨g, 0, none⟩) (mis16 (rts16 os) (calls16 (rts16 os))).length c) (mis16 (rts16 os) (calls16 (rts16 os))).length (strV (mis16 (rts16 os) (calls16 (rts16 os)))) ∧ Below X.heap.size X w') := fun X hX => specMis16 a len cap os X (hin.below hX) hB
    rw [hB] at HC
    rw [HV.out]
    clear hin hsh hB
    generalize mis16 (rts16 os) (calls16 (rts16 os)) = ts at HD ⊢
    go_enter Tryz.func16, Tryz.ntmps16
    go_wp2_with fail
    refine Calls.mono HC.out ?_
    rintro e w1 ⟨rfl, hb1⟩
    have HC2 : Hid (_) := HD.out w1 hb1
    have HB1 : Hid (Below w.heap.size w w1) := hb1
    clear HC HD hb1
    go_wp2_with fail
    refine Calls.mono HC2.out ?_
    rintro e w2 ⟨g, c, rfl, hr2, hb2⟩
    have HR : Hid (w2.ownsRow w.heap.size 9 1 (.slice (some ⟨g, 0, none⟩) ts.length c) ts.length (strV ts) ∧ Below w.heap.size w w2) := ⟨own_base hr2 HB1.out.size, HB1.out.trans (hb2.mono HB1.out.size)⟩
    clear HC2 hr2 hb2 HB1
    go_wp2
    go_ret
    exact ⟨g, c, rfl, HR.out.1, HR.out.2⟩

end Go.Proofs.YteolfnceobjonaaGreat

/-! An object that came in, as the walks take it. -/
namespace Go.Proofs.YteolfnceobjonaaGreat
open Go.ChangeShapes Go.WideShapes Go.ChangeAt Go.RowKit Go.Joins Go.Deep

section
variable {H : Type} {enc : TypeId × Value → H} {W : World} {base : Nat} {spare : Nat → Bool} {held : Bool} {fuel : Nat} {v : Value} {x : DataW H × List MemPlace}

set_option maxRecDepth 100000 in
theorem trod_textsO (hf : DataW.trod enc Tryz.prog W base spare held fuel 24 [v] = some x) :
    ∃ a len cap ts, v = .slice a len cap ∧ TextsIn W a len ts ∧ len ≤ maxLen ∧ ∀ j, (ts.getD j []).length ≤ maxLen := by
  rcases open_strings Tryz.underlying24 Tryz.underlying9 (by kernel_rfl) hf with ⟨hcs, _⟩ | ⟨a, len, cap, ss, hcs, _, hl, hm, hlen, _, hcell, hsz⟩
  · simp at hcs
    subst hcs
    exact ⟨none, 0, 0, [], rfl, ⟨rfl, fun j hj => by omega⟩, by decide, fun j => by simp⟩
  · simp at hcs
    subst hcs
    have hls : len ≤ ss.length := by rw [hlen]; split <;> omega
    have hgd : ∀ j, j < len → ((ss.take len).map (fun s => s.data.toList)).getD j [] = (ss.getD j ByteArray.empty).data.toList := by
      intro j hj
      have hj2 : j < ss.length := by omega
      simp [List.getD, hj, hj2]
    refine ⟨some a, len, cap, (ss.take len).map (fun s => s.data.toList), rfl, ⟨by simp; omega, fun j hj => ?_⟩, by omega, fun j => ?_⟩
    · have hc := hcell j (by omega)
      have hsp : a.spot = none := by
        have h0 := hcell 0 (by omega)
        simpa [Addr.add] using World.cell?_spot h0
      obtain ⟨b, off, spot⟩ := a
      simp at hsp
      subst hsp
      have e : ∀ i, (⟨b, off, none⟩ : Addr).add i = ⟨b, off + i, none⟩ := fun i => by unfold Addr.add; split <;> simp_all
      rw [e] at hc
      refine ⟨b, off, rfl, World.block_lt_of_cell? W ⟨b, off + j, none⟩ hc, ?_⟩
      rw [hc, hgd j hj]
    · by_cases hj : j < len
      · rw [hgd j hj]
        have hj2 : j < ss.length := by omega
        have : ss.getD j ByteArray.empty ∈ ss := by simp [List.getD, hj2]
        have hz := hsz _ this
        simpa using hz
      · have : ((ss.take len).map (fun s => s.data.toList)).getD j [] = [] := by rw [List.getD, List.getElem?_eq_none (by simp; omega)]; rfl
        rw [this]; simp

end

theorem cellsObject : Tryz.prog.cellsOf 59 = 3 := by kernel_rfl
end Go.Proofs.YteolfnceobjonaaGreat

/-! A list of objects that came in, as the walks take it. -/
namespace Go.Proofs.YteolfnceobjonaaGreat
open Go.ChangeShapes Go.WideShapes Go.ChangeAt Go.RowKit Go.Joins Go.Deep

section
variable {H : Type} {enc : TypeId × Value → H} {W : World} {base : Nat} {spare : Nat → Bool} {held : Bool} {fuel : Nat} {v : Value} {x : DataW H × List MemPlace}

set_option maxRecDepth 100000 in
theorem trod_objs (hf : DataW.trod enc Tryz.prog W base spare held fuel 22 [v] = some x) :
    ∃ a len cap os, v = .slice a len cap ∧ ObjsIn W a len os ∧ len ≤ maxLen ∧ LongOs os ∧ IntOs os := by
  rcases open_slice Tryz.underlying22 hf with ⟨hcs, _⟩ | ⟨a, len, cap, q, n, D, Pl, hcs, _, hl, hm, hq, _, hx⟩
  · simp at hcs
    subst hcs
    exact ⟨none, 0, 0, [], rfl, ⟨rfl, fun j hj => by omega⟩, by decide, (fun j => by simp [ob0, LongR, rt0, LongI, in0]), (fun j i => ⟨by simp [ob0, rt0], by simp [ob0, rt0, IntIs, IntI, in0]⟩)⟩
  · simp at hcs
    subst hcs
    have hlq : len ≤ q := by rw [hq]; split <;> omega
    have each : ∀ i, i < len → ∃ y : Ob, W.cell? (a.add (i * 3)) = some (.string ⟨y.1.toArray⟩) ∧
        (∃ ia il ic fa fl fc, W.cell? (a.add (i * 3 + 1)) = some (.slice ia il ic) ∧ W.cell? (a.add (i * 3 + 2)) = some (.slice fa fl fc) ∧ TextsIn W ia il y.2.1 ∧ RtsIn W fa fl y.2.2) ∧
        (y.1.length ≤ maxLen ∧ y.2.1.length ≤ maxLen ∧ (∀ i, (y.2.1.getD i []).length ≤ maxLen) ∧ y.2.2.length ≤ maxLen ∧ LongR y.2.2) ∧ IntR y.2.2 := by
      intro i hi
      obtain ⟨cs', h1, h2⟩ := hx i (by omega)
      rw [cellsObject] at h1
      obtain ⟨_, hlen, hcell⟩ := World.cells?_some h1
      match cs', hlen with
      | [v0, v1, v2], _ =>
        obtain ⟨y0, y1, y2, k, _, _, t0, t1, t2⟩ := trod_struct3 Tryz.underlying59 h2
        have k9 : Tryz.prog.cellsOf 9 = 1 := by kernel_rfl
        have ks : Tryz.prog.cellsOf 24 = 1 := by kernel_rfl
        have kf : Tryz.prog.cellsOf 57 = 1 := by kernel_rfl
        simp [k9, ks, kf] at t0 t1 t2
        obtain ⟨s0, e0, _, z0⟩ := DataW.trod_string Tryz.underlying9 t0
        obtain ⟨ia, il, ic, ims, e1, hti, hil, him⟩ := trod_textsO t1
        obtain ⟨fa, fl, fc, fs, e2, hfi, hfl, hlf, hif⟩ := trod_rts t2
        simp at e0
        subst e0 e1 e2
        have g0 := hcell 0 (by omega)
        have g1 := hcell 1 (by omega)
        have g2 := hcell 2 (by omega)
        rw [add_add] at g0 g1 g2
        exact ⟨(s0.data.toList, ims, fs), by simpa using g0, ⟨ia, il, ic, fa, fl, fc, by simpa using g1, by simpa using g2, hti, hfi⟩, ⟨z0, by rw [show ((s0.data.toList, ims, fs) : Ob).2.1 = ims from rfl, hti.1]; exact hil, him, by rw [show ((s0.data.toList, ims, fs) : Ob).2.2 = fs from rfl, hfi.1]; exact hfl, hlf⟩, hif⟩
    obtain ⟨f, hf2⟩ := choose_lt each
    have hgd : ∀ j, j < len → ((List.range len).map f).getD j ob0 = f j := fun j hj => by simp [List.getD, hj]
    have hge : ∀ j, ¬ j < len → ((List.range len).map f).getD j ob0 = ob0 := fun j hj => by simp [List.getD, hj]
    refine ⟨some a, len, cap, (List.range len).map f, rfl, ⟨by simp, fun j hj => ?_⟩, by omega, (fun j => ?_), (fun j => ?_)⟩
    rotate_left
    · by_cases hj : j < len
      · rw [hgd j hj]; exact (hf2 j hj).2.2.1
      · rw [hge j hj]; simp [ob0, LongR, rt0, LongI, in0]
    · by_cases hj : j < len
      · rw [hgd j hj]; exact (hf2 j hj).2.2.2
      · rw [hge j hj]; exact fun i => ⟨by simp [ob0, rt0], by simp [ob0, rt0, IntIs, IntI, in0]⟩
    obtain ⟨c0, ⟨ia, il, ic, fa, fl, fc, c1, c2, hti, hfi⟩, _, _⟩ := hf2 j hj
    have hsp : a.spot = none := by
      have h0 := (hf2 0 (by omega)).1
      simpa [Addr.add] using World.cell?_spot h0
    obtain ⟨b, off, spot⟩ := a
    simp at hsp
    subst hsp
    have e : ∀ i, (⟨b, off, none⟩ : Addr).add i = ⟨b, off + i, none⟩ := fun i => by unfold Addr.add; split <;> simp_all
    rw [e] at c0 c1 c2
    rw [hgd j hj]
    exact ⟨b, off, rfl, World.block_lt_of_cell? W ⟨b, off + j * 3, none⟩ c0, c0, ia, il, ic, fa, fl, fc, by rw [Nat.add_assoc]; exact c1, by rw [Nat.add_assoc]; exact c2, hti, hfi⟩

end

set_option maxRecDepth 100000 in
theorem open_objects {H : Type} {enc : TypeId × Value → H} {W : World} {base b0 : Nat} {spare : Nat → Bool} {held : Bool} {v : Value} {d : DataW H} {p : List MemPlace}
    (hv : Value.okWide Tryz.prog W .any b0 22 v) (h : DataW.Trod enc Tryz.prog W base spare held 22 v d p) :
    ∃ a len cap os, v = .slice a len cap ∧ ObjsIn W a len os ∧ len ≤ maxLen ∧ LongOs os ∧ IntOs os := by
  obtain ⟨a0, len, cap, rfl⟩ := okWide_slice Tryz.underlying22 hv
  obtain ⟨fuel, hf⟩ := h
  exact trod_objs (v := .slice a0 len cap) hf

end Go.Proofs.YteolfnceobjonaaGreat
