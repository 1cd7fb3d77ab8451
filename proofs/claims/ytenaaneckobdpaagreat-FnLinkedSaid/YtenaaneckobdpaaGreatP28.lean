/-
  Parts of one proof, one behind the other: LsB, ImgS2.
-/
import Derived.Test.YtenaaneckobdpaaGreatP27
import Derived.Test.YtenaaneckobdpaaGreatP5
import Derived.Test.YtenaaneckobdpaaGreatP15
import Derived.Deep.RegionHeld
import Derived.RegionTactic
import Derived.Deep.CutRange
namespace Go.Proofs.YtenaaneckobdpaaGreat
open Go.RowKit
theorem zcu {α : Type} (l : List α) (d : α) {j : Nat} (hj : j < l.length) : l.getD j d ∈ l := by rw [List.getD_eq_getElem?_getD, List.getElem?_eq_getElem hj]; exact List.getElem_mem hj
theorem zh0 (rs : List Rt) (xs ys : List Fc) : outN rs (xs ++ ys) = outN rs xs ++ outN rs ys := by unfold outN; rw [List.map_append, List.filter_append]
theorem zir (rs : List Rt) (cs : List Fc) (c : Fc) : zaF rs (cs ++ [c]) = if c.1 ∈ zaw rs then zaF rs cs else put8 (zaF rs cs) c.1 := by
 unfold zaF
 rw [zh0]
 by_cases h : c.1 ∈ zaw rs
 ·
  rw [if_pos h]
  have : outN rs [c] = [] := by unfold outN; simp [h]
  rw [this, List.append_nil]
 ·
  rw [if_neg h]
  have : outN rs [c] = [c.1] := by unfold outN; simp [h]
  rw [this, zdH]
set_option maxHeartbeats 16000000 in
set_option maxRecDepth 100000 in
theorem zfX (a : Option Addr) (len cap : Nat) (os : List Ob) (w : World) (hin : zc1 w a len os) (hB : zb1 os = true) :
 Calls Tryz.prog 31 #[.slice a len cap] w fun e w' => ∃ g c, e = .returned (.slice (some ⟨g, 0, none⟩) (zaF (za2 os) (za1 (za2 os))).length c) ∧ w'.ownsRow w.heap.size 9 1 (.slice (some ⟨g, 0, none⟩) (zaF (za2 os) (za1 (za2 os))).length c) (zaF (za2 os) (za1 (za2 os))).length (strV (zaF (za2 os) (za1 (za2 os)))) ∧ Below w.heap.size w w' := by
 have hl := hin.1
 have h8 : len ≤ 8 := by have := (zam hB).2; omega
 have HI : Hid (zc1 w a len os) := hin
 have HC0 : Hid (_) := zel a len cap os w hin hB
 have HDm : Hid (∀ s, s ∈ zaQ (za2 os) ↔ s ∈ zaw (za2 os)) := fun s => zbi
 have HDl : Hid ((zaQ (za2 os)).length ≤ 1000) := by
  have h1 := zcp (zaw (za2 os))
  have h2 := (zbs (zam hB).1).2
  have h3 : (zaw (za2 os)).length = (za2 os).length := by unfold zaw; rw [List.length_map]
  show (zaQ (za2 os)).length ≤ 1000
  unfold zaQ; omega
 have HOb : Hid (∀ k, k < len → za2 (os.take (k + 1)) = za2 (os.take k) ++ (os.getD k ob0).2.2 ∧ (os.getD k ob0).2.2.length ≤ 8 ∧ (∀ j, j < (os.getD k ob0).2.2.length → ((os.getD k ob0).2.2.getD j rt0).2.2.length ≤ 200)) := fun k hk => by
  have hm := (zam hB).1
  have hmm : os.getD k ob0 ∈ os := by rw [List.getD_eq_getElem?_getD, List.getElem?_eq_getElem (by omega)]; exact List.getElem_mem (by omega)
  have ho := hm _ hmm
  refine ⟨zcU os k (by omega), (zbD ho).l.2, fun j hj => ?_⟩
  have hr := zh1 ho (zcu (os.getD k ob0).2.2 rt0 hj)
  exact (zcP (zc7 hr).2.2.1).2
 have HAll : Hid (za2 (os.take len) = za2 os) := by exact (by rw [List.take_of_length_le (by omega)] : za2 (os.take len) = za2 os)
 have HZ0 : Hid (za2 (os.take 0) = []) := by exact (by simp [za2] : za2 (os.take 0) = [])
 obtain ⟨ds, hds⟩ : ∃ ds, zaQ (za2 os) = ds := ⟨_, rfl⟩
 rw [hds] at HC0 HDm HDl
 obtain ⟨RS, hRS⟩ : ∃ RS, za2 os = RS := ⟨_, rfl⟩
 rw [hRS] at HDm HAll ⊢
 clear hin hB hl hds hRS
 go_enter Tryz.func31, Tryz.ntmps31
 go_wp2_with fail
 refine Calls.mono HC0.out ?_
 rintro e w0 ⟨gd, cd0, rfl, hrd, hbd0⟩
 have HD0 : Hid (∀ X, Below w0.heap.size w0 X → zah X (some ⟨gd, 0, none⟩) ds.length ds) := fun X hX => by
  obtain ⟨a', c', e', _, ht⟩ := zf3 (za6 hrd hX)
  injection e' with e1 _ _
  subst e1
  exact ht
 have HX0 : Hid ((w0.alloc (.cells #[] 9)).ownsRow w0.heap.size 9 1 (.slice (some ⟨w0.heap.size, 0, none⟩) 0 0) 0 (strV []) ∧ Below w0.heap.size w0 (w0.alloc (.cells #[] 9))) := ⟨World.ownsRow_lit w0 #[] 0 (Nat.le_refl _) (by decide) rfl, (Below.refl _ _).alloc (Nat.le_refl _) _⟩
 have HB0 : Hid (Below w.heap.size w w0) := hbd0
 obtain ⟨nd, hnd⟩ : ∃ nd, ds.length = nd := ⟨_, rfl⟩
 have hndl := HDl.out
 rw [hnd] at HD0 hndl ⊢
 have HI0 : Hid (zc1 w0 a len os) := HI.out.below hbd0
 clear HC0 hrd hbd0 hnd HI HDl
 go_wp2
 go_loopw [4, 5] (fun vv iv wr => ∃ (k g c : Nat) (ts : List (List UInt8)), iv = .int .i64 (k : Int) ∧ k ≤ len ∧ vv = .slice (some ⟨g, 0, none⟩) ts.length c ∧ ts.length ≤ 1600 * k ∧ Hid (ts = zaF RS (za1 (za2 (os.take k)))) ∧ Hid (wr.ownsRow w0.heap.size 9 1 (.slice (some ⟨g, 0, none⟩) ts.length c) ts.length (strV ts) ∧ Below w0.heap.size w0 wr)) (fun _ iv _ => len - (intOf iv).toNat)
 case atStart => exact ⟨0, w0.heap.size, 0, [], rfl, Nat.zero_le _, rfl, by simp, (by rw [HZ0.out]; simp [zaF, outN, za1, zbq] : ([] : List (List UInt8)) = zaF RS (za1 (za2 (os.take 0)))), HX0⟩
 case round =>
  obtain ⟨k, g, c, ts, rfl, hk, rfl, htl, HM, HX⟩ := hrel
  clear HX0
  by_cases hlt : (k : Int) < (len : Int)
  ·
   obtain ⟨hst, hle, hcl⟩ := HOb.out k (by omega)
   obtain ⟨b, off, rfl, hbl, d0, ia, il, ic, fa, fl, fc, d1, d2, hii, hff⟩ := HI0.out.2 k (by omega)
   obtain ⟨o, ho⟩ : ∃ o, os.getD k ob0 = o := ⟨_, rfl⟩
   rw [ho] at hst hle hff hcl
   obtain ⟨nm, ims, rs⟩ := o
   simp only at hst hle hff hcl
   have c2 := (HX.out.2.cell (p := ⟨b, off + k * 3 + 2, none⟩) hbl).trans d2
   obtain rfl : rs.length = fl := hff.1
   have HF : Hid (zbp w0 fa rs.length rs) := hff
   have HD2 : Hid (w0.cell? ⟨b, off + k * 3 + 2, none⟩ = some (.slice fa rs.length fc)) := d2
   have HCL : Hid (∀ j, j < rs.length → (rs.getD j rt0).2.2.length ≤ 200) := hcl
   obtain ⟨qs, hqs⟩ : ∃ qs, za2 (os.take k) = qs := ⟨_, rfl⟩
   rw [hqs] at hst HM
   have HTk : Hid (∀ j, j < rs.length → za1 (qs ++ rs.take (j + 1)) = za1 (qs ++ rs.take j) ++ calR (rs.getD j rt0).2.2) := fun j hj => by
    rw [zcn, zcn, ze5 rs j hj, List.append_assoc]
   have HEn : Hid (za1 (qs ++ rs.take rs.length) = za1 (za2 (os.take (k + 1)))) := by exact (by rw [List.take_of_length_le (Nat.le_refl _), hst] : za1 (qs ++ rs.take rs.length) = za1 (za2 (os.take (k + 1))))
   have HZ : Hid (ts = zaF RS (za1 (qs ++ rs.take 0))) := by exact (by rw [List.take_zero, List.append_nil]; exact HM.out : ts = zaF RS (za1 (qs ++ rs.take 0)))
   obtain ⟨m, hm⟩ : ∃ m, rs.length = m := ⟨_, rfl⟩
   rw [hm] at c2 HF HD2 HTk HEn hle HCL
   clear hst ho hff hqs HM hm d0 d1 d2 hii hcl
   go_wp2
   go_loopw [4, 6] (fun vv jv wx => ∃ (j g c : Nat) (us : List (List UInt8)), jv = .int .i64 (j : Int) ∧ j ≤ m ∧ vv = .slice (some ⟨g, 0, none⟩) us.length c ∧ us.length ≤ 1600 * k + 200 * j ∧ Hid (us = zaF RS (za1 (qs ++ rs.take j))) ∧ Hid (wx.ownsRow w0.heap.size 9 1 (.slice (some ⟨g, 0, none⟩) us.length c) us.length (strV us) ∧ Below w0.heap.size w0 wx)) (fun _ jv _ => m - (intOf jv).toNat)
   case atStart => exact ⟨0, g, c, ts, rfl, Nat.zero_le _, rfl, by omega, HZ, HX⟩
   case round =>
    clear HX c2 HZ htl
    obtain ⟨j, g, c, us, rfl, hj, rfl, hul, HM, HX⟩ := hrel
    have c2 := (HX.out.2.cell (p := ⟨b, off + k * 3 + 2, none⟩) hbl).trans HD2.out
    by_cases hjm : (j : Int) < (m : Int)
    ·
     obtain ⟨b2, off2, hfa, hbl2, e0, e1, ca, cl, cc, e2, hins⟩ := HF.out.2 j (by omega)
     subst hfa
     have f2 := (HX.out.2.cell (p := ⟨b2, off2 + j * 3 + 2, none⟩) hbl2).trans e2
     have hst := HTk.out j (by omega)
     have hcl := HCL.out j (by omega)
     obtain ⟨cd, hcd⟩ : ∃ cd, (rs.getD j rt0).2.2 = cd := ⟨_, rfl⟩
     rw [hcd] at hst hcl hins
     obtain rfl : cd.length = cl := hins.1
     have HIn : Hid (zb4 w0 ca cd.length cd) := hins
     obtain ⟨cs, hcs⟩ : ∃ cs, za1 (qs ++ rs.take j) = cs := ⟨_, rfl⟩
     rw [hcs] at hst HM
     have HTk2 : Hid (∀ i, i < cd.length → calR (cd.take (i + 1)) = if (cd.getD i in0).1 = 9 then calR (cd.take i) ++ [((cd.getD i in0).2.2.2.2, (cd.getD i in0).2.2.1)] else calR (cd.take i)) := fun i hi => zgF cd i hi
     have HEn2 : Hid (za1 (qs ++ rs.take (j + 1)) = cs ++ calR (cd.take cd.length)) := by exact (by rw [List.take_of_length_le (Nat.le_refl _), hst] : za1 (qs ++ rs.take (j + 1)) = cs ++ calR (cd.take cd.length))
     have HZ2 : Hid (us = zaF RS (cs ++ calR (cd.take 0))) := by exact (by rw [show calR (cd.take 0) = [] by simp [calR], List.append_nil]; exact HM.out : us = zaF RS (cs ++ calR (cd.take 0)))
     obtain ⟨n, hn⟩ : ∃ n, cd.length = n := ⟨_, rfl⟩
     rw [hn] at f2 HIn HTk2 HEn2 hcl
     clear hst hcd hins hcs HM hn e0 e1 e2
     go_wp2
     go_loopw [4, 8] (fun vv iv wy => ∃ (i g c : Nat) (vs : List (List UInt8)), iv = .int .i64 (i : Int) ∧ i ≤ n ∧ vv = .slice (some ⟨g, 0, none⟩) vs.length c ∧ vs.length ≤ us.length + i ∧ Hid (vs = zaF RS (cs ++ calR (cd.take i))) ∧ Hid (wy.ownsRow w0.heap.size 9 1 (.slice (some ⟨g, 0, none⟩) vs.length c) vs.length (strV vs) ∧ Below w0.heap.size w0 wy)) (fun _ iv _ => n - (intOf iv).toNat)
     case atStart => exact ⟨0, g, c, us, rfl, Nat.zero_le _, rfl, by omega, HZ2, HX⟩
     case round =>
      clear HX c2 f2 HZ2
      obtain ⟨i, g, c, vs, rfl, hi, rfl, hvl, HM, HX⟩ := hrel
      by_cases hin : (i : Int) < (n : Int)
      ·
       obtain ⟨b3, off3, rfl, hbl3, x0, x1, x2, x3, x4⟩ := (HIn.out.below HX.out.2).2 i (by omega)
       have hst := HTk2.out i (by omega)
       obtain ⟨q, hq⟩ : ∃ q, cd.getD i in0 = q := ⟨_, rfl⟩
       rw [hq] at x0 x4 hst
       obtain ⟨ik, iR, iA, iB, inm⟩ := q
       simp only at x0 x4 hst
       by_cases h9 : ik = 9
       ·
        subst h9
        rw [if_pos rfl] at hst
        have hms := zir RS (cs ++ calR (cd.take i)) (inm, iA)
        rw [List.append_assoc, ← hst, ← HM.out] at hms
        simp only at hms
        have HC : Hid (_) := zj9 (some ⟨gd, 0, none⟩) nd cd0 ds inm wr (HD0.out wr HX.out.2) (by omega)
        by_cases hmem : inm ∈ ds
        ·
         rw [decide_eq_true hmem] at HC
         rw [if_pos ((HDm.out inm).1 hmem)] at hms
         have HM2 : Hid (vs = zaF RS (cs ++ calR (cd.take (i + 1)))) := hms.symm
         clear hst hms hmem hq HM
         go_wp2_with fail
         refine Calls.mono HC.out ?_
         rintro e w1 ⟨rfl, rfl⟩
         clear HC
         go_wp2
         go_roundw
         case rel => exact ⟨i + 1, g, c, vs, by go_num, by omega, rfl, by omega, HM2, HX⟩
         case measure => simp [intOf]; omega
        ·
         rw [decide_eq_false hmem] at HC
         rw [if_neg (fun h => hmem ((HDm.out inm).2 h))] at hms
         have hpl := (zhJ vs inm).2
         have HC2 : Hid (_) := ziX w0.heap.size g c vs inm wr HX.out.1 HX.out.2.size (by omega)
         have HM2 : Hid (zaF RS (cs ++ calR (cd.take (i + 1))) = put8 vs inm) := hms
         have HB : Hid (Below w0.heap.size w0 wr) := HX.out.2
         clear hst hms hmem hq HM HX
         go_wp2_with fail
         refine Calls.mono HC.out ?_
         rintro e w1 ⟨rfl, rfl⟩
         clear HC
         go_wp2_with fail
         refine Calls.mono HC2.out ?_
         rintro e w2 ⟨g2, c3, rfl, hr2, hb2⟩
         have HX2 : Hid (w2.ownsRow w0.heap.size 9 1 (.slice (some ⟨g2, 0, none⟩) (put8 vs inm).length c3) (put8 vs inm).length (strV (put8 vs inm)) ∧ Below w0.heap.size w0 w2) := ⟨hr2, HB.out.trans (hb2.mono HB.out.size)⟩
         clear hr2 hb2 HC2
         generalize put8 vs inm = zs at HX2 HM2 hpl
         go_wp2
         go_roundw
         case rel => exact ⟨i + 1, g2, c3, zs, by go_num, by omega, rfl, by omega, HM2.out.symm, HX2⟩
         case measure => simp [intOf]; omega
       ·
        rw [if_neg h9] at hst
        have HM2 : Hid (vs = zaF RS (cs ++ calR (cd.take (i + 1)))) := by exact (by rw [hst]; exact HM.out : vs = zaF RS (cs ++ calR (cd.take (i + 1))))
        have h9b : (ik == 9) = false := beq_eq_false_iff_ne.2 h9
        clear hst hq HM
        go_wp2
        go_roundw
        case rel => exact ⟨i + 1, g, c, vs, by go_num, by omega, rfl, by omega, HM2, HX⟩
        case measure => simp [intOf]; omega
      ·
       obtain rfl : i = n := by omega
       have HM2 : Hid (vs = zaF RS (za1 (qs ++ rs.take (j + 1)))) := by exact (by rw [HEn2.out]; exact HM.out : vs = zaF RS (za1 (qs ++ rs.take (j + 1))))
       go_wp2
       go_roundw
       case rel => exact ⟨j + 1, g, c, vs, by go_num, by omega, rfl, by omega, HM2, HX⟩
       case measure => simp [intOf]; omega
    ·
     obtain rfl : j = m := by omega
     have HM2 : Hid (us = zaF RS (za1 (za2 (os.take (k + 1))))) := by exact (by rw [← HEn.out]; exact HM.out : us = zaF RS (za1 (za2 (os.take (k + 1)))))
     go_wp2
     go_roundw
     case rel => exact ⟨k + 1, g, c, us, by go_num, by omega, rfl, by omega, HM2, HX⟩
     case measure => simp [intOf]; omega
  ·
   obtain rfl : k = len := by omega
   have HM2 : Hid (ts = zaF RS (za1 RS)) := by exact (by rw [HAll.out] at HM; exact HM.out : ts = zaF RS (za1 RS))
   have HR : Hid (wr.ownsRow w.heap.size 9 1 (.slice (some ⟨g, 0, none⟩) ts.length c) ts.length (strV ts) ∧ Below w.heap.size w wr) := ⟨zai HX.out.1 HB0.out.size, HB0.out.trans (HX.out.2.mono HB0.out.size)⟩
   clear HX
   go_wp2
   go_ret
   exact ⟨g, c, by rw [← HM2.out]; rfl, by rw [← HM2.out]; exact HR.out.1, HR.out.2⟩
set_option maxHeartbeats 2000000 in
set_option maxRecDepth 100000 in
theorem zgR (a : Option Addr) (len cap : Nat) (os : List Ob) (w : World) (hin : zc1 w a len os) (hlen : len ≤ 1048576) (hsh : zdl os) :
 Calls Tryz.prog 13 #[.slice a len cap] w fun e w' => ∃ g c, e = .returned (.slice (some ⟨g, 0, none⟩) (zax os).length c) ∧ w'.ownsRow w.heap.size 9 1 (.slice (some ⟨g, 0, none⟩) (zax os).length c) (zax os).length (strV (zax os)) ∧ Below w.heap.size w w' := by
 have HC : Hid (_) := zfk a len cap os w hin hlen hsh
 rcases hB : zb1 os with _ | _
 ·
  have HV : Hid (zax os = []) := by exact (by unfold zax; rw [hB]; rfl : zax os = [])
  rw [hB] at HC
  clear hin hsh hB
  go_enter Tryz.func13, Tryz.ntmps13
  go_wp2_with fail
  refine Calls.mono HC.out ?_
  rintro e w1 ⟨rfl, hb1⟩
  have HR : Hid ((w1.alloc (.cells #[] 9)).ownsRow w.heap.size 9 1 (.slice (some ⟨w1.heap.size, 0, none⟩) 0 0) 0 (strV []) ∧ Below w.heap.size w (w1.alloc (.cells #[] 9))) := ⟨World.ownsRow_lit w1 #[] 0 hb1.size (by decide) rfl, hb1.alloc hb1.size _⟩
  clear hb1 HC
  go_wp2
  go_ret
  rw [HV.out]
  exact ⟨_, _, rfl, HR.out.1, HR.out.2⟩
 ·
  have HV : Hid (zax os = zaF (za2 os) (za1 (za2 os))) := by exact (by unfold zax; rw [if_pos hB] : zax os = zaF (za2 os) (za1 (za2 os)))
  have HD : Hid (∀ X, Below w.heap.size w X → Calls Tryz.prog 31 #[.slice a len cap] X fun e w' => ∃ g c, e = .returned (.slice (some ⟨g, 0, none⟩) (zaF (za2 os) (za1 (za2 os))).length c) ∧ w'.ownsRow X.heap.size 9 1 (.slice (some ⟨g, 0, none⟩) (zaF (za2 os) (za1 (za2 os))).length c) (zaF (za2 os) (za1 (za2 os))).length (strV (zaF (za2 os) (za1 (za2 os)))) ∧ Below X.heap.size X w') := fun X hX => zfX a len cap os X (hin.below hX) hB
  rw [hB] at HC
  rw [HV.out]
  clear hin hsh hB
  generalize zaF (za2 os) (za1 (za2 os)) = ts at HD ⊢
  go_enter Tryz.func13, Tryz.ntmps13
  go_wp2_with fail
  refine Calls.mono HC.out ?_
  rintro e w1 ⟨rfl, hb1⟩
  have HC2 : Hid (_) := HD.out w1 hb1
  have HB1 : Hid (Below w.heap.size w w1) := hb1
  clear HC HD hb1
  go_wp2_with fail
  refine Calls.mono HC2.out ?_
  rintro e w2 ⟨g, c, rfl, hr2, hb2⟩
  have HR : Hid (w2.ownsRow w.heap.size 9 1 (.slice (some ⟨g, 0, none⟩) ts.length c) ts.length (strV ts) ∧ Below w.heap.size w w2) := ⟨zai hr2 HB1.out.size, HB1.out.trans (hb2.mono HB1.out.size)⟩
  clear HC2 hr2 hb2 HB1
  go_wp2
  go_ret
  exact ⟨g, c, rfl, HR.out.1, HR.out.2⟩
theorem cls_all {rs : List Rt} {c : List In13} (h : ∀ j, j < c.length → clsB rs (c.getD j in0) = true) : c.all (clsB rs) = true := by
 rw [List.all_eq_true]
 intro i hi
 obtain ⟨j, hj, rfl⟩ := List.getElem_of_mem hi
 have := h j hj
 simpa only [List.getD, List.getElem?_eq_getElem hj, Option.getD_some] using this
theorem cls_no {rs : List Rt} {c : List In13} {j : Nat} (hj : j < c.length) (h : clsB rs (c.getD j in0) = false) : c.all (clsB rs) = false := by
 rw [Bool.eq_false_iff]
 intro e
 have := List.all_eq_true.1 e c[j] (List.getElem_mem hj)
 simp only [List.getD, List.getElem?_eq_getElem hj, Option.getD_some] at h
 rw [h] at this
 cases this
set_option maxHeartbeats 20000000 in
set_option maxRecDepth 100000 in
theorem zek (a : Option Addr) (len cap : Nat) (rs : List Rt) (w : World) (hin : zbp w a len rs) (hsh : zc0 rs) (hlen : len ≤ 1048576) :
 Calls Tryz.prog 16 #[.agg #[.slice a len cap]] w fun e w' => e = .returned (.bool (zbM rs)) ∧ Below w.heap.size w w' := by
 obtain rfl : rs.length = len := hin.1
 obtain ⟨W, hW⟩ : ∃ W, w.alloc (.cells #[.slice a rs.length cap] 28) = W := ⟨_, rfl⟩
 have hbW : Below w.heap.size w W := by rw [← hW]; exact (Below.refl _ _).alloc (Nat.le_refl _) _
 have hA : W.heap[w.heap.size]? = some (.cells #[.slice a rs.length cap] 28) := by rw [← hW]; exact heap_alloc_new w _
 obtain ⟨D, hD⟩ : ∃ D, w.heap.size = D := ⟨_, rfl⟩
 rw [hD] at hA
 have k0 : W.cell? ⟨D, 0, none⟩ = some (.slice a rs.length cap) := by simp [World.cell?, hA]
 have hDl : D < W.heap.size := World.block_lt_of_cell? W ⟨D, 0, none⟩ k0
 have HK : Hid (∀ Z, Below W.heap.size W Z → Z.cell? ⟨D, 0, none⟩ = some (.slice a rs.length cap)) := fun Z hz => (hz.cell (p := ⟨D, 0, none⟩) hDl).trans k0
 have HI : Hid (∀ Z, Below W.heap.size W Z → zbp Z a rs.length rs) := fun Z hz => (hin.below hbW).below hz
 have HA : Hid (∀ Z (s : List UInt8), Below W.heap.size W Z → Calls Tryz.prog 33 #[.slice a rs.length cap, .string ⟨s.toArray⟩] Z fun e w' => e = .returned (.int .i64 (at14 rs s)) ∧ w' = Z) := fun Z s hz => zhF a rs.length cap rs s Z ((hin.below hbW).below hz) hlen
 have HS : Hid (zc0 rs) := hsh
 have HB : Hid (Below w.heap.size w W) := hbW
 clear hin hsh hbW hA hDl
 go_enter Tryz.func16, Tryz.ntmps16
 go_wp2
 go_loopw [3] (fun iv wr => ∃ j : Nat, iv = .int .i64 (j : Int) ∧ j ≤ rs.length ∧ Hid (∀ u, u < j → oneB rs u) ∧ Hid (Below W.heap.size W wr)) (fun iv _ => rs.length - (intOf iv).toNat)
 case atStart => exact ⟨0, rfl, Nat.zero_le _, fun u hu => by omega, Below.refl _ _⟩
 case round =>
  obtain ⟨j, rfl, hj, HO, HBr⟩ := hrel
  clear k0
  have k0 := HK.out wr HBr.out
  by_cases hlt : (j : Int) < (rs.length : Int)
  ·
   obtain ⟨b, off, rfl, hbl, c0, c1, ca, cl, cc, c2, hci⟩ := (HI.out wr HBr.out).2 j (by omega)
   have hshj := HS.out j
   obtain ⟨x, hx⟩ : ∃ x, rs.getD j rt0 = x := ⟨_, rfl⟩
   rw [hx] at c0 c1 hci hshj
   obtain ⟨n, ar, c⟩ := x
   simp only at c0 c1 hci hshj
   have hcl : c.length = cl := hci.1
   obtain ⟨V, hV⟩ : ∃ V, wr.alloc (.cells #[.string ⟨n.toArray⟩, .int .i64 ar, .slice ca cl cc] 41) = V := ⟨_, rfl⟩
   have hbV : Below wr.heap.size wr V := by rw [← hV]; exact (Below.refl _ _).alloc (Nat.le_refl _) _
   have hA : V.heap[wr.heap.size]? = some (.cells #[.string ⟨n.toArray⟩, .int .i64 ar, .slice ca cl cc] 41) := by rw [← hV]; exact heap_alloc_new wr _
   obtain ⟨N, hN⟩ : ∃ N, wr.heap.size = N := ⟨_, rfl⟩
   rw [hN] at hA
   have n0 : V.cell? ⟨N, 0, none⟩ = some (.string ⟨n.toArray⟩) := by simp [World.cell?, hA]
   have n1 : V.cell? ⟨N, 1, none⟩ = some (.int .i64 ar) := by simp [World.cell?, hA]
   have n2 : V.cell? ⟨N, 2, none⟩ = some (.slice ca cl cc) := by simp [World.cell?, hA]
   have hNl : N < V.heap.size := World.block_lt_of_cell? V ⟨N, 0, none⟩ n0
   have hBV := HBr.out.trans (hbV.mono HBr.out.size)
   have HBV : Hid (Below W.heap.size W V) := hBV
   have HZ : Hid (∀ Z, Below V.heap.size V Z → Z.cell? ⟨N, 0, none⟩ = some (.string ⟨n.toArray⟩) ∧ Z.cell? ⟨N, 1, none⟩ = some (.int .i64 ar) ∧ Z.cell? ⟨N, 2, none⟩ = some (.slice ca cl cc) ∧ Z.cell? ⟨D, 0, none⟩ = some (.slice (some ⟨b, off, none⟩) rs.length cap)) := fun Z hz => ⟨(hz.cell (p := ⟨N, 0, none⟩) hNl).trans n0, (hz.cell (p := ⟨N, 1, none⟩) hNl).trans n1, (hz.cell (p := ⟨N, 2, none⟩) hNl).trans n2, HK.out Z (HBV.out.trans (hz.mono HBV.out.size))⟩
   have HCi : Hid (∀ Z, Below V.heap.size V Z → zb4 Z ca cl c) := fun Z hz => (hci.below hbV).below hz
   have HCk : Hid (∀ Z, Below V.heap.size V Z → Calls Tryz.prog 32 #[.agg #[.string ⟨n.toArray⟩, .int .i64 ar, .slice ca cl cc]] Z fun e w' => e = .returned (.bool (rtB (n, ar, c))) ∧ Below Z.heap.size Z w') := fun Z hz => zej n ar ca cl cc c Z ((hci.below hbV).below hz) hshj.2.2 (by rw [← hcl]; exact hshj.2.1) hshj.1
   have HX0 : Hid (rs.getD j rt0 = (n, ar, c)) := hx
   have HCl : Hid (c.length = cl) := hcl
   have hcl2 : cl ≤ 1048576 := by rw [← hcl]; exact hshj.2.1
   have HPv : Hid (∀ p, p + 1 = j → ∀ Z, Below V.heap.size V Z → Z.cell? ⟨b, off + p * 3, none⟩ = some (.string ⟨(rs.getD p rt0).1.toArray⟩)) := fun p hp Z hz => by
    obtain ⟨b', off', e, _, d0, _⟩ := (HI.out Z (HBV.out.trans (hz.mono HBV.out.size))).2 p (by omega)
    injection e with e
    injection e with e1 e2 _
    subst e1 e2
    exact d0
   clear hci hbV hA n0 n1 n2 hNl hBV hx hshj hcl
   rcases hrb : rtB (n, ar, c) with _ | _
   ·
    rw [hrb] at HCk
    have HNo : Hid (zbM rs = false) := zed (j := j) (by omega) (fun e => by have := e.1; rw [HX0.out, hrb] at this; cases this)
    clear hrb
    go_wp2
    refine wp_region_held_drew (S := fun Z => Below V.heap.size V Z) (by kernel_rfl) (by exact ⟨rfl, rfl, rfl, Nat.le_refl _, fun _ _ => rfl⟩) (fun hHeld => ?_)
    refine tkO [(0, 19)] ?_
    repeat (refine tkY ?_ rfl (by rfl) ?_ ?_; rotate_left; (focus (intro wq hSw; obtain ⟨z0, z1, z2, z3⟩ := HZ.out wq hSw; clear hSw; first | (go_simp; done) | (go_simp; with_reducible rfl))); simp only [zP])
    refine tkZ ?_
    refine zR 1 rfl (fun K hK => ?_)
    go_simp
    refine Calls.mono (HCk.out _ hHeld) ?_
    rintro e V1 ⟨rfl, hb1⟩
    dsimp only
    refine hK.out _ _ (by exact hHeld.trans (hb1.mono hHeld.size)) (fun hHeld => ?_)
    clear hK K
    (try simp only [zP])
    refine tkO [(2, 21), (3, 22), (4, 23), (5, 24), (6, 25), (7, 26), (8, 27), (9, 28), (10, 29), (11, 30), (12, 31), (13, 32), (14, 33), (15, 34), (16, 35), (17, 36), (18, 37)] ?_
    repeat ((first | (refine tkY ?_ rfl (by rfl) ?_ ?_; rotate_left; (focus (intro wq hSw; obtain ⟨z0, z1, z2, z3⟩ := HZ.out wq hSw; clear hSw; first | (go_simp; done) | (go_simp; with_reducible rfl)))) | refine tkN rfl (by rfl) ?_); simp only [zP])
    refine tkZ ?_
    have HV1 : Hid (Below V.heap.size V V1) := hHeld
    refine wpAnyH_done (by kernel_rfl) ?_ _
    clear hHeld hb1
    go_wp2
    go_ret
    exact ⟨by rw [HNo.out]; rfl, hD ▸ (HB.out.trans ((HBV.out.trans (HV1.out.mono HBV.out.size)).mono HB.out.size))⟩
   ·
    rw [hrb] at HCk
    have HRb : Hid (rtB (n, ar, c) = true) := hrb
    clear hrb
    go_wp2
    go_cut [37] from 19 to 36 (fun v wx => ∃ bv : Bool, v = .bool bv ∧ Hid (Below V.heap.size V wx) ∧ Hid (bv = true → zbM rs = false) ∧ Hid (bv = false → 0 < j → leT n (rs.getD (j - 1) rt0).1 = false))
    case first =>
     by_cases hj0 : j = 0
     ·
      have hj1 : ¬ ((j : Int) > 0) := by omega
      have hj3 : ¬ (0 < j) := by omega
      have HJ0 : Hid (j = 0) := hj0
      clear hj0
      refine wp_region_held_drew (S := fun Z => Below V.heap.size V Z) (by kernel_rfl) (by exact ⟨rfl, rfl, rfl, Nat.le_refl _, fun _ _ => rfl⟩) (fun hHeld => ?_)
      refine tkO [(0, 19)] ?_
      repeat (refine tkY ?_ rfl (by rfl) ?_ ?_; rotate_left; (focus (intro wq hSw; obtain ⟨z0, z1, z2, z3⟩ := HZ.out wq hSw; clear hSw; first | (go_simp; done) | (go_simp; with_reducible rfl))); simp only [zP])
      refine tkZ ?_
      refine zR 1 rfl (fun K hK => ?_)
      go_simp
      refine Calls.mono (HCk.out _ hHeld) ?_
      rintro e V1 ⟨rfl, hb1⟩
      dsimp only
      refine hK.out _ _ (by exact hHeld.trans (hb1.mono hHeld.size)) (fun hHeld => ?_)
      clear hK K
      (try simp only [zP])
      refine tkO [(2, 21), (3, 22), (4, 23), (5, 24), (6, 25), (7, 26), (8, 27), (9, 28), (10, 29), (11, 30), (12, 31), (13, 32), (14, 33), (15, 34), (16, 35), (17, 36), (18, 37)] ?_
      repeat ((first | (refine tkY ?_ rfl (by rfl) ?_ ?_; rotate_left; (focus (intro wq hSw; obtain ⟨z0, z1, z2, z3⟩ := HZ.out wq hSw; clear hSw; first | (go_simp; done) | (go_simp; with_reducible rfl)))) | refine tkN rfl (by rfl) ?_); simp only [zP])
      refine tkZ ?_
      have HV1 : Hid (Below V.heap.size V V1) := hHeld
      refine wpAnyH_done (by kernel_rfl) ?_ _
      clear hHeld hb1
      go_wp2_with fail
      go_meet
      case rel => exact ⟨false, rfl, HV1, (fun e => by cases e), (fun _ h => by have := HJ0.out; omega)⟩
     ·
      obtain ⟨p, hp⟩ : ∃ p, p + 1 = j := ⟨j - 1, by omega⟩
      have hj1 : (j : Int) > 0 := by omega
      have hj2 : (0 : Int) < (j : Int) := by omega
      have hj3 : 0 < j := by omega
      have hjp : (j : Int) - 1 = (p : Int) := by omega
      have hpl : (p : Int) < (rs.length : Int) := by omega
      have hpw : IntKind.i64.wrap (p : Int) = (p : Int) := by rw [IntKind.wrap_i64]; omega
      have HP : Hid (_) := HPv.out p hp
      have hpj : j - 1 = p := by omega
      obtain ⟨y, hy⟩ : ∃ y, (rs.getD p rt0).1 = y := ⟨_, rfl⟩
      rw [hy] at HP
      rcases hle : leT n y with _ | _
      ·
       have HL : Hid (leT n (rs.getD (j - 1) rt0).1 = false) := by
        show leT n (rs.getD (j - 1) rt0).1 = false
        rw [hpj, hy]
        exact hle
       unfold leT at hle
       clear hp hpj hy
       refine wp_region_held_drew (S := fun Z => Below V.heap.size V Z) (by kernel_rfl) (by exact ⟨rfl, rfl, rfl, Nat.le_refl _, fun _ _ => rfl⟩) (fun hHeld => ?_)
       refine tkO [(0, 19)] ?_
       repeat (refine tkY ?_ rfl (by rfl) ?_ ?_; rotate_left; (focus (intro wq hSw; obtain ⟨z0, z1, z2, z3⟩ := HZ.out wq hSw; clear hSw; first | (go_simp; done) | (go_simp; with_reducible rfl))); simp only [zP])
       refine tkZ ?_
       refine zR 1 rfl (fun K hK => ?_)
       go_simp
       refine Calls.mono (HCk.out _ hHeld) ?_
       rintro e V1 ⟨rfl, hb1⟩
       dsimp only
       refine hK.out _ _ (by exact hHeld.trans (hb1.mono hHeld.size)) (fun hHeld => ?_)
       clear hK K
       (try simp only [zP])
       refine tkO [(2, 21), (3, 22), (4, 23), (5, 24), (6, 25)] ?_
       repeat (refine tkY ?_ rfl (by rfl) ?_ ?_; rotate_left; (focus (intro wq hSw; obtain ⟨z0, z1, z2, z3⟩ := HZ.out wq hSw; clear hSw; first | (go_simp; done) | (go_simp; with_reducible rfl))); simp only [zP])
       refine tkZ ?_
       refine tkO [(7, 26), (8, 27), (9, 28), (10, 29), (11, 30), (12, 31), (13, 32), (14, 33), (15, 34), (16, 35)] ?_
       repeat (refine tkY ?_ rfl (by rfl) ?_ ?_; rotate_left; (focus (intro wq hSw; obtain ⟨z0, z1, z2, z3⟩ := HZ.out wq hSw; have z4 := HP.out wq hSw; clear hSw; first | (go_simp; done) | (go_simp; with_reducible rfl))); simp only [zP])
       refine tkZ ?_
       refine tkO [(17, 36), (18, 37)] ?_
       repeat (refine tkY ?_ rfl (by rfl) ?_ ?_; rotate_left; (focus (intro wq hSw; obtain ⟨z0, z1, z2, z3⟩ := HZ.out wq hSw; clear hSw; first | (go_simp; done) | (go_simp; with_reducible rfl))); simp only [zP])
       refine tkZ ?_
       have HV1 : Hid (Below V.heap.size V V1) := hHeld
       refine wpAnyH_done (by kernel_rfl) ?_ _
       clear hHeld hb1
       go_wp2_with fail
       go_meet
       case rel => exact ⟨false, rfl, HV1, (fun e => by cases e), (fun _ _ => HL.out)⟩
      ·
       have HNo : Hid (zbM rs = false) := zed (j := j) (by omega) (fun e => by
        have h2 := e.2.1 (by omega)
        rw [hpj, HX0.out, hy] at h2
        simp only at h2
        rw [hle] at h2
        cases h2)
       unfold leT at hle
       clear hp hpj hy
       refine wp_region_held_drew (S := fun Z => Below V.heap.size V Z) (by kernel_rfl) (by exact ⟨rfl, rfl, rfl, Nat.le_refl _, fun _ _ => rfl⟩) (fun hHeld => ?_)
       refine tkO [(0, 19)] ?_
       repeat (refine tkY ?_ rfl (by rfl) ?_ ?_; rotate_left; (focus (intro wq hSw; obtain ⟨z0, z1, z2, z3⟩ := HZ.out wq hSw; clear hSw; first | (go_simp; done) | (go_simp; with_reducible rfl))); simp only [zP])
       refine tkZ ?_
       refine zR 1 rfl (fun K hK => ?_)
       go_simp
       refine Calls.mono (HCk.out _ hHeld) ?_
       rintro e V1 ⟨rfl, hb1⟩
       dsimp only
       refine hK.out _ _ (by exact hHeld.trans (hb1.mono hHeld.size)) (fun hHeld => ?_)
       clear hK K
       (try simp only [zP])
       refine tkO [(2, 21), (3, 22), (4, 23), (5, 24), (6, 25)] ?_
       repeat (refine tkY ?_ rfl (by rfl) ?_ ?_; rotate_left; (focus (intro wq hSw; obtain ⟨z0, z1, z2, z3⟩ := HZ.out wq hSw; clear hSw; first | (go_simp; done) | (go_simp; with_reducible rfl))); simp only [zP])
       refine tkZ ?_
       refine tkO [(7, 26), (8, 27), (9, 28), (10, 29), (11, 30), (12, 31), (13, 32), (14, 33), (15, 34), (16, 35)] ?_
       repeat (refine tkY ?_ rfl (by rfl) ?_ ?_; rotate_left; (focus (intro wq hSw; obtain ⟨z0, z1, z2, z3⟩ := HZ.out wq hSw; have z4 := HP.out wq hSw; clear hSw; first | (go_simp; done) | (go_simp; with_reducible rfl))); simp only [zP])
       refine tkZ ?_
       refine tkO [(17, 36), (18, 37)] ?_
       repeat (refine tkY ?_ rfl (by rfl) ?_ ?_; rotate_left; (focus (intro wq hSw; obtain ⟨z0, z1, z2, z3⟩ := HZ.out wq hSw; clear hSw; first | (go_simp; done) | (go_simp; with_reducible rfl))); simp only [zP])
       refine tkZ ?_
       have HV1 : Hid (Below V.heap.size V V1) := hHeld
       refine wpAnyH_done (by kernel_rfl) ?_ _
       clear hHeld hb1
       go_wp2_with fail
       go_meet
       case rel => exact ⟨true, rfl, HV1, (fun _ => HNo.out), (fun e => by cases e)⟩
    case rest =>
    obtain ⟨bv, rfl, HVc, HT, HF⟩ := hcut
    rcases bv with _ | _
    ·
     go_wp2
     go_loopw [5] (fun iv wx => ∃ k : Nat, iv = .int .i64 (k : Int) ∧ k ≤ cl ∧ Hid (∀ u, u < k → clsB rs (c.getD u in0) = true) ∧ Hid (Below V.heap.size V wx)) (fun iv _ => cl - (intOf iv).toNat)
     case atStart => exact ⟨0, rfl, Nat.zero_le _, fun u hu => by omega, HVc⟩
     case round =>
      obtain ⟨k, rfl, hk, HQ, HBk⟩ := hrel
      rename World => U
      obtain ⟨z0, z1, z2, z3⟩ := HZ.out U HBk.out
      by_cases hkl : (k : Int) < (cl : Int)
      ·
       obtain ⟨cb, co, rfl, _, x0, _, _, _, _⟩ := (HCi.out U HBk.out).2 k (by omega)
       obtain ⟨i, hi⟩ : ∃ i, c.getD k in0 = i := ⟨_, rfl⟩
       have HX : Hid (∀ Z, Below V.heap.size V Z → Z.cell? ⟨cb, co + k * 5, none⟩ = some (.int .i64 i.1) ∧ Z.cell? ⟨cb, co + k * 5 + 2, none⟩ = some (.int .i64 i.2.2.1) ∧ Z.cell? ⟨cb, co + k * 5 + 4, none⟩ = some (.string ⟨i.2.2.2.2.toArray⟩)) := fun Z hz => by
        obtain ⟨cb', co', e, _, d0, _, d2, _, d4⟩ := (HCi.out Z hz).2 k (by omega)
        injection e with e
        injection e with e1 e2 _
        subst e1 e2
        rw [hi] at d0 d2 d4
        exact ⟨d0, d2, d4⟩
       rw [hi] at x0
       obtain ⟨kd, r, aa, bb, s⟩ := i
       simp only at x0 HX
       by_cases h9 : kd = 9
       ·
        subst h9
        have HCb : Hid (clsB rs (c.getD k in0) = (decide (0 ≤ at14 rs s) && decide ((rs.getD (at14 rs s).toNat rt0).2.1 = aa))) := by
         exact (by rw [hi]; unfold clsB; simp : clsB rs (c.getD k in0) = (decide (0 ≤ at14 rs s) && decide ((rs.getD (at14 rs s).toNat rt0).2.1 = aa)))
        have hzb := at14_bd rs s
        clear hi
        go_wp2
        refine wp_region_held_drew (S := fun Z => Below V.heap.size V Z) (by kernel_rfl) (by exact HBk.out.trans ⟨rfl, rfl, rfl, Nat.le_refl _, fun _ _ => rfl⟩) (fun hHeld => ?_)
        refine tkO [(0, 52), (1, 53), (2, 54), (3, 55), (4, 56), (5, 57), (6, 58), (7, 59)] ?_
        repeat (refine tkY ?_ rfl (by rfl) ?_ ?_; rotate_left; (focus (intro wq hSw; obtain ⟨z0, z1, z2, z3⟩ := HZ.out wq hSw; obtain ⟨x0, x2, x4⟩ := HX.out wq hSw; clear hSw; first | (go_simp; done) | (go_simp; with_reducible rfl))); simp only [zP])
        refine tkZ ?_
        refine zR 8 rfl (fun K hK => ?_)
        go_simp
        refine Calls.mono (HA.out _ s (HBV.out.trans (hHeld.mono HBV.out.size))) ?_
        rintro e V2 ⟨rfl, hw2⟩; obtain rfl := hw2.symm; clear hw2
        dsimp only
        refine hK.out _ _ (by exact hHeld) (fun hHeld => ?_)
        clear hK K
        (try simp only [zP])
        refine tkO [(9, 6)] ?_
        repeat (refine tkY ?_ rfl (by rfl) ?_ ?_; rotate_left; (focus (intro wq hSw; obtain ⟨z0, z1, z2, z3⟩ := HZ.out wq hSw; obtain ⟨x0, x2, x4⟩ := HX.out wq hSw; clear hSw; first | (go_simp; done) | (go_simp; with_reducible rfl))); simp only [zP])
        refine tkZ ?_
        have HV2 : Hid (Below V.heap.size V U.drew) := hHeld
        refine wpAnyH_done (by kernel_rfl) ?_ _
        clear hHeld
        obtain ⟨z, hz⟩ : ∃ z, at14 rs s = z := ⟨_, rfl⟩
        rw [hz] at HCb hzb ⊢
        clear hz
        by_cases hzn : z < 0
        ·
         have HNo : Hid (zbM rs = false) := zed (j := j) (by omega) (fun e => by
          have h2 := e.2.2
          rw [HX0.out] at h2
          simp only at h2
          rw [cls_no (j := k) (by rw [HCl.out]; omega) (by rw [HCb.out, decide_eq_false (by omega)]; rfl)] at h2
          cases h2)
         go_wp2
         refine wp_region_held_drew (S := fun Z => Below V.heap.size V Z) (by kernel_rfl) (by exact HV2.out.trans ⟨rfl, rfl, rfl, Nat.le_refl _, fun _ _ => rfl⟩) (fun hHeld => ?_)
         refine tkO [(0, 61), (1, 62), (2, 63), (3, 64), (4, 65), (5, 66), (6, 67), (7, 68), (8, 69), (9, 70), (10, 71), (11, 72), (12, 73), (13, 74), (14, 75), (15, 76), (16, 77)] ?_
         repeat ((first | (refine tkY ?_ rfl (by rfl) ?_ ?_; rotate_left; (focus (intro wq hSw; obtain ⟨z0, z1, z2, z3⟩ := HZ.out wq hSw; obtain ⟨x0, x2, x4⟩ := HX.out wq hSw; clear hSw; first | (go_simp; done) | (go_simp; with_reducible rfl)))) | refine tkN rfl (by rfl) ?_); simp only [zP])
         refine tkZ ?_
         have HV3 : Hid (Below V.heap.size V U.drew.drew) := hHeld
         refine wpAnyH_done (by kernel_rfl) ?_ _
         clear hHeld
         go_wp2
         go_ret
         exact ⟨by rw [HNo.out]; rfl, hD ▸ (HB.out.trans ((HBV.out.trans (HV3.out.mono HBV.out.size)).mono HB.out.size))⟩
        ·
         obtain ⟨zn, rfl⟩ : ∃ zn : Nat, z = (zn : Int) := Int.eq_ofNat_of_zero_le (by omega)
         have hzl : (zn : Int) < (rs.length : Int) := hzb.2
         obtain ⟨ar2, har2⟩ : ∃ ar2, (rs.getD zn rt0).2.1 = ar2 := ⟨_, rfl⟩
         have HY : Hid (∀ Z, Below V.heap.size V Z → Z.cell? ⟨b, off + zn * 3 + 1, none⟩ = some (.int .i64 ar2)) := fun Z hz => by
          obtain ⟨b', off', e, _, _, d1, _⟩ := (HI.out Z (HBV.out.trans (hz.mono HBV.out.size))).2 zn (by omega)
          injection e with e
          injection e with e1 e2 _
          subst e1 e2
          rw [har2] at d1
          exact d1
         rw [Int.toNat_natCast, har2] at HCb
         by_cases hae : ar2 = aa
         ·
          have HQ2 : Hid (∀ u, u < k + 1 → clsB rs (c.getD u in0) = true) := fun u hu => by
           by_cases e : u = k
           ·
            rw [e, HCb.out, decide_eq_true (by omega), decide_eq_true hae]; rfl
           ·
            exact HQ.out u (by omega)
          subst hae
          have hne : (ar2 != ar2) = false := by simp
          clear har2
          go_wp2
          refine wp_region_held_drew (S := fun Z => Below V.heap.size V Z) (by kernel_rfl) (by exact HV2.out.trans ⟨rfl, rfl, rfl, Nat.le_refl _, fun _ _ => rfl⟩) (fun hHeld => ?_)
          refine tkO [(0, 61), (1, 62), (2, 63)] ?_
          repeat (refine tkY ?_ rfl (by rfl) ?_ ?_; rotate_left; (focus (intro wq hSw; obtain ⟨z0, z1, z2, z3⟩ := HZ.out wq hSw; obtain ⟨x0, x2, x4⟩ := HX.out wq hSw; clear hSw; first | (go_simp; done) | (go_simp; with_reducible rfl))); simp only [zP])
          refine tkZ ?_
          refine tkO [(3, 64), (4, 65), (5, 66), (6, 67), (7, 68), (8, 69), (9, 70), (10, 71), (11, 72), (12, 73), (13, 74), (14, 75), (15, 76)] ?_
          repeat (refine tkY ?_ rfl (by rfl) ?_ ?_; rotate_left; (focus (intro wq hSw; obtain ⟨z0, z1, z2, z3⟩ := HZ.out wq hSw; obtain ⟨x0, x2, x4⟩ := HX.out wq hSw; have y1 := HY.out wq hSw; clear hSw; first | (go_simp; done) | (go_simp; with_reducible rfl))); simp only [zP])
          refine tkZ ?_
          refine tkO [(16, 77)] ?_
          repeat (refine tkY ?_ rfl (by rfl) ?_ ?_; rotate_left; (focus (intro wq hSw; obtain ⟨z0, z1, z2, z3⟩ := HZ.out wq hSw; obtain ⟨x0, x2, x4⟩ := HX.out wq hSw; clear hSw; first | (go_simp; done) | (go_simp; with_reducible rfl))); simp only [zP])
          refine tkZ ?_
          have HV3 : Hid (Below V.heap.size V U.drew.drew) := hHeld
          refine wpAnyH_done (by kernel_rfl) ?_ _
          clear hHeld
          go_wp2
          go_roundw
          case rel => exact ⟨k + 1, by go_num, by omega, HQ2, HV3⟩
          case measure => simp [intOf]; omega
         ·
          have HNo : Hid (zbM rs = false) := zed (j := j) (by omega) (fun e => by
           have h2 := e.2.2
           rw [HX0.out] at h2
           simp only at h2
           rw [cls_no (j := k) (by rw [HCl.out]; omega) (by rw [HCb.out, decide_eq_false hae, Bool.and_false])] at h2
           cases h2)
          have hne : (ar2 != aa) = true := by rw [bne_iff_ne]; exact hae
          clear har2
          go_wp2
          refine wp_region_held_drew (S := fun Z => Below V.heap.size V Z) (by kernel_rfl) (by exact HV2.out.trans ⟨rfl, rfl, rfl, Nat.le_refl _, fun _ _ => rfl⟩) (fun hHeld => ?_)
          refine tkO [(0, 61), (1, 62), (2, 63)] ?_
          repeat (refine tkY ?_ rfl (by rfl) ?_ ?_; rotate_left; (focus (intro wq hSw; obtain ⟨z0, z1, z2, z3⟩ := HZ.out wq hSw; obtain ⟨x0, x2, x4⟩ := HX.out wq hSw; clear hSw; first | (go_simp; done) | (go_simp; with_reducible rfl))); simp only [zP])
          refine tkZ ?_
          refine tkO [(3, 64), (4, 65), (5, 66), (6, 67), (7, 68), (8, 69), (9, 70), (10, 71), (11, 72), (12, 73), (13, 74), (14, 75), (15, 76)] ?_
          repeat (refine tkY ?_ rfl (by rfl) ?_ ?_; rotate_left; (focus (intro wq hSw; obtain ⟨z0, z1, z2, z3⟩ := HZ.out wq hSw; obtain ⟨x0, x2, x4⟩ := HX.out wq hSw; have y1 := HY.out wq hSw; clear hSw; first | (go_simp; done) | (go_simp; with_reducible rfl))); simp only [zP])
          refine tkZ ?_
          refine tkO [(16, 77)] ?_
          repeat (refine tkY ?_ rfl (by rfl) ?_ ?_; rotate_left; (focus (intro wq hSw; obtain ⟨z0, z1, z2, z3⟩ := HZ.out wq hSw; obtain ⟨x0, x2, x4⟩ := HX.out wq hSw; clear hSw; first | (go_simp; done) | (go_simp; with_reducible rfl))); simp only [zP])
          refine tkZ ?_
          have HV3 : Hid (Below V.heap.size V U.drew.drew) := hHeld
          refine wpAnyH_done (by kernel_rfl) ?_ _
          clear hHeld
          go_wp2
          go_ret
          exact ⟨by rw [HNo.out]; rfl, hD ▸ (HB.out.trans ((HBV.out.trans (HV3.out.mono HBV.out.size)).mono HB.out.size))⟩
       ·
        have HQ2 : Hid (∀ u, u < k + 1 → clsB rs (c.getD u in0) = true) := fun u hu => by
         by_cases e : u = k
         ·
          rw [e, hi]; unfold clsB; simp [h9]
         ·
          exact HQ.out u (by omega)
        have hne : (kd != 9) = true := by rw [bne_iff_ne]; exact h9
        clear hi
        go_wp2
        go_roundw
        case rel => exact ⟨k + 1, by go_num, by omega, HQ2, HBk⟩
        case measure => simp [intOf]; omega
      ·
       have HO2 : Hid (∀ u, u < j + 1 → oneB rs u) := fun u hu => by
        by_cases e : u = j
        ·
         subst e
         refine ⟨by rw [HX0.out]; exact HRb.out, fun h => by rw [HX0.out]; exact HF.out (by trivial) h, ?_⟩
         rw [HX0.out]
         exact cls_all (fun q hq => HQ.out q (by have := HCl.out; have hq2 : q < c.length := hq; omega))
        ·
         exact HO.out u (by omega)
       have HBo : Hid (Below W.heap.size W U) := HBV.out.trans (HBk.out.mono HBV.out.size)
       go_wp2
       go_roundw
       case rel => exact ⟨j + 1, by go_num, by omega, HO2, HBo⟩
       case measure => simp [intOf]; omega
    ·
     have HNo : Hid (zbM rs = false) := HT.out rfl
     go_wp2
     go_ret
     exact ⟨by rw [HNo.out]; rfl, hD ▸ (HB.out.trans ((HBV.out.trans (HVc.out.mono HBV.out.size)).mono HB.out.size))⟩
  ·
   have HE : Hid (zbM rs = inB (rs.length : Int) 1 64) := zk7 (fun u hu => HO.out u (by omega))
   go_wp2_with fail
   refine Calls.mono (zcf (rs.length : Int) 1 64 _) ?_
   rintro e w5 ⟨rfl, hw5⟩
   obtain rfl := hw5.symm
   go_wp2
   go_ret
   exact ⟨by rw [HE.out]; rfl, hD ▸ (HB.out.trans (HBr.out.mono HB.out.size))⟩
end Go.Proofs.YtenaaneckobdpaaGreat
