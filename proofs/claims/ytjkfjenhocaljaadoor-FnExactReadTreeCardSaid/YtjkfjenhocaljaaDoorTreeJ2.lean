/-
  The contracts of chapter 6's landed code: ShowTree.
-/
import Derived.Test.YtjkfjenhocaljaaDoorTreeJ
namespace Go.Proofs.YtjkfjenhocaljaaDoor
open Go.RowKit

theorem joinTexts (v : Value) (ts : List (List UInt8)) (base : Nat) (w : World) (h : w.ownsRow base 9 1 v ts.length (strV ts)) (hn : ts.length ≤ 1048576) (hl : (joinBy 32 ts).length ≤ 1048576) :
    Calls Tryd.prog 29 #[v, .string ⟨#[32]⟩] w fun e w' => e = .returned (.string ⟨(joinBy 32 ts).toArray⟩) ∧ Below w.heap.size w w' := by
  rcases h.2 with ⟨rfl, h0⟩ | ⟨g, cap, cur, rfl, hb, hg, hcap, _⟩
  · obtain rfl : ts = [] := List.eq_nil_of_length_eq_zero h0
    refine (Tryd.strings_Join_none none 0 ⟨#[32]⟩ w).mono ?_
    rintro e w' ⟨rfl, rfl⟩
    exact ⟨rfl, Below.refl _ _⟩
  · have hx : (ts.map (fun l => (⟨l.toArray⟩ : ByteArray))).map (·.data.toList) = ts := by rw [List.map_map]; exact (List.map_congr_left (fun l _ => rfl)).trans (List.map_id ts)
    have hxl : (ts.map (fun l => (⟨l.toArray⟩ : ByteArray))).length = ts.length := by simp
    have hj : Lib.join ((ts.map (fun l => (⟨l.toArray⟩ : ByteArray))).map (·.data.toList)) (⟨#[32]⟩ : ByteArray).data.toList = joinBy 32 ts := by rw [hx]; exact join_by ts
    have hc := Tryd.strings_Join g 0 cap (ts.map (fun l => (⟨l.toArray⟩ : ByteArray))) ⟨#[32]⟩ w (by
      intro j x hjx
      rw [List.getElem?_map, Option.map_eq_some_iff] at hjx
      obtain ⟨l, hl1, rfl⟩ := hjx
      obtain ⟨hj2, hl2⟩ := List.getElem?_eq_some_iff.1 hl1
      have := str_cellsD h rfl j hj2
      rw [Nat.zero_add, this, List.getD_eq_getElem?_getD, hl1]
      rfl) (h.lt g rfl).2 (by rw [hxl]; omega) (by rw [hxl]; exact hcap) (by rw [hj]; omega)
    rw [hj, hxl] at hc
    exact hc

theorem show_take (ns : List Nd) (k : Nat) (hk : k < ns.length) : (ns.map showN).take (k + 1) = (ns.map showN).take k ++ [showN (ns.getD k nd0)] := by
  rw [List.take_succ_eq_append_getElem (by simpa using hk)]
  simp [List.getD, hk]

set_option maxHeartbeats 4000000 in
set_option maxRecDepth 100000 in
theorem implShowTree (a : Option Addr) (len cap : Nat) (ns : List Nd) (w : World) (hin : NodesIn w a len ns) (hint : IntT ns) (hsh : ShortT ns) (hlen : len ≤ 1048576) (ht : PowIs w) :
    Calls Tryd.prog 8 #[.slice a len cap] w fun e w' => e = .returned (.string ⟨(showT ns).toArray⟩) ∧ Below w.heap.size w w' := by
  obtain rfl : ns.length = len := hin.1
  have HC : Hid (_) := implTreeOk a ns.length cap ns w hin hint hsh hlen
  rcases htb : treeB ns with _ | _
  · have HS : Hid (showT ns = []) := by exact (by unfold showT; rw [if_neg (by rw [htb]; simp)] : showT ns = [])
    rw [htb] at HC
    clear hin hint hsh htb ht
    go_enter Tryd.func8, Tryd.ntmps8
    go_wp2_with fail
    refine Calls.mono HC.out ?_
    rintro e w1 ⟨rfl, hb1⟩
    go_wp2
    go_ret
    exact ⟨by rw [HS.out]; rfl, hb1⟩
  · have HS : Hid (showT ns = joinBy 32 (ns.map showN)) := by exact (by unfold showT; rw [if_pos htb]; rfl : showT ns = joinBy 32 (ns.map showN))
    have h60 : ns.length ≤ 60 := (tree_end htb).1.2
    have HNs : Hid (∀ n ∈ ns, nodeB n = true) := tree_nodes htb
    have HLen : Hid ((joinBy 32 (ns.map showN)).length ≤ ns.length * 31) := showL_len ns HNs.out
    have HI : Hid (NodesIn w a ns.length ns) := hin
    have HP : Hid (PowIs w) := ht
    obtain ⟨i0, hi, hz0, hz1, hz2⟩ := info_parts info9
    rw [htb] at HC
    clear hin hint hsh htb ht
    go_enter Tryd.func8, Tryd.ntmps8
    go_wp2_with fail
    refine Calls.mono HC.out ?_
    rintro e w1 ⟨rfl, hb1⟩
    have hown0 := (World.ownsRow_lit (base := w.heap.size) (e := 9) (size := 1) w1 #[] 0 hb1.size (by decide) rfl)
    have hB1 : Below w.heap.size w (w1.alloc (.cells #[] 9)) := hb1.alloc hb1.size _
    clear hb1 HC
    go_wp2
    go_loopw [3, 12] (fun v i wr => ∃ k : Nat, k ≤ ns.length ∧ i = .int .i64 k ∧ Hid (wr.ownsRow w.heap.size 9 1 v k (strV ((ns.map showN).take k))) ∧ Below w.heap.size w wr) (fun _ i _ => ns.length - (intOf i).toNat)
    case atStart => exact ⟨0, Nat.zero_le _, rfl, hown0, hB1⟩
    case round =>
      obtain ⟨k, hk, rfl, HV, hb⟩ := hrel
      clear hown0 hB1
      by_cases hkl : (k : Int) < (ns.length : Int)
      · have hk2 : k < ns.length := by omega
        have hst := show_take ns k hk2
        have hnk : nodeB (ns.getD k nd0) = true := by
          have hg : ns.getD k nd0 = ns[k] := by simp [List.getD, hk2]
          rw [hg]; exact HNs.out _ (List.getElem_mem hk2)
        obtain ⟨b, off, rfl, hbl, hcells⟩ := (HI.out.below hb).at (by omega)
        obtain ⟨c0, c1, c2, c3⟩ := hcells k hk2
        obtain ⟨n, hn⟩ : ∃ n, ns.getD k nd0 = n := ⟨_, rfl⟩
        rw [hn] at hst hnk c0 c1 c2 c3
        have HS1 : Hid (_) := fun W : World => implShapeOf n W
        have HW : Hid (_) := fun (W : World) (h : PowIs W) => implWordOf n W h hnk
        generalize shOf n = s at HS1 HW
        obtain ⟨x, hx⟩ : ∃ x, showN n = x := ⟨_, rfl⟩
        rw [hx] at hst HW
        have HST : Hid ((ns.map showN).take (k + 1) = (ns.map showN).take k ++ [x]) := hst
        have hpw := HP.out.below hb
        obtain ⟨kd, aa, p, f⟩ := n
        unfold nodeVal at HS1
        simp only at c0 c1 c2 c3 HS1
        obtain ⟨W0, hW0⟩ : ∃ W0, wr.alloc (.cells #[.int .i64 kd, .int .i64 aa, .string ⟨p.toArray⟩, .string ⟨f.toArray⟩] 31) = W0 := ⟨_, rfl⟩
        have hbW : Below wr.heap.size wr W0 := by rw [← hW0]; exact (Below.refl _ wr).alloc (Nat.le_refl _) _
        clear hn hcells hst hx hnk
        have st := NdAt.new wr kd aa p f
        rw [hW0] at st
        have d0 := st.c0
        have d1 := st.c1
        have d2 := st.c2
        have d3 := st.c3
        go_wp2_with fail
        refine Calls.mono (HS1.out _) ?_
        rintro e w2 ⟨rfl, hb2⟩
        have hB2 := hbW.trans (hb2.mono hbW.size)
        clear hb2 st d0 d1 d2 d3 c0 c1 c2 c3 HS1 hbW
        go_wp2_with fail
        refine Calls.mono (HW.out _ (hpw.below hB2)) ?_
        rintro e w3 ⟨rfl, hb3⟩
        have hB3 := hB2.trans (hb3.mono hB2.size)
        have hV3 := own_below HV.out hB3
        have hbd : Below w.heap.size w w3 := hb.trans (hB3.mono hb.size)
        have hsc : w.heap.size ≤ w3.heap.size := hbd.size
        clear hB2 hb3 hB3 HV HW hb hpw
        go_wp2_with (at_builtin; refine wpList_append_own _ rfl _ _ 43 rfl w.heap.size 9 i0 (.string ⟨#[]⟩) 1 16 Tryd.underlying43 hi hz0 hz1 hz2 rfl (by decide) _ _ _ rfl (hV3.alloc _) ⟨w3.heap.size, 0, none⟩ 1 1 [.string ⟨x.toArray⟩] rfl rfl ?c1 ?c2 ?c3 ?c4 ?c5 ?_)
        first | (case c1 => exact cell_one_new _ _ _) | skip
        first | (case c2 => first | rfl | (intro u hu; simp at hu; subst hu; rfl)) | skip
        first | (case c3 => unfold maxLen; omega) | skip
        first | (case c4 => omega) | skip
        first | (case c5 => simp; try omega) | skip
        intro v' w4 hown4 hgrow4 _
        have HV4 : Hid (w4.ownsRow w.heap.size 9 1 v' (k + 1) (strV ((ns.map showN).take (k + 1)))) := by
          exact (by rw [HST.out, ← strV_snoc]; exact hown4 : w4.ownsRow w.heap.size 9 1 v' (k + 1) (strV ((ns.map showN).take (k + 1))))
        have hb4 : Below w.heap.size w w4 := (hbd.alloc hbd.size _).grown hgrow4 (by simp; omega) (fun q e => (hV3.lt q e).1)
        clear hown4 hgrow4 hV3 hbd
        go_wp2
        go_roundw
        case rel => exact ⟨k + 1, by omega, by go_num, HV4, hb4⟩
        case measure => simp [intOf]; omega
      · obtain rfl : k = ns.length := by omega
        have hV := HV.out
        rw [List.take_of_length_le (by simp)] at hV
        have hj := joinTexts _ (ns.map showN) w.heap.size _ (by rw [List.length_map]; exact hV) (by simp; omega) (by have := HLen.out; omega)
        have HJ : Hid (_) := hj
        clear hj HV hV
        go_wp2_with fail
        refine Calls.mono HJ.out ?_
        rintro e w2 ⟨rfl, hb2⟩
        have hB2 := hb.trans (hb2.mono hb.size)
        go_wp2
        go_ret
        exact ⟨by rw [HS.out]; rfl, hB2⟩

end Go.Proofs.YtjkfjenhocaljaaDoor
