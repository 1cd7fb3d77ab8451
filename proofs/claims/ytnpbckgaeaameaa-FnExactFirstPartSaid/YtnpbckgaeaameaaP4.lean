/-
  Parts of one proof, one behind the other: TreeS2, Math3C, Draw2, ChunkS, TreeS3, TreeS4, TreeS5.
-/
import Derived.Test.YtnpbckgaeaameaaP3
import Derived.Test.YtnpbckgaeaameaaP1
import Derived.Lib.AppendStr
import Derived.Deep.RegionHeld3
import Derived.Deep.RegionWith

/-! The contracts of chapter 6's specification over lists of nodes: EndOf, TreeOk. -/
namespace Go.Proofs.Ytnpbckgaeaameaa
open Go.RowKit

def nd0 : Nd := (0, 0, [], [])

/-- The nodes ns lie at a, four cells each. -/
def NodesIn (w : World) (a : Option Addr) (len : Nat) (ns : List Nd) : Prop :=
  ns.length = len ∧ ∀ j, j < len → ∃ b off, a = some ⟨b, off, none⟩ ∧ b < w.heap.size ∧ w.cell? ⟨b, off + j * 4, none⟩ = some (.int .i64 (ns.getD j nd0).1) ∧ w.cell? ⟨b, off + j * 4 + 1, none⟩ = some (.int .i64 (ns.getD j nd0).2.1) ∧ w.cell? ⟨b, off + j * 4 + 2, none⟩ = some (.string ⟨(ns.getD j nd0).2.2.1.toArray⟩) ∧ w.cell? ⟨b, off + j * 4 + 3, none⟩ = some (.string ⟨(ns.getD j nd0).2.2.2.toArray⟩)

theorem NodesIn.keep {w w' : World} {a : Option Addr} {len : Nat} {ns : List Nd} (h : NodesIn w a len ns) (hs : w.heap.size ≤ w'.heap.size) (hb : ∀ b off, a = some ⟨b, off, none⟩ → b < w.heap.size → w'.heap[b]? = w.heap[b]?) : NodesIn w' a len ns := by
  refine ⟨h.1, fun j hj => ?_⟩
  obtain ⟨b, off, e, hlt, c0, c1, c2, c3⟩ := h.2 j hj
  have hk := hb b off e hlt
  exact ⟨b, off, e, Nat.lt_of_lt_of_le hlt hs, (World.cell?_of_block (a := ⟨b, off + j * 4, none⟩) hk).trans c0, (World.cell?_of_block (a := ⟨b, off + j * 4 + 1, none⟩) hk).trans c1, (World.cell?_of_block (a := ⟨b, off + j * 4 + 2, none⟩) hk).trans c2, (World.cell?_of_block (a := ⟨b, off + j * 4 + 3, none⟩) hk).trans c3⟩

theorem NodesIn.below {w w' : World} {a : Option Addr} {len : Nat} {ns : List Nd} (h : NodesIn w a len ns) (hb : Below w.heap.size w w') : NodesIn w' a len ns :=
  h.keep hb.size (fun b _ _ hlt => hb.block b hlt)

theorem NodesIn.at {w : World} {a : Option Addr} {len : Nat} {ns : List Nd} (h : NodesIn w a len ns) (hz : 0 < len) : ∃ b off, a = some ⟨b, off, none⟩ ∧ b < w.heap.size ∧
    ∀ j, j < len → w.cell? ⟨b, off + j * 4, none⟩ = some (.int .i64 (ns.getD j nd0).1) ∧ w.cell? ⟨b, off + j * 4 + 1, none⟩ = some (.int .i64 (ns.getD j nd0).2.1) ∧ w.cell? ⟨b, off + j * 4 + 2, none⟩ = some (.string ⟨(ns.getD j nd0).2.2.1.toArray⟩) ∧ w.cell? ⟨b, off + j * 4 + 3, none⟩ = some (.string ⟨(ns.getD j nd0).2.2.2.toArray⟩) := by
  obtain ⟨b, off, rfl, hb, _⟩ := h.2 0 hz
  refine ⟨b, off, rfl, hb, fun j hj => ?_⟩
  obtain ⟨b', off', e, _, c⟩ := h.2 j hj
  injection e with e
  injection e with e1 e2
  subst e1 e2
  exact c

/-- No text of a node is too long. -/
def ShortT (ns : List Nd) : Prop := ∀ j, (ns.getD j nd0).2.2.1.length ≤ 1048576 ∧ (ns.getD j nd0).2.2.2.length ≤ 1048576

/-- What is still to go, from place k on with o open. -/
def endTo (ns : List Nd) (k o : Nat) : Int := match endGo (ns.drop k) o with | some d => (k : Int) + d | none => -1

theorem endTo_start {ns : List Nd} {k : Nat} (hk : k < ns.length) : endTo ns k 1 = endV ns (k : Int) := by rw [endV_nat]; unfold endN endTo; rw [if_pos hk]; cases endGo (ns.drop k) 1 <;> rfl
theorem endTo_zero (ns : List Nd) (k : Nat) : endTo ns k 0 = (k : Int) := by unfold endTo; rw [endGo_zero]; simp
theorem endTo_over {ns : List Nd} {k o : Nat} (hk : ns.length ≤ k) : endTo ns k (o + 1) = -1 := by unfold endTo; rw [end_over hk]
theorem endTo_bad {ns : List Nd} {k o : Nat} (hk : k < ns.length) (hn : nodeB (ns.getD k nd0) = false) : endTo ns k (o + 1) = -1 := by
  have hg : ns.getD k nd0 = ns[k] := by simp [List.getD, hk]
  rw [hg] at hn
  unfold endTo
  rw [end_bad hk hn]
theorem endTo_round {ns : List Nd} {k o : Nat} (hk : k < ns.length) (hn : nodeB (ns.getD k nd0) = true) : endTo ns k (o + 1) = endTo ns (k + 1) (o + kidsN (ns.getD k nd0)) := by
  have hg : ns.getD k nd0 = ns[k] := by simp [List.getD, hk]
  rw [hg] at hn ⊢
  unfold endTo
  rw [end_round hk hn]
  cases endGo (ns.drop (k + 1)) (o + kidsN ns[k]) with
  | none => rfl
  | some d => simp only [Option.map_some]; omega

set_option maxHeartbeats 2000000 in
set_option maxRecDepth 100000 in
theorem specEndOf (a : Option Addr) (len cap : Nat) (ns : List Nd) (at_ : Int) (w : World) (hin : NodesIn w a len ns) (hsh : ShortT ns) (hlen : len ≤ 1048576) :
    Calls Try.prog 16 #[.slice a len cap, .int .i64 at_] w fun e w' => e = .returned (.int .i64 (endV ns at_)) ∧ Below w.heap.size w w' := by
  obtain rfl : ns.length = len := hin.1
  by_cases hout : at_ < 0 ∨ (ns.length : Int) ≤ at_
  · have HE : Hid (endV ns at_ = -1) := endV_out ns at_ hout
    by_cases h0 : at_ < 0
    · go_enter Try.func16, Try.ntmps16
      go_wp2
      go_ret
      exact ⟨by rw [HE.out]; rfl, Below.refl _ _⟩
    · have h1 : (ns.length : Int) ≤ at_ := by omega
      clear hout
      go_enter Try.func16, Try.ntmps16
      go_wp2
      go_ret
      exact ⟨by rw [HE.out]; rfl, Below.refl _ _⟩
  · obtain ⟨k0, rfl⟩ : ∃ k0 : Nat, at_ = (k0 : Int) := Int.eq_ofNat_of_zero_le (by omega)
    have hk0 : k0 < ns.length := by omega
    have h0 : ¬ (k0 : Int) < 0 := by omega
    have h1 : ¬ (ns.length : Int) ≤ (k0 : Int) := by omega
    have HE : Hid (endTo ns k0 1 = endV ns (k0 : Int)) := endTo_start hk0
    have HI : Hid (NodesIn w a ns.length ns) := hin
    have HS : Hid (ShortT ns) := hsh
    clear hout hin hsh
    go_enter Try.func16, Try.ntmps16
    go_wp2
    go_loopw [1, 5] (fun av ov wr => ∃ k o : Nat, av = .int .i64 k ∧ ov = .int .i64 o ∧ k ≤ ns.length ∧ o ≤ 1 + 3 * k ∧ Hid (endTo ns k o = endV ns (k0 : Int)) ∧ Below w.heap.size w wr) (fun av _ _ => ns.length - (intOf av).toNat)
    case atStart => exact ⟨k0, 1, rfl, rfl, by omega, by omega, HE, Below.refl _ _⟩
    case round =>
      obtain ⟨k, o, rfl, rfl, hk, ho, HT, hb⟩ := hrel
      clear HE
      by_cases hoz : o = 0
      · subst hoz
        have HF : Hid ((k : Int) = endV ns (k0 : Int)) := by exact (by rw [← HT.out, endTo_zero] : (k : Int) = endV ns (k0 : Int))
        go_wp2
        go_ret
        exact ⟨by rw [← HF.out]; rfl, hb⟩
      · obtain ⟨o', rfl⟩ : ∃ o', o = o' + 1 := ⟨o - 1, by omega⟩
        have ho1 : (0 : Int) < ((o' + 1 : Nat) : Int) := by omega
        by_cases hkl : (ns.length : Int) ≤ (k : Int)
        · have HF : Hid (endV ns (k0 : Int) = -1) := by exact (by rw [← HT.out, endTo_over (by omega)] : endV ns (k0 : Int) = -1)
          clear hoz
          go_wp2
          go_ret
          exact ⟨by rw [HF.out]; rfl, hb⟩
        · obtain ⟨b, off, rfl, hbl, hcells⟩ := (HI.out.below hb).at (by omega)
          obtain ⟨c0, c1, c2, c3⟩ := hcells k (by omega)
          have hs := HS.out k
          obtain ⟨n, hn⟩ : ∃ n, ns.getD k nd0 = n := ⟨_, rfl⟩
          rw [hn] at c0 c1 c2 c3 hs
          have HN : Hid (ns.getD k nd0 = n) := hn
          have HC : Hid (_) := fun W : World => specNodeOk n W hs.1 hs.2
          have HK : Hid (_) := fun W : World => specKids n W
          have hkv := @kidsV_ok n
          obtain ⟨kd, aa, p, f⟩ := n
          unfold nodeVal at HC HK
          simp only at c0 c1 c2 c3 hs HC HK
          clear hn hcells hoz
          go_wp2_with fail
          refine Calls.mono (HC.out _) ?_
          rintro e w1 ⟨rfl, hb1⟩
          have hB1 := hb.trans (hb1.mono hb.size)
          have bc := hb1.block b hbl
          have d0 := (World.cell?_of_block (a := ⟨b, off + k * 4, none⟩) bc).trans c0
          have d1 := (World.cell?_of_block (a := ⟨b, off + k * 4 + 1, none⟩) bc).trans c1
          have d2 := (World.cell?_of_block (a := ⟨b, off + k * 4 + 2, none⟩) bc).trans c2
          have d3 := (World.cell?_of_block (a := ⟨b, off + k * 4 + 3, none⟩) bc).trans c3
          clear c0 c1 c2 c3 hb1 hb HC bc
          rcases hnb : nodeB (kd, aa, p, f) with _ | _
          · have HF : Hid (endV ns (k0 : Int) = -1) := by exact (by rw [← HT.out, endTo_bad (by omega) (by rw [HN.out]; exact hnb)] : endV ns (k0 : Int) = -1)
            clear hnb hkv
            go_wp2
            go_ret
            exact ⟨by rw [HF.out]; rfl, hB1⟩
          · obtain ⟨hk1, hk3⟩ := hkv hnb
            have HT2 : Hid (endTo ns (k + 1) (o' + kidsN (kd, aa, p, f)) = endV ns (k0 : Int)) := by
              have := endTo_round (o := o') (show k < ns.length by omega) (by rw [HN.out]; exact hnb)
              rw [HN.out] at this
              exact (by rw [← this]; exact HT.out : endTo ns (k + 1) (o' + kidsN (kd, aa, p, f)) = endV ns (k0 : Int))
            clear hnb hkv
            go_wp2_with fail
            refine Calls.mono (HK.out _) ?_
            rintro e w2 ⟨rfl, hb2⟩
            rw [hk1]
            have hB2 := hB1.trans (hb2.mono hB1.size)
            obtain ⟨q, hq⟩ : ∃ q, kidsN (kd, aa, p, f) = q := ⟨_, rfl⟩
            rw [hq] at HT2 hk3 ⊢
            have hqi : (q : Int) ≤ 3 := by omega
            clear hk1 hq hb2 hB1 d0 d1 d2 d3 HK
            go_wp2
            go_roundw
            case rel => exact ⟨k + 1, o' + q, by go_num, by go_num, by omega, by omega, HT2, hB2⟩
            case measure => simp [intOf]; omega

end Go.Proofs.Ytnpbckgaeaameaa

/-! Plain facts for chapter 3: a text in pieces. -/
namespace Go.Proofs.Ytnpbckgaeaameaa
open Go.RowKit

def chunksGo : Nat → Nat → List UInt8 → List (List UInt8)
  | 0, _, _ => []
  | f + 1, n, l => if l = [] then [] else l.take n :: chunksGo f n (l.drop n)

def chunksL (l : List UInt8) (size : Int) : List (List UInt8) := if size < 1 then [] else chunksGo l.length size.toNat l

theorem chunksGo_nil (f n : Nat) : chunksGo f n [] = [] := by cases f <;> simp [chunksGo]

theorem chunksGo_fuel (n : Nat) (hn : 1 ≤ n) : ∀ (f g : Nat) (l : List UInt8), l.length ≤ f → l.length ≤ g → chunksGo f n l = chunksGo g n l
  | 0, g, l, h, _ => by
    have : l = [] := List.eq_nil_of_length_eq_zero (by omega)
    subst this; rw [chunksGo_nil, chunksGo_nil]
  | f + 1, 0, l, _, h => by
    have : l = [] := List.eq_nil_of_length_eq_zero (by omega)
    subst this; rw [chunksGo_nil, chunksGo_nil]
  | f + 1, g + 1, l, hf, hg => by
    by_cases hl : l = []
    · subst hl; rw [chunksGo_nil, chunksGo_nil]
    · have hp : 0 < l.length := List.length_pos_iff.2 hl
      rw [chunksGo, chunksGo, if_neg hl, if_neg hl, chunksGo_fuel n hn f g (l.drop n) (by rw [List.length_drop]; omega) (by rw [List.length_drop]; omega)]

/-- One round of the loop: m bytes are cut, n or what is left. -/
theorem chunk_step (n m : Nat) (r : List UInt8) (hn : 1 ≤ n) (hr : r ≠ []) (hm : m = n ∨ (m = r.length ∧ m ≤ n)) : chunksGo r.length n r = r.take m :: chunksGo (r.drop m).length n (r.drop m) := by
  have hp : 0 < r.length := List.length_pos_iff.2 hr
  obtain ⟨k, hk⟩ : ∃ k, r.length = k + 1 := ⟨r.length - 1, by omega⟩
  have e1 : r.take m = r.take n := by
    rcases hm with rfl | ⟨rfl, h⟩
    · rfl
    · rw [List.take_of_length_le (Nat.le_refl _), List.take_of_length_le h]
  have e2 : r.drop m = r.drop n := by
    rcases hm with rfl | ⟨rfl, h⟩
    · rfl
    · rw [List.drop_eq_nil_of_le (Nat.le_refl _), List.drop_eq_nil_of_le h]
  rw [hk, chunksGo, if_neg hr, e1, e2, chunksGo_fuel n hn k (r.drop n).length (r.drop n) (by rw [List.length_drop]; omega) (Nat.le_refl _)]

theorem chunks_len (n : Nat) : ∀ (f : Nat) (l : List UInt8), (chunksGo f n l).length ≤ f
  | 0, _ => by simp [chunksGo]
  | f + 1, l => by
    rw [chunksGo]
    split
    · simp
    · have := chunks_len n f (l.drop n)
      simp; omega

theorem chunksL_len (l : List UInt8) (size : Int) : (chunksL l size).length ≤ l.length := by
  unfold chunksL
  split
  · simp
  · exact chunks_len _ _ _

theorem chunks_join (n : Nat) (hn : 1 ≤ n) : ∀ (f : Nat) (l : List UInt8), l.length ≤ f → (chunksGo f n l).flatten = l
  | 0, l, h => by
    have : l = [] := List.eq_nil_of_length_eq_zero (by omega)
    subst this; rfl
  | f + 1, l, h => by
    by_cases hl : l = []
    · subst hl; rw [chunksGo_nil]; rfl
    · have hp : 0 < l.length := List.length_pos_iff.2 hl
      rw [chunksGo, if_neg hl, List.flatten_cons, chunks_join n hn f (l.drop n) (by rw [List.length_drop]; omega), List.take_append_drop]

/-- A piece is not empty, no longer than it should be, and just so long but for the last. -/
theorem chunks_at (n : Nat) (hn : 1 ≤ n) : ∀ (f : Nat) (l : List UInt8), l.length ≤ f → ∀ i, i < (chunksGo f n l).length →
    (chunksGo f n l).getD i [] ≠ [] ∧ ((chunksGo f n l).getD i []).length ≤ n ∧ (i + 1 < (chunksGo f n l).length → ((chunksGo f n l).getD i []).length = n)
  | 0, l, h, i, hi => by simp [chunksGo] at hi
  | f + 1, l, h, i, hi => by
    by_cases hl : l = []
    · subst hl; rw [chunksGo_nil] at hi; simp at hi
    · have hp : 0 < l.length := List.length_pos_iff.2 hl
      have hd : (l.drop n).length ≤ f := by rw [List.length_drop]; omega
      have e : chunksGo (f + 1) n l = l.take n :: chunksGo f n (l.drop n) := by rw [chunksGo, if_neg hl]
      rw [e] at hi ⊢
      cases i with
      | zero =>
        refine ⟨?_, ?_, fun h1 => ?_⟩
        · simp [List.getD]
          exact ⟨by omega, hl⟩
        · simp [List.getD]; omega
        · simp [List.getD]
          rcases Nat.lt_or_ge l.length n with h2 | h2
          · rw [List.drop_eq_nil_of_le (by omega), chunksGo_nil] at h1
            simp at h1
          · omega
      | succ i =>
        have := chunks_at n hn f (l.drop n) hd i (by simpa using hi)
        simpa [List.getD] using this

end Go.Proofs.Ytnpbckgaeaameaa

/-! The contract of l1DrawBytes: a text of at most eight bytes is drawn. -/
namespace Go.Proofs.Ytnpbckgaeaameaa
open Go.RowKit

theorem byte_of (x : Int) (h0 : 0 ≤ x) (h1 : x ≤ 255) : ((UInt8.ofNat x.toNat).toNat : Int) = x := by rw [UInt8.toNat_ofNat']; omega

theorem bytesV_snoc (l : List UInt8) (x : Int) (h0 : 0 ≤ x) (h1 : x ≤ 255) : bytesV l ++ [.int .u8 x] = bytesV (l ++ [UInt8.ofNat x.toNat]) := by
  unfold bytesV
  rw [List.map_append, List.map_singleton, byte_of x h0 h1]

/-- One byte more behind the own bytes. -/
theorem own_snoc {w1 : World} {B : Nat} {v' : Value} {l : List UInt8} {x : Int} (h0 : 0 ≤ x) (h1 : x ≤ 255) (hown' : w1.ownsRow B 5 1 v' (l.length + 1) (bytesV l ++ [.int .u8 x])) :
    w1.ownsRow B 5 1 v' (l ++ [UInt8.ofNat x.toNat]).length (bytesV (l ++ [UInt8.ofNat x.toNat])) := by
  rw [← bytesV_snoc l x h0 h1, List.length_append, List.length_singleton]
  exact hown'

theorem below_g2 {w W W' : World} (h : Below w.heap.size w W) (hg : W.grownBy W' (some w.heap.size)) : Below w.heap.size w W' := h.grown hg h.size (by simp)

/-- A world that has at most new blocks keeps the cursor. -/
theorem Cur.below {w w' : World} {B : Nat} {a : Option Addr} {len cap : Nat} (h : Cur w B a len cap) (hb : Below w.heap.size w w') : Cur w' B a len cap :=
  h.kept (row := none) ⟨hb.os, hb.tape, hb.output, hb.size, fun k hk _ => hb.block k hk⟩ (by simp)


end Go.Proofs.Ytnpbckgaeaameaa

/-! The contracts of chapter 3's specification: Chunks, Joined. -/
namespace Go.Proofs.Ytnpbckgaeaameaa
open Go.RowKit

/-- The texts ts lie at a, one behind the other. -/
def TextsIn (w : World) (a : Option Addr) (len : Nat) (ts : List (List UInt8)) : Prop :=
  ts.length = len ∧ ∀ j, j < len → ∃ b off, a = some ⟨b, off, none⟩ ∧ b < w.heap.size ∧ w.cell? ⟨b, off + j, none⟩ = some (.string ⟨(ts.getD j []).toArray⟩)

theorem TextsIn.below {w w' : World} {a : Option Addr} {len : Nat} {ts : List (List UInt8)} (h : TextsIn w a len ts) (hb : Below w.heap.size w w') : TextsIn w' a len ts := by
  refine ⟨h.1, fun j hj => ?_⟩
  obtain ⟨b, off, e, hlt, c⟩ := h.2 j hj
  exact ⟨b, off, e, Nat.lt_of_lt_of_le hlt hb.size, (hb.cell (p := ⟨b, off + j, none⟩) hlt).trans c⟩

theorem TextsIn.at {w : World} {a : Option Addr} {len : Nat} {ts : List (List UInt8)} (h : TextsIn w a len ts) (hz : 0 < len) : ∃ b off, a = some ⟨b, off, none⟩ ∧ b < w.heap.size ∧ ∀ j, j < len → w.cell? ⟨b, off + j, none⟩ = some (.string ⟨(ts.getD j []).toArray⟩) := by
  obtain ⟨b, off, rfl, hb, _⟩ := h.2 0 hz
  refine ⟨b, off, rfl, hb, fun j hj => ?_⟩
  obtain ⟨b', off', e, _, c⟩ := h.2 j hj
  injection e with e
  injection e with e1 e2
  subst e1 e2
  exact c

theorem own_texts {w : World} {base n : Nat} {v : Value} {ts : List (List UInt8)} (h : w.ownsRow base 9 1 v n (strV ts)) : ts.length = n ∧ ∃ a cap, v = .slice a n cap ∧ TextsIn w a n ts := by
  have hlen : ts.length = n := by have := h.1; rw [strV_len] at this; omega
  refine ⟨hlen, ?_⟩
  rcases own_forms h with ⟨rfl, rfl, _⟩ | ⟨g, cp, rfl⟩
  · exact ⟨none, 0, rfl, hlen, fun j hj => by omega⟩
  · refine ⟨some ⟨g, 0, none⟩, cp, rfl, hlen, fun j hj => ⟨g, 0, rfl, (h.lt g rfl).2, ?_⟩⟩
    rw [Nat.zero_add]; exact str_cellsD h hlen j hj



theorem strCells_list (l : List UInt8) : Lib.strCells ⟨l.toArray⟩ = bytesV l := by simp [Lib.strCells, bytesV]

theorem flat_snoc (ts : List (List UInt8)) (k : Nat) (hk : k < ts.length) : (ts.take (k + 1)).flatten = (ts.take k).flatten ++ ts.getD k [] := by
  have hg : ts.getD k [] = ts[k] := by simp [List.getD, hk]
  rw [hg, List.take_succ_eq_append_getElem hk, List.flatten_append]; simp

theorem flat_take (ts : List (List UInt8)) (k : Nat) : (ts.take k).flatten.length ≤ ts.flatten.length := by
  have h := congrArg (fun x => x.flatten.length) (List.take_append_drop k ts)
  simp only [List.flatten_append, List.length_append] at h
  omega


end Go.Proofs.Ytnpbckgaeaameaa

/-! The contracts of chapter 6's specification: TreeOk; a node and a tree are shown. -/
namespace Go.Proofs.Ytnpbckgaeaameaa
open Go.RowKit

set_option maxHeartbeats 1000000 in
set_option maxRecDepth 100000 in
theorem specTreeOk (a : Option Addr) (len cap : Nat) (ns : List Nd) (w : World) (hin : NodesIn w a len ns) (hsh : ShortT ns) (hlen : len ≤ 1048576) :
    Calls Try.prog 13 #[.slice a len cap] w fun e w' => e = .returned (.bool (treeB ns)) ∧ Below w.heap.size w w' := by
  obtain rfl : ns.length = len := hin.1
  have HC : Hid (_) := fun W (h : NodesIn W a ns.length ns) => specEndOf a ns.length cap ns 0 W h hsh hlen
  have HI : Hid (NodesIn w a ns.length ns) := hin
  clear hin hsh
  by_cases h : 1 ≤ (ns.length : Int) ∧ (ns.length : Int) ≤ 60
  · have HB : Hid (inB (ns.length : Int) 1 60 = true) := inB_yes _ _ _ h.1 h.2
    have HT : Hid (treeB ns = (endV ns 0 == (ns.length : Int))) := by
      exact (by unfold treeB; rw [Bool.eq_iff_iff, decide_eq_true_iff, beq_iff_eq]; constructor; exact fun x => x.2; exact fun x => ⟨by omega, x⟩ : treeB ns = (endV ns 0 == (ns.length : Int)))
    go_enter Try.func13, Try.ntmps13
    go_wp2_with fail
    refine (specIn _ _ _ _).mono ?_
    rintro e w1 ⟨rfl, rfl⟩
    rw [HB.out]
    go_wp2_with fail
    refine Calls.mono (HC.out _ HI.out) ?_
    rintro e w2 ⟨rfl, hb2⟩
    go_wp2
    go_ret
    exact ⟨by rw [HT.out]; rfl, hb2⟩
  · have HB : Hid (inB (ns.length : Int) 1 60 = false) := inB_no _ _ _ (by omega)
    have HT : Hid (treeB ns = false) := by exact (decide_eq_false (fun x => h (by omega)) : treeB ns = false)
    go_enter Try.func13, Try.ntmps13
    go_wp2_with fail
    refine (specIn _ _ _ _).mono ?_
    rintro e w1 ⟨rfl, rfl⟩
    rw [HB.out]
    go_wp2
    go_ret
    exact ⟨by rw [HT.out]; rfl, Below.refl _ _⟩

theorem intL_short (a : Int) (h0 : -2147483648 ≤ a) (h1 : a ≤ 2147483647) : (intL a).length ≤ 11 := by
  have h := digL_len 9 a.natAbs (by omega)
  unfold intL
  split
  · simp; omega
  · omega


theorem show_len (n : Nd) (h : nodeB n = true) : (showN n).length ≤ 30 := by
  obtain ⟨k, a, p, f⟩ := n
  have hp := nodeB_iff.1 h
  unfold nodeP at hp
  simp only at hp
  rcases hp with ⟨rfl, ⟨h0, h1⟩, rfl, rfl⟩ | ⟨rfl, ⟨h0, h1⟩, rfl, rfl⟩ | ⟨hk, rfl, rfl, rfl⟩ | ⟨rfl, ⟨h0, h1⟩, hpn, hfn⟩
  · have hs : showN (1, a, [], []) = intL a := by unfold showN; simp
    rw [hs]; have := intL_short a h0 h1; omega
  · have hs : showN (2, a, [], []) = 36 :: intL a := by unfold showN; simp
    rw [hs]; have := intL_short a (by omega) (by omega); simp; omega
  · rcases (show k = 3 ∨ k = 4 ∨ k = 5 ∨ k = 6 ∨ k = 7 by omega) with rfl | rfl | rfl | rfl | rfl <;> (unfold showN; simp)
  · have hs : showN (8, a, p, f) = (64 :: p) ++ [46] ++ f ++ [47] ++ intL a := by unfold showN; simp
    rw [hs]
    have := intL_short a (by omega) (by omega)
    have := (name_letters hpn).1
    have := (name_letters hfn).1
    simp; omega

theorem joinBy_len (ws : List (List UInt8)) (m : Nat) (h : ∀ x ∈ ws, x.length ≤ m) : (joinBy 32 ws).length ≤ ws.length * (m + 1) := by
  induction ws with
  | nil => simp [joinBy]
  | cons x r ih =>
    have hx := h x (by simp)
    have ir := ih (fun y hy => h y (by simp [hy]))
    rw [List.length_cons, Nat.add_mul, Nat.one_mul]
    by_cases hr : r = []
    · subst hr; simp [joinBy]; omega
    · rw [joinBy_cons 32 x r hr]; simp only [List.length_append, List.length_singleton]; omega

theorem showL_len (ns : List Nd) (h : ∀ n ∈ ns, nodeB n = true) : (showL ns).length ≤ ns.length * 31 := by
  have := joinBy_len (ns.map showN) 30 (by intro x hx; obtain ⟨n, hn, rfl⟩ := List.mem_map.1 hx; exact show_len n (h n hn))
  rw [List.length_map] at this
  exact this

theorem showL_step (ns : List Nd) (k : Nat) (hk : k < ns.length) : showL (ns.take (k + 1)) = if k = 0 then showN (ns.getD k nd0) else showL (ns.take k) ++ [32] ++ showN (ns.getD k nd0) := by
  unfold showL
  have h := joinBy_step 32 (ns.map showN) k (by simpa using hk)
  rw [← List.map_take, ← List.map_take] at h
  have hg : (ns.map showN).getD k [] = showN (ns.getD k nd0) := by simp [List.getD, hk]
  rw [hg] at h
  exact h

theorem showL_take (ns : List Nd) (k : Nat) : (showL (ns.take k)).length ≤ (showL ns).length := by
  unfold showL
  have := joinBy_take 32 (ns.map showN) k
  rw [← List.map_take] at this
  exact this



end Go.Proofs.Ytnpbckgaeaameaa

/-! The contract of chapter 6's specification: the node of a word. -/
namespace Go.Proofs.Ytnpbckgaeaameaa
open Go.RowKit

theorem part_le (ws : List (List UInt8)) (j : Nat) : (ws.getD j []).length ≤ ws.flatten.length := by
  induction ws generalizing j with
  | nil => simp
  | cons x r ih =>
    cases j with
    | zero => simp
    | succ j => have := ih j; simp only [List.getD_cons_succ, List.flatten_cons, List.length_append]; omega

/-- Four cells of one block are written. -/
theorem four_set (w : World) (b : Nat) (n : Nd) {u0 u1 u2 u3 : Value} (r0 : w.cell? ⟨b, 0, none⟩ = some u0) (r1 : w.cell? ⟨b, 1, none⟩ = some u1) (r2 : w.cell? ⟨b, 2, none⟩ = some u2) (r3 : w.cell? ⟨b, 3, none⟩ = some u3) :
    let X := ((((w.setCell ⟨b, 0, none⟩ (.int .i64 n.1)).setCell ⟨b, 1, none⟩ (.int .i64 n.2.1)).setCell ⟨b, 2, none⟩ (.string ⟨n.2.2.1.toArray⟩)).setCell ⟨b, 3, none⟩ (.string ⟨n.2.2.2.toArray⟩))
    X.cell? ⟨b, 0, none⟩ = some (.int .i64 n.1) ∧ X.cell? ⟨b, 1, none⟩ = some (.int .i64 n.2.1) ∧ X.cell? ⟨b, 2, none⟩ = some (.string ⟨n.2.2.1.toArray⟩) ∧ X.cell? ⟨b, 3, none⟩ = some (.string ⟨n.2.2.2.toArray⟩) := by
  intro X
  have o : ∀ (W : World) (i j : Nat) (v : Value), i ≠ j → (W.setCell ⟨b, i, none⟩ v).cell? ⟨b, j, none⟩ = W.cell? ⟨b, j, none⟩ := fun W i j v h => World.cell?_setCell_other _ _ _ _ (by intro e; injection e with _ e; omega)
  refine ⟨?_, ?_, ?_, ?_⟩
  · exact (o _ 3 0 _ (by omega)).trans ((o _ 2 0 _ (by omega)).trans ((o _ 1 0 _ (by omega)).trans (World.cell?_setCell_same _ _ _ r0)))
  · exact (o _ 3 1 _ (by omega)).trans ((o _ 2 1 _ (by omega)).trans (World.cell?_setCell_same _ _ _ ((o _ 0 1 _ (by omega)).trans r1)))
  · exact (o _ 3 2 _ (by omega)).trans (World.cell?_setCell_same _ _ _ ((o _ 1 2 _ (by omega)).trans ((o _ 0 2 _ (by omega)).trans r2)))
  · exact World.cell?_setCell_same _ _ _ ((o _ 2 3 _ (by omega)).trans ((o _ 1 3 _ (by omega)).trans ((o _ 0 3 _ (by omega)).trans r3)))

theorem four_below {w W : World} (h : Below w.heap.size w W) (u0 u1 u2 u3 : Value) : Below w.heap.size w ((((W.setCell ⟨w.heap.size, 0, none⟩ u0).setCell ⟨w.heap.size, 1, none⟩ u1).setCell ⟨w.heap.size, 2, none⟩ u2).setCell ⟨w.heap.size, 3, none⟩ u3) :=
  (((h.setCell (p := ⟨w.heap.size, 0, none⟩) (Nat.le_refl _) _).setCell (p := ⟨w.heap.size, 1, none⟩) (Nat.le_refl _) _).setCell (p := ⟨w.heap.size, 2, none⟩) (Nat.le_refl _) _).setCell (p := ⟨w.heap.size, 3, none⟩) (Nat.le_refl _) _


end Go.Proofs.Ytnpbckgaeaameaa

/-! The contract of chapter 6's specification: ReadTree. -/
namespace Go.Proofs.Ytnpbckgaeaameaa
open Go.RowKit

/-- What a row of nodes holds. -/
def nodesV : List Nd → List Value
  | [] => []
  | n :: r => .int .i64 n.1 :: .int .i64 n.2.1 :: .string ⟨n.2.2.1.toArray⟩ :: .string ⟨n.2.2.2.toArray⟩ :: nodesV r

theorem nodesV_len (ns : List Nd) : (nodesV ns).length = ns.length * 4 := by
  induction ns with
  | nil => rfl
  | cons n r ih => simp only [nodesV, List.length_cons, ih]; omega

theorem nodesV_append (x y : List Nd) : nodesV (x ++ y) = nodesV x ++ nodesV y := by
  induction x with
  | nil => rfl
  | cons n r ih => simp only [List.cons_append, nodesV, ih]

theorem nodesV_one (ns : List Nd) : ∀ u ∈ nodesV ns, u.oneCell' = true := by
  induction ns with
  | nil => intro u hu; cases hu
  | cons n r ih =>
    intro u hu
    simp only [nodesV, List.mem_cons] at hu
    rcases hu with rfl | rfl | rfl | rfl | h
    · rfl
    · rfl
    · rfl
    · rfl
    · exact ih u h

theorem nodesV_at (ns : List Nd) (j : Nat) (hj : j < ns.length) : (nodesV ns)[j * 4]? = some (.int .i64 (ns.getD j nd0).1) ∧ (nodesV ns)[j * 4 + 1]? = some (.int .i64 (ns.getD j nd0).2.1) ∧ (nodesV ns)[j * 4 + 2]? = some (.string ⟨(ns.getD j nd0).2.2.1.toArray⟩) ∧ (nodesV ns)[j * 4 + 3]? = some (.string ⟨(ns.getD j nd0).2.2.2.toArray⟩) := by
  induction ns generalizing j with
  | nil => simp at hj
  | cons n r ih =>
    cases j with
    | zero => simp [nodesV]
    | succ j =>
      have h := ih j (by simpa using hj)
      rw [show (j + 1) * 4 = j * 4 + 1 + 1 + 1 + 1 by omega]
      simpa [nodesV] using h

/-- A row of nodes that a call owns is a list of nodes. -/
theorem own_nodes {w : World} {base n : Nat} {v : Value} {ns : List Nd} (h : w.ownsRow base 30 4 v n (nodesV ns)) : ns.length = n ∧ ∃ a cap, v = .slice a n cap ∧ NodesIn w a n ns := by
  have hlen : ns.length = n := by have := h.1; rw [nodesV_len] at this; omega
  refine ⟨hlen, ?_⟩
  rcases own_forms h with ⟨rfl, rfl, _⟩ | ⟨g, cp, rfl⟩
  · exact ⟨none, 0, rfl, hlen, fun j hj => by omega⟩
  · refine ⟨some ⟨g, 0, none⟩, cp, rfl, hlen, fun j hj => ?_⟩
    obtain ⟨v0, v1, v2, v3⟩ := nodesV_at ns j (by omega)
    have c0 := h.cellAt (j * 4) (by omega)
    have c1 := h.cellAt (j * 4 + 1) (by omega)
    have c2 := h.cellAt (j * 4 + 2) (by omega)
    have c3 := h.cellAt (j * 4 + 3) (by omega)
    rw [v0] at c0
    rw [v1] at c1
    rw [v2] at c2
    rw [v3] at c3
    refine ⟨g, 0, rfl, (h.lt g rfl).2, ?_, ?_, ?_, ?_⟩
    · rw [Nat.zero_add]; exact c0
    · rw [Nat.zero_add]; exact c1
    · rw [Nat.zero_add]; exact c2
    · rw [Nat.zero_add]; exact c3

theorem infoNode : (Try.prog.info? 30).map (fun i => (i.zero, i.size, i.bytes)) = some (some (.agg #[.int .i64 0, .int .i64 0, .string ⟨#[]⟩, .string ⟨#[]⟩]), 4, 48) := by kernel_rfl

theorem new_node (w : World) (n : Nd) : ∀ j u, (nodesV [n])[j]? = some u → (w.alloc (.cells #[.int .i64 n.1, .int .i64 n.2.1, .string ⟨n.2.2.1.toArray⟩, .string ⟨n.2.2.2.toArray⟩] 30)).cell? ((⟨w.heap.size, 0, none⟩ : Addr).add j) = some u := by
  intro j u hu
  have e : (⟨w.heap.size, 0, none⟩ : Addr).add j = ⟨w.heap.size, j, none⟩ := by unfold Addr.add; split <;> simp_all
  rw [e]
  match j, hu with
  | 0, hu => simp [nodesV] at hu; subst hu; simp
  | 1, hu => simp [nodesV] at hu; subst hu; simp
  | 2, hu => simp [nodesV] at hu; subst hu; simp
  | 3, hu => simp [nodesV] at hu; subst hu; simp
  | j + 4, hu => simp [nodesV] at hu

theorem split_part (b : UInt8) (l : List UInt8) (j : Nat) : ((splitL b l).getD j []).length ≤ l.length := by
  have h1 : (splitGo b [] l).flatten.length ≤ l.length := by
    have := splitGo_flat b l []
    rw [List.length_nil, Nat.zero_add] at this
    exact this
  have h2 := part_le (splitL b l) j
  unfold splitL at h2 ⊢
  exact Nat.le_trans h2 h1

theorem readN_short (s : List UInt8) : (readN s).2.2.1.length ≤ s.length ∧ (readN s).2.2.2.length ≤ s.length := by
  unfold readN
  split
  · simp
  split
  · simp
  split
  · simp
  split
  · simp
  split
  · simp
  split
  · simp
  split
  · split
    · have h1 := split_part 47 s.tail 0
      have h2 := split_part 46 ((splitL 47 s.tail).getD 0 []) 0
      have h3 := split_part 46 ((splitL 47 s.tail).getD 0 []) 1
      have h4 : s.tail.length ≤ s.length := by rw [List.length_tail]; omega
      constructor
      · show ((splitL 46 ((splitL 47 s.tail).getD 0 [])).getD 0 []).length ≤ _; omega
      · show ((splitL 46 ((splitL 47 s.tail).getD 0 [])).getD 1 []).length ≤ _; omega
    · simp
  split
  · simp
  · simp

theorem readT_short (s : List UInt8) (h : s.length ≤ 2000) : ShortT (readT s) := by
  intro j
  unfold readT
  by_cases hj : j < (splitL 32 s).length
  · have hg : ((splitL 32 s).map readN).getD j nd0 = readN ((splitL 32 s).getD j []) := by simp [List.getD, hj]
    rw [hg]
    have h1 := readN_short ((splitL 32 s).getD j [])
    have h2 := split_part 32 s j
    omega
  · have hg : ((splitL 32 s).map readN).getD j nd0 = nd0 := by simp [List.getD, hj]
    rw [hg]; simp [nd0]

theorem map_step2 (ws : List (List UInt8)) (k : Nat) (hk : k < ws.length) : (ws.map readN).take (k + 1) = (ws.map readN).take k ++ [readN (ws.getD k [])] := by
  rw [← List.map_take, ← List.map_take]
  have hg : ws.getD k [] = ws[k] := by simp [List.getD, hk]
  rw [hg, List.take_succ_eq_append_getElem hk, List.map_append]; rfl


end Go.Proofs.Ytnpbckgaeaameaa
