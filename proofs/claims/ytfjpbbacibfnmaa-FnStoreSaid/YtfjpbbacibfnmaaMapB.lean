/-
  A map from keys to blobs that a call has made: what it holds, told by a list of blobs; a look-up, a store, 'clear'.
-/
import Derived.Test.YtfjpbbacibfnmaaMath3M
import Derived.Test.YtfjpbbacibfnmaaOwn
import Derived.Test.YtfjpbbacibfnmaaStoreIn
import Derived.Maps.OwnSet
import Derived.Maps.Range
import Derived.Lib.SlKeysI
namespace Go.Proofs.Ytfjpbbacibfnmaa
open Go.RowKit Go.Maps Go.MapKept Go.ChangeMaps
open Go.WideElems (Fit rd rg pl rd_val rd_key rg_of)

def blobVal (x : Bl) : Value := .agg #[.int .i64 x.1, .string ⟨x.2.toArray⟩]
def blobD (x : Bl) : DataW Unit := .agg [.lit (.int .i64 x.1), .lit (.string x.2)]

theorem blobVal_inj {x y : Bl} (h : blobVal x = blobVal y) : x = y := by
  obtain ⟨a, s⟩ := x
  obtain ⟨b, t⟩ := y
  simp [blobVal] at h
  obtain ⟨rfl, rfl⟩ := h
  rfl

theorem blobD_inj {x y : Bl} (h : blobD x = blobD y) : x = y := by
  obtain ⟨a, s⟩ := x
  obtain ⟨b, t⟩ := y
  simp [blobD] at h
  obtain ⟨rfl, rfl⟩ := h
  rfl

open Classical in
/-- How a blob in a map reads. -/
noncomputable def blobR (v : Value) : Option (DataW Unit × List MemPlace) := if h : ∃ x : Bl, v = blobVal x then some (blobD h.choose, []) else none

theorem blobR_mk (x : Bl) : blobR (blobVal x) = some (blobD x, []) := by
  have h : ∃ y : Bl, blobVal x = blobVal y := ⟨x, rfl⟩
  unfold blobR
  rw [dif_pos h, ← blobVal_inj h.choose_spec]

theorem blobR_inv {v : Value} {z : DataW Unit × List MemPlace} (h : blobR v = some z) : ∃ x : Bl, v = blobVal x ∧ z = (blobD x, []) := by
  unfold blobR at h
  split at h
  · rename_i hx
    obtain ⟨x, rfl⟩ := hx
    have hc : ∃ y : Bl, blobVal x = blobVal y := ⟨x, rfl⟩
    injection h with h
    exact ⟨x, rfl, by rw [← h, ← blobVal_inj hc.choose_spec]⟩
  · cases h

theorem keyLaw : Keyed Try.prog 2 := int_keyed Try.underlying2
theorem zeroBlob (w : World) : (zeroValue 39).run Try.prog w = .ok (blobVal (0, [])) w := by kernel_rfl

/-- The map holds just what the list holds. -/
structure MapIs (D : DataW Unit) (l : List Bl) : Prop where
  isMap : IsMap D
  has : ∀ key, Maps.has D (.int .i64 key) = fetchB l key
  at_ : ∀ key z, fetchB l key = true → D.atKey (.int .i64 key) z = blobD (key, fetchT l key)

theorem MapIs.empty : MapIs (.map []) [] := ⟨isMap_empty, fun _ => rfl, fun _ _ h => by cases h⟩

theorem keyLit (key : Int) : WideAt.IsKeyLit (.int .i64 key) := trivial

theorem MapIs.put {D : DataW Unit} {l l' : List Bl} (h : MapIs D l) (key : Int) (t : List UInt8) (hl : ∀ x, fetchB l' x = (decide (x = key) || fetchB l x) ∧ (fetchB l' x = true → fetchT l' x = if x = key then t else fetchT l x)) : MapIs (D.put (.int .i64 key) (blobD (key, t))) l' := by
  refine ⟨h.isMap.put _ _, fun x => ?_, fun x z hx => ?_⟩
  · rw [(hl x).1]
    by_cases e : x = key
    · subst e
      rw [has_put_same h.isMap (keyLit x)]
      simp
    · rw [has_put_other (fun e' => e (by injection e')), h.has]
      simp [e]
  · have hT := (hl x).2 hx
    rw [(hl x).1] at hx
    by_cases e : x = key
    · subst e
      rw [atKey_put_same h.isMap (keyLit x), hT, if_pos rfl]
    · rw [atKey_put_other (fun e' => e (by injection e')), hT, if_neg e]
      rw [decide_eq_false e, Bool.false_or] at hx
      exact h.at_ x z hx

/-- The same again: nothing turns. -/
theorem MapIs.same {D : DataW Unit} {l : List Bl} (h : MapIs D l) (key : Int) (hf : fetchB l key = true) : MapIs (D.put (.int .i64 key) (blobD (key, fetchT l key))) l :=
  h.put key (fetchT l key) (fun x => ⟨by
    by_cases e : x = key
    · subst e; simp [hf]
    · simp [e], fun _ => by
    by_cases e : x = key
    · subst e; simp
    · simp [e]⟩)

section
variable {w : World} {b n : Nat} {D : DataW Unit} {l : List Bl}

theorem key_there (hown : w.ownsMap Try.prog 2 blobR b n D) (hM : MapIs D l) {key : Int} (hf : fetchB l key = true) : (Lit.int .i64 key).wf = true := by
  obtain ⟨es, hD, hko⟩ := hown.keysOf
  subst hD
  have := hM.has key
  rw [hf, has_eq, List.any_eq_true] at this
  obtain ⟨p, hp, hs⟩ := this
  obtain ⟨v, hv⟩ := hko p hp
  obtain ⟨x, _, hx, hw⟩ := Maps.keyOf_i64 Try.underlying2 hv
  rw [hx] at hs
  simp [Lit.sameKey] at hs
  subst hs
  exact hw

theorem look_yes (c : Bool) (hown : w.ownsMap Try.prog 2 blobR b n D) (hM : MapIs D l) {key : Int} (hf : fetchB l key = true) :
    (Instr.lookup 64 (.map (some b)) (.int .i64 key) c).run Try.prog w = .ok (if c then .tuple #[.agg #[.int .i64 key, .string ⟨(fetchT l key).toArray⟩], .bool true] else .agg #[.int .i64 key, .string ⟨(fetchT l key).toArray⟩]) w := by
  have hw := key_there hown hM hf
  have hkey := keyOf_int_mk Try.underlying2 hw
  have hhas := hM.has key
  obtain ⟨es, clock, hb, F, _, rfl⟩ := hown
  rcases Maps.fit_look c keyLaw Try.underlying64 (zeroBlob w) hb F hkey with ⟨_, _, hat⟩ | ⟨e0, y, _, _, hrun, hRv, hat, _⟩
  · rw [hf, Maps.has_false_of_atKey hat] at hhas
    cases hhas
  · obtain ⟨x, hx, hy⟩ := blobR_inv hRv
    have e1 : y.1 = blobD (key, fetchT l key) := (hat .nil).symm.trans (hM.at_ key .nil hf)
    rw [hy] at e1
    have e2 : x = (key, fetchT l key) := blobD_inj e1
    rw [hrun, hx, e2]
    rfl

theorem look_no (c : Bool) (hown : w.ownsMap Try.prog 2 blobR b n D) (hM : MapIs D l) {key : Int} (hf : fetchB l key = false) :
    (Instr.lookup 64 (.map (some b)) (.int .i64 key) c).run Try.prog w = .ok (if c then .tuple #[.agg #[.int .i64 0, .string ⟨#[]⟩], .bool false] else .agg #[.int .i64 0, .string ⟨#[]⟩]) w := by
  have hhas := hM.has key
  obtain ⟨es, clock, hb, F, _, rfl⟩ := hown
  by_cases hw : (Lit.int .i64 key).wf = true
  · have hkey := keyOf_int_mk Try.underlying2 hw
    rcases Maps.fit_look c keyLaw Try.underlying64 (zeroBlob w) hb F hkey with ⟨hrun, _, _⟩ | ⟨e0, y, _, _, hrun, hRv, hat, _⟩
    · rw [hrun]; rfl
    · rw [hf, Maps.has_true_of_atKey hat] at hhas
      cases hhas
  · have hk : IsKey (.int .i64) (.int .i64 key) := by simp [IsKey]
    have hks : ∀ y ∈ es.toList, IsKey (.int .i64) y.key ∧ y.key ≠ .int .i64 key := fun y hy => by
      obtain ⟨z, hz⟩ := F.reads y hy
      obtain ⟨x, hx, _, hwx⟩ := Maps.keyOf_i64 Try.underlying2 (rd_key hz)
      rw [hx]
      exact ⟨by simp [IsKey], fun e => hw (by rw [← (Value.int.inj e).2]; exact hwx)⟩
    rcases findNow_spec hk es.toList 0 (fun y hy => (hks y hy).1) with ⟨h1, _⟩ | ⟨j, e0, _, h2, h3⟩
    · simp [Instr.lookup, run_underlying Try.underlying64, MapKept.run_getObj_map hb, run_checkKey (w := w) Try.underlying2 hk, run_findKey (w := w) Try.underlying2 h1, Result.andThen]
    · exact absurd h3 (hks e0 (List.mem_of_getElem? h2)).2

/-- 'clear(m)'. -/
theorem clear_map (hown : w.ownsMap Try.prog 2 blobR b n D) (ty : TypeId) : ∃ w', (Builtin.clear_ #[64] ty #[.map (some b)]).run Try.prog w = .ok (.tuple #[]) w' ∧ w'.ownsMap Try.prog 2 blobR b n (.map []) ∧ w.grownBy w' (some b) := by
  obtain ⟨es, clock, hb, F, hs, rfl⟩ := hown
  refine ⟨setBlock w b (.map #[] clock), ?_, ⟨#[], clock, heap_setBlock_same hb _, ⟨by simp, stamped_empty clock, by simp⟩, Nat.zero_le _, rfl⟩, ⟨rfl, rfl, rfl, by simp [setBlock], fun i _ hi => heap_setBlock_other hb _ (fun e => hi (by rw [e]))⟩⟩
  simp [Builtin.clear_, run_underlying Try.underlying64, MapKept.run_getObj_map hb, MapKept.run_setObj_map _ hb, Result.andThen, setBlock]

/-- The map's keys, in order. -/
theorem keys_sorted (hown : w.ownsMap Try.prog 2 blobR b n D) (hM : MapIs D l) (hr : Rises l) {ss : List Int} (hp : ss.Perm (intKeys D)) : ss.mergeSort (fun x y => decide (x ≤ y)) = l.map Prod.fst := by
  obtain ⟨es, hD, hpw, _⟩ := hown.entries keyLaw
  obtain ⟨es', hD', hko⟩ := hown.keysOf
  obtain rfl : es = es' := by rw [hD] at hD'; simpa using hD'
  subst hD
  have hq := perm_intKeys hpw (fun p hp => by obtain ⟨v, hv⟩ := hko p hp; obtain ⟨x, _, hx, _⟩ := Maps.keyOf_i64 Try.underlying2 hv; exact ⟨x, hx⟩) (fst_nodup hr) (fun x => by rw [hM.has x, fetchB_iff])
  have e := mergeSort_of_perm_i (hp.trans hq.symm)
  rw [show ss.mergeSort (fun x y => decide (x ≤ y)) = ss.mergeSort leI from rfl, e]
  exact List.mergeSort_of_pairwise (fst_sorted hr)
end

theorem BlobsIn.kept_map {w w' : World} {a : Option Addr} {len cap : Nat} {bs : List Bl} {m n : Nat} {D : DataW Unit} (h : BlobsIn w a len cap bs) (hown : w.ownsMap Try.prog 2 blobR m n D) (hg : w.grownBy w' (some m)) : BlobsIn w' a len cap bs := by
  obtain ⟨es, clock, hb, _⟩ := hown
  refine ⟨h.1, h.2.1, fun j hj => ?_⟩
  obtain ⟨b, off, e, hlt, c0, c1⟩ := h.2.2 j hj
  have hne : b ≠ m := fun e => by subst e; simp [World.cell?, hb] at c0
  have hk := hg.block b hlt (by simpa using hne)
  exact ⟨b, off, e, Nat.lt_of_lt_of_le hlt hg.size, (World.cell?_of_block (a := ⟨b, off + j * 2, none⟩) hk).trans c0, (World.cell?_of_block (a := ⟨b, off + j * 2 + 1, none⟩) hk).trans c1⟩

/-- 'clear' in a plain region. -/
theorem wpList_clear_run {P : Program} {w w' : World} {ops : Array Oper} {rest : List Oper} {o : Oper} {a : Act} {Q : Exit → Act → World → Prop} (hgd : o.guard = none) (s : Operand) (t : TypeId)
    (ho : o.op = .call { callee := .builtin .clear, args := #[s], argTypes := #[t] }) (v v' : Value) (hs : a.eval s = v)
    (hrun : (Builtin.clear_ #[t] o.type #[v]).run P w = .ok v' w') (h : wpList P ops Q rest (a.put o.dst v') w') : wpList P ops Q (o :: rest) a w := by
  refine wpList_plain hgd fun K hK => ?_
  unfold Oper.wp
  simp [execOp, ho, resolve, invoke, builtin, hs, hrun, Result.andThen]
  exact hK _ _ h

end Go.Proofs.Ytfjpbbacibfnmaa
