/-
  Parts of one proof, one behind the other: LawOl.
-/
import Derived.Test.YtaioedcaopbgkaaP36
import Derived.Test.YtaioedcaopbgkaaP32
import Derived.Deep.RegionHeld3
import Derived.Deep.Cut
import Derived.Deep.CutRange
import Derived.Deep.RegionWith

/-! The law FnOneLease: while a task is lent it is lent to nobody else, till its time is over. -/
namespace Go.Proofs.Ytaioedcaopbgkaa
open Go.RowKit

theorem tk_ok {X : World} {L : Nat} {va : Option Addr} {vc n : Nat} {xs : List TV} {ts : List Ta} (ho : TksOwn X L (.slice va n vc) xs) (hx : xs.map (·.1) = ts) (hn : ts.length = n) : TasksOk X va n vc ts ∧ n ≤ vc := by
 obtain ⟨a7, c7, e7, hok7⟩ := ho.ok
 have hxl : xs.length = n := by rw [← hn, ← hx, List.length_map]
 rw [hx, hxl] at hok7
 rw [hxl] at e7
 injection e7 with e7 _ e8
 subst e7
 subst e8
 have hr := ho.row
 rw [hxl] at hr
 exact ⟨hok7, own_cap18 hr⟩
theorem lentV_small {d : Dk} {worker : Int} (h : ShortTa d.1) (h9 : d.1.length ≤ 9) : ShortTa (lentV d worker).1.1 ∧ (lentV d worker).1.1.length ≤ 9 := by
 unfold lentV
 split
 ·
  unfold lend18
  split
  ·
   split
   ·
    rename_i i _
    exact ⟨short_set h i _ (h i).1 (h i).2, by rw [List.length_set]; exact h9⟩
   ·
    exact ⟨h, h9⟩
  ·
   exact ⟨h, h9⟩
 ·
  exact ⟨fun j => by simp [dk0, ta0], by simp [dk0]⟩
theorem lentV_desk {d : Dk} {worker : Int} (h : 0 ≤ (lentV d worker).2) : deskB d = true := by
 rcases hb : deskB d with _ | _
 ·
  have h2 : (lentV d worker).2 = -1 := by unfold lentV; rw [hb]; rfl
  omega
 ·
  rfl
/-- What is so of a desk whose task k was just lent. -/
structure Lent18 (d : Dk) (k : Nat) : Prop where
 ok : deskB d = true
 lt : k < d.1.length
 st : (d.1.getD k ta0).2.2.1 = 1
 un : (d.1.getD k ta0).2.2.2.2.1 = d.2.2.1 + 10
 fr : free18 d.1 (d.1.getD k ta0) = true
theorem lent_first {d : Dk} {worker : Int} {k : Nat} (hk : (lentV d worker).2 = (k : Int)) (hn : (lentV d worker).1.2.2.1 ≤ 999950) : Lent18 (lentV d worker).1 k := by
 have hd := lentV_desk (d := d) (worker := worker) (by omega)
 obtain ⟨i, hi, _, _, he, hil, hc, _⟩ := lent_of hd hk (by omega)
 obtain rfl : k = i := by omega
 have hok := lent_ok (worker := worker) hd
 rw [he] at hok hn ⊢
 simp only at hn
 have hg : (d.1.set k (leased18 d worker (d.1.getD k ta0))).getD k ta0 = leased18 d worker (d.1.getD k ta0) := by rw [getD_set18 _ _ _ _ hil, if_pos rfl]
 refine ⟨hok, by simp only [List.length_set]; exact hil, ?_, ?_, ?_⟩
 ·
  simp only [hg]; rfl
 ·
  simp only [hg]
  unfold leased18
  simp only
  rw [if_pos (by omega)]
 ·
  simp only [hg]
  rw [free18_lent hil hc.1 rfl]
  exact hc.2.1
/-- Nobody else is lent it. -/
theorem one_step {y : Dk} {k : Nat} {t : Ta} {now worker : Int} (hy : Held18 y k t now) (hs : t.2.2.1 = 1) (hu : now < t.2.2.2.2.1) : (lentV y worker).2 ≠ (k : Int) ∧ (0 ≤ (lentV y worker).2 → Held18 (lentV y worker).1 k t now) := by
 have hno : ¬ can18 y k := fun hc => hc.2.2 ⟨by rw [hy.at']; exact hs, by rw [hy.at', hy.now']; exact hu⟩
 refine ⟨fun e => ?_, fun h => ?_⟩
 ·
  obtain ⟨i, hi, _, _, _, _, hc, _⟩ := lent_of hy.ok e (by omega)
  obtain rfl : k = i := by omega
  exact hno hc
 ·
  obtain ⟨i, hi, _, _, he, hil, hc, _⟩ := lent_of hy.ok rfl h
  have hok := lent_ok (worker := worker) hy.ok
  rw [he] at hok ⊢
  have hik : k ≠ i := fun e => by subst e; exact hno hc
  exact ⟨hok, by simp only [List.length_set]; exact hy.lt, by simp only; rw [getD_set18 _ _ _ _ hil, if_neg hik]; exact hy.at', hy.now'⟩
/-- Its time is over: in so many rounds it was not lent. -/
structure Free18 (z : Dk) (k i : Nat) (now : Int) : Prop where
 ok : deskB z = true
 lt : k < z.1.length
 can : can18 z k
 no : ∀ q, q < i → ¬ can18 z q
 now' : z.2.2.1 = now
theorem two_step {z : Dk} {k i : Nat} {now worker : Int} (hz : Free18 z k i now) (hn : now + 10 ≤ 1000000) (h0 : 0 ≤ worker) (h1 : worker < 4) : 0 ≤ (lentV z worker).2 ∧ ((lentV z worker).2 ≠ (k : Int) → Free18 (lentV z worker).1 k (i + 1) now) := by
 have hw : inB worker 0 3 = true := by unfold inB; exact decide_eq_true (by omega)
 have hge : 0 ≤ (lentV z worker).2 := by
  rcases Int.lt_or_le (lentV z worker).2 0 with h | h
  ·
   exact absurd hz.can (lent_neg hz.ok h hw k hz.lt)
  ·
   exact h
 refine ⟨hge, fun hne => ?_⟩
 obtain ⟨j, hj, _, _, he, hjl, hc, hno⟩ := lent_of hz.ok rfl hge
 have hok := lent_ok (worker := worker) hz.ok
 have hjk : j ≠ k := fun e => by subst e; exact hne hj
 have hij : i ≤ j := by
  rcases Nat.lt_or_ge j i with h | h
  ·
   exact absurd hc (hz.no j h)
  ·
   exact h
 rw [he] at hok ⊢
 refine ⟨hok, by simp only [List.length_set]; exact hz.lt, (can18_lent hjl hc hjk.symm).2 hz.can, fun q hq => ?_, hz.now'⟩
 by_cases hqj : q = j
 ·
  subst hqj
  exact not_can_lent hjl (by rw [hz.now']; exact hn)
 ·
  exact fun h => by
   have h2 := (can18_lent hjl hc hqj).1 h
   rcases Nat.lt_or_ge q j with g | g
   ·
    exact hno q g h2
   ·
    omega
theorem two_start {d : Dk} {k : Nat} (h : Lent18 d k) (hn : d.2.2.1 ≤ 999950) : tickedV d 10 = ((d.1, d.2.1, d.2.2.1 + 10, d.2.2.2), true) ∧ Free18 (d.1, d.2.1, d.2.2.1 + 10, d.2.2.2) k 0 (d.2.2.1 + 10) := by
 have hp := (deskB_iff.1 h.ok).t
 have hib : inB 10 0 (1000000 - d.2.2.1) = true := by unfold inB; exact decide_eq_true (by omega)
 have hst := h.st
 have hun := h.un
 have hfr := h.fr
 obtain ⟨ts, ep, nw, jr⟩ := d
 simp only at hib hn hst hun hfr hp ⊢
 refine ⟨?_, tick_right h.ok hib, h.lt, ⟨by show (ts.getD k ta0).2.2.1 ≠ 2; rw [hst]; decide, hfr, fun e => ?_⟩, fun q hq => by omega, rfl⟩
 ·
  unfold tickedV
  rw [if_pos h.ok]
  simp only
  rw [if_pos hib]
 ·
  have e2 : nw + 10 < (ts.getD k ta0).2.2.2.2.1 := e.2
  omega
theorem Free18.left {z : Dk} {k i : Nat} {now : Int} (h : Free18 z k i now) : i ≤ 8 := by
 have h8 := (deskB_iff.1 h.ok).n
 have hl := h.lt
 rcases Nat.lt_or_ge k i with g | g
 ·
  exact absurd h.can (h.no k g)
 ·
  omega

/-- A desk that was answered, in a box of its own, behind world X. -/
structure Out18 (X wx : World) (L P : Nat) (va : Option Addr) (vc : Nat) (xs : List TV) (d : Dk) : Prop where
 dk : Dk18 wx L P va vc d.1.length xs d.1 d.2.1 d.2.2.1 d.2.2.2
 bl : Below X.heap.size X wx
 up : ∀ k, TkBlocks (.slice va d.1.length vc) xs k → X.heap.size ≤ k
 p : X.heap.size ≤ P
theorem ol_new {X U w2 : World} {L : Nat} {va : Option Addr} {vc : Nat} {xs : List TV} {d : Dk} (hU : Below X.heap.size X U) (ho : TksOwn w2 U.heap.size (.slice va d.1.length vc) xs) (hx : xs.map (·.1) = d.1) (ha : ApartR (xs.map tvT)) (hb : Below U.heap.size U w2) (hL : L ≤ X.heap.size) :
 Out18 X (w2.alloc (.cells #[.slice va d.1.length vc, .int .i64 d.2.1, .int .i64 d.2.2.1, .string ⟨d.2.2.2.toArray⟩] 26)) L w2.heap.size va vc xs d := by
 have hU2 := hU.size
 have hb2 := hb.size
 have hba : Below w2.heap.size w2 (w2.alloc (.cells #[.slice va d.1.length vc, .int .i64 d.2.1, .int .i64 d.2.2.1, .string ⟨d.2.2.2.toArray⟩] 26)) := (Below.refl _ _).alloc (Nat.le_refl _) _
 have hbl := hba.size
 have key : ∀ k, TkBlocks (.slice va d.1.length vc) xs k → U.heap.size ≤ k ∧ k < w2.heap.size := fun k hk => by
  rcases hk with e | ⟨x, hx, e⟩
  ·
   exact ho.row.lt k e
  ·
   exact (ho.trees x hx).lt k e
 refine ⟨⟨B4.new _ _ _ _ _ _, (ho.below hba).base (by omega), hx, ha, fun k hk e => by have := (key k hk).2; omega, rfl, by omega, by omega⟩, (hU.trans (hb.mono hU2)).trans (hba.mono (by omega)), fun k hk => by have := (key k hk).1; omega, by omega⟩
theorem ol_set {X U w2 : World} {L P : Nat} {va : Option Addr} {vc : Nat} {xs : List TV} {d : Dk} {z0 z1 z2 z3 : Value} (hU : Below X.heap.size X U) (ho : TksOwn w2 U.heap.size (.slice va d.1.length vc) xs) (hx : xs.map (·.1) = d.1) (ha : ApartR (xs.map tvT)) (hb : Below U.heap.size U w2) (hL : L ≤ X.heap.size) (hz : B4 w2 P z0 z1 z2 z3) (hP : P < U.heap.size) (hXP : X.heap.size ≤ P) :
 Out18 X ((((w2.setCell ⟨P, 0, none⟩ (.slice va d.1.length vc)).setCell ⟨P, 1, none⟩ (.int .i64 d.2.1)).setCell ⟨P, 2, none⟩ (.int .i64 d.2.2.1)).setCell ⟨P, 3, none⟩ (.string ⟨d.2.2.2.toArray⟩)) L P va vc xs d := by
 have hU2 := hU.size
 have hb2 := hb.size
 have hg := (((grown_set w2 P 0 (.slice va d.1.length vc)).trans (grown_set _ P 1 (.int .i64 d.2.1))).trans (grown_set _ P 2 (.int .i64 d.2.2.1))).trans (grown_set _ P 3 (.string ⟨d.2.2.2.toArray⟩))
 have key : ∀ k, TkBlocks (.slice va d.1.length vc) xs k → U.heap.size ≤ k := fun k hk => by
  rcases hk with e | ⟨x, hx, e⟩
  ·
   exact (ho.row.lt k e).1
  ·
   exact ((ho.trees x hx).lt k e).1
 have hoff : ∀ v : Value, (∀ k, v.ownBlock = some k → U.heap.size ≤ k) → v.ownBlock = none ∨ v.ownBlock ≠ some P := fun v hv => by
  rcases hk : v.ownBlock with _ | k
  ·
   exact Or.inl rfl
  ·
   exact Or.inr (fun e => by injection e with e; have := hv k hk; omega)
 have hbX : Below X.heap.size X w2 := hU.trans (hb.mono hU2)
 refine ⟨⟨(((hz.s0 _).s1 _).s2 _).s3 _, (ho.kept hg (hoff _ (fun k hk => key k (Or.inl hk))) (fun x hx => hoff _ (fun k hk => key k (Or.inr ⟨x, hx, hk⟩)))).base (by omega), hx, ha, fun k hk e => by have := key k hk; omega, rfl, by omega, by have := hg.size; omega⟩, hbX.grown hg hbX.size (fun k e => by injection e with e; omega), fun k hk => by have := key k hk; omega, hXP⟩
/-- The box takes the answered desk. -/
theorem ol_put {X wx Y : World} {L P Q : Nat} {va : Option Addr} {vc : Nat} {xs : List TV} {d : Dk} {z0 z1 z2 z3 : Value} (h : Out18 X wx L P va vc xs d) (hz : B4 wx Q z0 z1 z2 z3) (hQX : Q < X.heap.size) (hQ : L ≤ Q) (hY : (((wx.setCell ⟨Q, 0, none⟩ (.slice va d.1.length vc)).setCell ⟨Q, 1, none⟩ (.int .i64 d.2.1)).setCell ⟨Q, 2, none⟩ (.int .i64 d.2.2.1)).setCell ⟨Q, 3, none⟩ (.string ⟨d.2.2.2.toArray⟩) = Y) :
 Dk18 Y L Q va vc d.1.length xs d.1 d.2.1 d.2.2.1 d.2.2.2 ∧ WroteR X Y (fun k => k = Q) := by
 have hg : wx.grownBy Y (some Q) := by rw [← hY]; exact (((grown_set wx Q 0 (.slice va d.1.length vc)).trans (grown_set _ Q 1 (.int .i64 d.2.1))).trans (grown_set _ Q 2 (.int .i64 d.2.2.1))).trans (grown_set _ Q 3 (.string ⟨d.2.2.2.toArray⟩))
 have hoff : ∀ v : Value, (∀ k, v.ownBlock = some k → X.heap.size ≤ k) → v.ownBlock = none ∨ v.ownBlock ≠ some Q := fun v hv => by
  rcases hk : v.ownBlock with _ | k
  ·
   exact Or.inl rfl
  ·
   exact Or.inr (fun e => by injection e with e; have := hv k hk; omega)
 refine ⟨⟨by rw [← hY]; exact (((hz.s0 _).s1 _).s2 _).s3 _, h.dk.own.kept hg (hoff _ (fun k hk => h.up k (Or.inl hk))) (fun x hx => hoff _ (fun k hk => h.up k (Or.inr ⟨x, hx, hk⟩))), h.dk.eq, h.dk.ap, fun k hk e => by have := h.up k hk; omega, rfl, hQ, Nat.le_trans h.dk.ls hg.size⟩, (WroteR.of_below h.bl).trans (WroteR.of_grown hg (fun k e => by injection e with e; exact e.symm))⟩
theorem Dk18.wroteQ {X Y : World} {L Q R : Nat} {va : Option Addr} {vc n : Nat} {xs : List TV} {ts : List Ta} {ep nw : Int} {jr : List UInt8} (h : Dk18 X L R va vc n xs ts ep nw jr) (hw : WroteR X Y (fun k => k = Q)) (hR : R ≠ Q) (hb : ∀ k, TkBlocks (.slice va n vc) xs k → k ≠ Q) : Dk18 Y L R va vc n xs ts ep nw jr :=
 ⟨h.b4.keep (hw.block R h.b4.lt hR), ⟨own_wroteR h.own.row hw (fun k hk => hb k (Or.inl hk)), fun x hx => own_wroteR (h.own.trees x hx) hw (fun k hk => hb k (Or.inr ⟨x, hx, hk⟩))⟩, h.eq, h.ap, h.ne, h.hn, h.q, Nat.le_trans h.ls hw.size⟩

set_option maxHeartbeats 16000000 in
set_option maxRecDepth 100000 in
theorem lawOneLease (w : World) (a : Option Addr) (len cap : Nat) (hcode : Code w w.heap.size a len) :
 Calls Try.prog 3 #[.slice a len cap] w fun e w' => e = .returned (.bool true) ∧ Below w.heap.size w w' := by
 by_cases hbig : 4096 < (len : Int)
 ·
  have hd : decide (4096 < (len : Int)) = true := decide_eq_true hbig
  go_enter Try.func3, Try.ntmps3
  go_wp2_with (go_at_call 4; refine (bigB _ _ _ _).mono ?_; rintro e w' ⟨rfl, rfl⟩)
  go_ret
  exact ⟨rfl, Below.refl _ _⟩
 have hd : decide (4096 < (len : Int)) = false := decide_eq_false hbig
 have hl : len ≤ 4096 := by omega
 have HPk : Hid (∀ (Z : World) (seed : Int), Below w.heap.size w Z → 0 ≤ seed → seed ≤ 100 → Calls Try.prog 9 #[.slice a len cap, .int .i64 seed, .int .i64 4] Z fun e w' => (∃ x : Int, e = .returned (.int .i64 x) ∧ 0 ≤ x ∧ x < 4) ∧ w' = Z) := fun Z seed hz h0 h1 => pickB Z w.heap.size a len cap seed 4 hl h0 h1 (by omega) (fun j hj => by
  obtain ⟨b, off, x, e1, e2, e3, e4⟩ := hcode j hj
  exact ⟨b, off, x, e1, e2, (World.cell?_of_block (a := ⟨b, off + j, none⟩) (hz.block b e2)).trans e3, e4⟩)
 obtain ⟨L, hL⟩ : ∃ L, w.heap.size = L := ⟨_, rfl⟩
 go_enter Try.func3, Try.ntmps3
 go_wp2_with fail
 refine (bigB _ _ _ _).mono ?_
 rintro e w1 ⟨rfl, hw1⟩
 obtain rfl := hw1.symm
 go_wp2_with fail
 refine (drawLent _ _ _ _ hl hcode).mono ?_
 rintro e w2 ⟨va, vc, xs, ts, ep, nw, jr, kk, rfl, ho2, hx2, hn9, hsh, hj6, hb2⟩
 obtain ⟨n, hn⟩ : ∃ n, ts.length = n := ⟨_, rfl⟩
 rw [hn] at ho2 hn9 ⊢
 have HSm := lentV_small (d := (ts, ep, nw, jr)) (worker := kk) hsh (by show ts.length ≤ 9; omega)
 have HFi : Hid (∀ k : Nat, (lentV (ts, ep, nw, jr) kk).2 = (k : Int) → (lentV (ts, ep, nw, jr) kk).1.2.2.1 ≤ 999950 → Lent18 (lentV (ts, ep, nw, jr) kk).1 k) := fun k h1 h2 => lent_first h1 h2
 have HIm : Hid (∀ Z, Below w2.heap.size w2 Z → _) := fun Z hz => implLent va n vc ts ep nw jr kk Z (tk_ok (ho2.below hz) hx2 hn).1 hsh (by omega) (by omega) (tk_ok (ho2.below hz) hx2 hn).2
 have HSp : Hid (∀ Z, Below w2.heap.size w2 Z → _) := fun Z hz => specLent va n vc ts ep nw jr kk Z (tk_ok (ho2.below hz) hx2 hn).1 hsh (by omega)
 have HB2 : Hid (Below w.heap.size w w2) := hb2
 generalize lentV (ts, ep, nw, jr) kk = R at HSm HFi HIm HSp
 obtain ⟨⟨rts, rep, rnw, rjr⟩, rk⟩ := R
 simp only at HSm HFi HIm HSp
 obtain ⟨rn, hrn⟩ : ∃ n, rts.length = n := ⟨_, rfl⟩
 have HRs : Hid (ShortTa rts ∧ rn ≤ 9 ∧ rts.length = rn) := ⟨HSm.1, by rw [← hrn]; exact HSm.2, hrn⟩
 unfold DkOut at HIm HSp
 simp only [hrn] at HIm HSp
 have hkk : (rk != rk) = false := by simp
 clear ho2 hx2 hn9 hsh hj6 hb2 hn HSm hcode hrn
 obtain ⟨P3, hP3⟩ : ∃ Q, w2.heap.size = Q := ⟨_, rfl⟩
 obtain ⟨Z3, hZ3⟩ : ∃ Z, w2.alloc (.cells #[.slice none 0 0, .int .i64 0, .int .i64 0, .string ⟨#[]⟩] 26) = Z := ⟨_, rfl⟩
 have bzZ3 := B4.new w2 (.slice none 0 0) (.int .i64 0) (.int .i64 0) (.string ⟨#[]⟩) 26
 have hbZ3 : Below w2.heap.size w2 Z3 := by rw [← hZ3]; exact (Below.refl _ _).alloc (Nat.le_refl _) _
 rw [hZ3] at bzZ3
 rw [hP3] at bzZ3 hbZ3
 have Z30 := bzZ3.c0
 have Z31 := bzZ3.c1
 have Z32 := bzZ3.c2
 have Z33 := bzZ3.c3
 have Z3f := bzZ3.fr
 have b4X3 := (((bzZ3.s0 (.slice va n vc)).s1 (.int .i64 ep)).s2 (.int .i64 nw)).s3 (.string ⟨jr.toArray⟩)
 have hbX3 : Below P3 w2 ((((Z3.setCell ⟨P3, 0, none⟩ (.slice va n vc)).setCell ⟨P3, 1, none⟩ (.int .i64 ep)).setCell ⟨P3, 2, none⟩ (.int .i64 nw)).setCell ⟨P3, 3, none⟩ (.string ⟨jr.toArray⟩)) := (((hbZ3.setCell (Nat.le_refl _) _).setCell (Nat.le_refl _) _).setCell (Nat.le_refl _) _).setCell (Nat.le_refl _) _
 obtain ⟨X3, hX3⟩ : ∃ W, (((Z3.setCell ⟨P3, 0, none⟩ (.slice va n vc)).setCell ⟨P3, 1, none⟩ (.int .i64 ep)).setCell ⟨P3, 2, none⟩ (.int .i64 nw)).setCell ⟨P3, 3, none⟩ (.string ⟨jr.toArray⟩) = W := ⟨_, rfl⟩
 rw [hX3] at b4X3 hbX3
 rw [← hP3] at hbX3
 clear bzZ3 hbZ3
 have HX3 : Hid (Below w2.heap.size w2 X3) := hbX3
 have HD3 : Hid (∀ Z, Below X3.heap.size X3 Z → B4 Z P3 (.slice va n vc) (.int .i64 ep) (.int .i64 nw) (.string ⟨jr.toArray⟩)) := fun Z hz => b4X3.below hz
 have d0 := b4X3.c0
 have d1 := b4X3.c1
 have d2 := b4X3.c2
 have d3 := b4X3.c3
 clear hbX3 b4X3
 go_wp2_with fail
 refine Calls.mono (HIm.out X3 HX3.out) ?_
 rintro e w4 ⟨_, rfl, xa, xc, xx, rfl, hx4, ho4, ha4, hb4⟩
 clear hP3 hZ3 hX3 Z30 Z31 Z32 Z33 Z3f
 obtain ⟨P5, hP5⟩ : ∃ Q, w4.heap.size = Q := ⟨_, rfl⟩
 obtain ⟨Z5, hZ5⟩ : ∃ Z, w4.alloc (.cells #[.slice none 0 0, .int .i64 0, .int .i64 0, .string ⟨#[]⟩] 26) = Z := ⟨_, rfl⟩
 have bzZ5 := B4.new w4 (.slice none 0 0) (.int .i64 0) (.int .i64 0) (.string ⟨#[]⟩) 26
 have hbZ5 : Below w4.heap.size w4 Z5 := by rw [← hZ5]; exact (Below.refl _ _).alloc (Nat.le_refl _) _
 rw [hZ5] at bzZ5
 rw [hP5] at bzZ5 hbZ5
 have Z50 := bzZ5.c0
 have Z51 := bzZ5.c1
 have Z52 := bzZ5.c2
 have Z53 := bzZ5.c3
 have Z5f := bzZ5.fr
 have b4X5 := (((bzZ5.s0 (.slice xa rn xc)).s1 (.int .i64 rep)).s2 (.int .i64 rnw)).s3 (.string ⟨rjr.toArray⟩)
 have hbX5 : Below P5 w4 ((((Z5.setCell ⟨P5, 0, none⟩ (.slice xa rn xc)).setCell ⟨P5, 1, none⟩ (.int .i64 rep)).setCell ⟨P5, 2, none⟩ (.int .i64 rnw)).setCell ⟨P5, 3, none⟩ (.string ⟨rjr.toArray⟩)) := (((hbZ5.setCell (Nat.le_refl _) _).setCell (Nat.le_refl _) _).setCell (Nat.le_refl _) _).setCell (Nat.le_refl _) _
 obtain ⟨X5, hX5⟩ : ∃ W, (((Z5.setCell ⟨P5, 0, none⟩ (.slice xa rn xc)).setCell ⟨P5, 1, none⟩ (.int .i64 rep)).setCell ⟨P5, 2, none⟩ (.int .i64 rnw)).setCell ⟨P5, 3, none⟩ (.string ⟨rjr.toArray⟩) = W := ⟨_, rfl⟩
 rw [hX5] at b4X5 hbX5
 rw [← hP5] at hbX5
 clear bzZ5 hbZ5
 have HX5 : Hid (Below X3.heap.size X3 X5) := hb4.trans (hbX5.mono hb4.size)
 have HQx : Hid (L ≤ P5 ∧ (∀ k, TkBlocks (.slice xa rn xc) xx k → X3.heap.size ≤ k ∧ k < P5)) := ⟨by have h1 := HB2.out.size; have h2 := HX3.out.size; have h3 := hb4.size; omega, fun k hk => by
  rcases hk with e | ⟨x, hx, e⟩
  ·
   have := ho4.row.lt k e; omega
  ·
   have := (ho4.trees x hx).lt k e; omega⟩
 have HDx : Hid (Dk18 X5 L P5 xa xc rn xx rts rep rnw rjr) := ⟨b4X5, (ho4.below hbX5).base (by have h1 := HB2.out.size; have h2 := HX3.out.size; omega), hx4, ha4, fun k hk e => by have := HQx.out.2 k hk; omega, HRs.out.2.2, HQx.out.1, by have h1 := HB2.out.size; have h2 := HX3.out.size; have h3 := HX5.out.size; omega⟩
 have bd := HD3.out X5 HX5.out
 clear d0 d1 d2 d3
 have d0 := bd.c0
 have d1 := bd.c1
 have d2 := bd.c2
 have d3 := bd.c3
 have HX25 : Hid (Below w2.heap.size w2 X5) := HX3.out.trans (HX5.out.mono HX3.out.size)
 clear bd hx4 ho4 ha4 hb4 hbX5 b4X5
 go_wp2_with fail
 refine Calls.mono (HSp.out X5 HX25.out) ?_
 rintro e w6 ⟨_, rfl, ua, uc, ux, rfl, hx6, ho6, _, hb6⟩
 clear hP5 hZ5 hX5 Z50 Z51 Z52 Z53 Z5f
 obtain ⟨P7, hP7⟩ : ∃ Q, w6.heap.size = Q := ⟨_, rfl⟩
 obtain ⟨Z7, hZ7⟩ : ∃ Z, w6.alloc (.cells #[.slice none 0 0, .int .i64 0, .int .i64 0, .string ⟨#[]⟩] 26) = Z := ⟨_, rfl⟩
 have bzZ7 := B4.new w6 (.slice none 0 0) (.int .i64 0) (.int .i64 0) (.string ⟨#[]⟩) 26
 have hbZ7 : Below w6.heap.size w6 Z7 := by rw [← hZ7]; exact (Below.refl _ _).alloc (Nat.le_refl _) _
 rw [hZ7] at bzZ7
 rw [hP7] at bzZ7 hbZ7
 have Z70 := bzZ7.c0
 have Z71 := bzZ7.c1
 have Z72 := bzZ7.c2
 have Z73 := bzZ7.c3
 have Z7f := bzZ7.fr
 have b4X7 := (((bzZ7.s0 (.slice ua rn uc)).s1 (.int .i64 rep)).s2 (.int .i64 rnw)).s3 (.string ⟨rjr.toArray⟩)
 have hbX7 : Below P7 w6 ((((Z7.setCell ⟨P7, 0, none⟩ (.slice ua rn uc)).setCell ⟨P7, 1, none⟩ (.int .i64 rep)).setCell ⟨P7, 2, none⟩ (.int .i64 rnw)).setCell ⟨P7, 3, none⟩ (.string ⟨rjr.toArray⟩)) := (((hbZ7.setCell (Nat.le_refl _) _).setCell (Nat.le_refl _) _).setCell (Nat.le_refl _) _).setCell (Nat.le_refl _) _
 obtain ⟨X7, hX7⟩ : ∃ W, (((Z7.setCell ⟨P7, 0, none⟩ (.slice ua rn uc)).setCell ⟨P7, 1, none⟩ (.int .i64 rep)).setCell ⟨P7, 2, none⟩ (.int .i64 rnw)).setCell ⟨P7, 3, none⟩ (.string ⟨rjr.toArray⟩) = W := ⟨_, rfl⟩
 rw [hX7] at b4X7 hbX7
 rw [← hP7] at hbX7
 clear bzZ7 hbZ7
 have hb57 : Below X5.heap.size X5 X7 := hb6.trans (hbX7.mono hb6.size)
 have HDx7 : Hid (Dk18 X7 L P5 xa xc rn xx rts rep rnw rjr) := HDx.out.below hb57
 have HB7 : Hid (Below w.heap.size w X7) := (HB2.out.trans (HX25.out.mono HB2.out.size)).trans (hb57.mono (Nat.le_trans HB2.out.size HX25.out.size))
 have HLk : Hid (_) := likeDeskC xa ua rn xc uc rts rep rnw rjr X7 (tk_ok HDx7.out.own HDx7.out.eq HDx7.out.hn).1.in (tk_ok (ho6.below hbX7) hx6 HRs.out.2.2).1.in (by have := HRs.out.2.1; omega) HRs.out.1
 have x0 := HDx7.out.b4.c0
 have x1 := HDx7.out.b4.c1
 have x2 := HDx7.out.b4.c2
 have x3 := HDx7.out.b4.c3
 have u0 := b4X7.c0
 have u1 := b4X7.c1
 have u2 := b4X7.c2
 have u3 := b4X7.c3
 clear hx6 ho6 hb6 hbX7 b4X7 hb57 HDx HX25 HX5 HX3 HIm HSp HD3 d0 d1 d2 d3
 go_wp2_with fail
 refine Calls.mono HLk.out ?_
 rintro e w8 ⟨rfl, hb8⟩
 clear hP7 hZ7 hX7 Z70 Z71 Z72 Z73 Z7f
 have HDx8 : Hid (Dk18 w8 L P5 xa xc rn xx rts rep rnw rjr) := HDx7.out.below hb8
 have HB8 : Hid (Below w.heap.size w w8) := HB7.out.trans (hb8.mono HB7.out.size)
 have HPX : Hid (P5 < w8.heap.size) := HDx8.out.b4.lt
 clear x0 x1 x2 x3 u0 u1 u2 u3 hb8 HDx7 HB7 HLk
 have x0 := HDx8.out.b4.c0
 have x1 := HDx8.out.b4.c1
 have x2 := HDx8.out.b4.c2
 have x3 := HDx8.out.b4.c3
 by_cases hk0 : rk < 0
 ·
  go_wp2
  go_ret
  exact ⟨rfl, HB8.out⟩
 by_cases hn95 : 999950 < rnw
 ·
  go_wp2
  go_ret
  exact ⟨rfl, HB8.out⟩
 obtain ⟨k, rfl⟩ : ∃ k : Nat, rk = (k : Int) := ⟨rk.toNat, by omega⟩
 have hF := HFi.out k rfl (by omega)
 obtain ⟨tk, htk⟩ : ∃ t, rts.getD k ta0 = t := ⟨_, rfl⟩
 have HTk : Hid (tk.2.2.1 = 1 ∧ rnw < tk.2.2.2.2.1) := by
  have h1 := hF.st
  have h2 := hF.un
  simp only at h1 h2
  rw [htk] at h1 h2
  exact (⟨h1, by omega⟩ : tk.2.2.1 = 1 ∧ rnw < tk.2.2.2.2.1)
 have HH0 : Hid (Held18 (rts, rep, rnw, rjr) k tk rnw) := ⟨hF.ok, hF.lt, htk, rfl⟩
 have HTw : Hid (_) := two_start hF (by show rnw ≤ 999950; omega)
 simp only at HTw
 clear hF HFi htk
 obtain ⟨P9, hP9⟩ : ∃ Q, w8.heap.size = Q := ⟨_, rfl⟩
 obtain ⟨Z9, hZ9⟩ : ∃ Z, w8.alloc (.cells #[.slice none 0 0, .int .i64 0, .int .i64 0, .string ⟨#[]⟩] 26) = Z := ⟨_, rfl⟩
 have bzZ9 := B4.new w8 (.slice none 0 0) (.int .i64 0) (.int .i64 0) (.string ⟨#[]⟩) 26
 have hbZ9 : Below w8.heap.size w8 Z9 := by rw [← hZ9]; exact (Below.refl _ _).alloc (Nat.le_refl _) _
 rw [hZ9] at bzZ9
 rw [hP9] at bzZ9 hbZ9
 have Z90 := bzZ9.c0
 have Z91 := bzZ9.c1
 have Z92 := bzZ9.c2
 have Z93 := bzZ9.c3
 have Z9f := bzZ9.fr
 have b4X9 := (((bzZ9.s0 (.slice xa rn xc)).s1 (.int .i64 rep)).s2 (.int .i64 rnw)).s3 (.string ⟨rjr.toArray⟩)
 have hbX9 : Below P9 w8 ((((Z9.setCell ⟨P9, 0, none⟩ (.slice xa rn xc)).setCell ⟨P9, 1, none⟩ (.int .i64 rep)).setCell ⟨P9, 2, none⟩ (.int .i64 rnw)).setCell ⟨P9, 3, none⟩ (.string ⟨rjr.toArray⟩)) := (((hbZ9.setCell (Nat.le_refl _) _).setCell (Nat.le_refl _) _).setCell (Nat.le_refl _) _).setCell (Nat.le_refl _) _
 obtain ⟨X9, hX9⟩ : ∃ W, (((Z9.setCell ⟨P9, 0, none⟩ (.slice xa rn xc)).setCell ⟨P9, 1, none⟩ (.int .i64 rep)).setCell ⟨P9, 2, none⟩ (.int .i64 rnw)).setCell ⟨P9, 3, none⟩ (.string ⟨rjr.toArray⟩) = W := ⟨_, rfl⟩
 rw [hX9] at b4X9 hbX9
 rw [← hP9] at hbX9
 clear bzZ9 hbZ9
 have HQy : Hid (w8.heap.size = P9 ∧ P5 < P9 ∧ L ≤ P9) := ⟨hP9, by have := HPX.out; omega, by have h1 := HQx.out.1; have := HPX.out; omega⟩
 have HDx9 : Hid (Dk18 X9 L P5 xa xc rn xx rts rep rnw rjr) := HDx8.out.below hbX9
 have HDy9 : Hid (Dk18 X9 L P9 xa xc rn xx rts rep rnw rjr) := ⟨b4X9, HDx9.out.own, HDx9.out.eq, HDx9.out.ap, fun k hk e => by have h1 := (HQx.out.2 k hk).2; have := HQy.out; omega, HDx9.out.hn, HQy.out.2.2, HDx9.out.ls⟩
 have HB9 : Hid (Below w.heap.size w X9) := HB8.out.trans (hbX9.mono HB8.out.size)
 have HS9 : Hid (P9 < X9.heap.size) := b4X9.lt
 have HXk : Hid (∀ Z, WroteR X9 Z (fun k => k = P9) → Dk18 Z L P5 xa xc rn xx rts rep rnw rjr ∧ Below w.heap.size w Z) := fun Z hz => ⟨HDx9.out.wroteQ hz (by have := HQy.out; omega) (fun k hk e => by have h1 := (HQx.out.2 k hk).2; have := HQy.out; omega), HB9.out.trans (hz.below HB9.out.size (fun k e => by have := HQy.out; omega))⟩
 have HW9 : Hid (WroteR X9 X9 (fun k => k = P9)) := WroteR.refl _ _
 have HYs : Hid (ShortTa rts ∧ rn ≤ 9) := ⟨HRs.out.1, HRs.out.2.1⟩
 clear hbX9 b4X9 HDx8 HB8 HDx9
 go_wp2
 clear hP9 hZ9 hX9 Z90 Z91 Z92 Z93 Z9f
 clear x0 x1 x2 x3
 go_loopw [10] (fun iv wr => ∃ (i : Nat) (ya : Option Addr) (yc yn : Nat) (yx : List TV) (yts : List Ta) (yep ynw : Int) (yjr : List UInt8), iv = .int .i64 (i : Int) ∧ i ≤ 8 ∧ Hid (Dk18 wr L P9 ya yc yn yx yts yep ynw yjr) ∧ Hid (Held18 (yts, yep, ynw, yjr) k tk rnw) ∧ Hid (WroteR X9 wr (fun k => k = P9))) (fun iv _ => 8 - (intOf iv).toNat)
 case atStart => exact ⟨0, xa, xc, rn, xx, rts, rep, rnw, rjr, rfl, by omega, HDy9, HH0, HW9⟩
 case round =>
  obtain ⟨i, ya, yc, yn, yx, yts, yep, ynw, yjr, rfl, hi, HDy, HH, HWr⟩ := hrel
  clear HDy9 HH0 HW9
  obtain ⟨X, hXw⟩ : ∃ X, X = wr := ⟨_, rfl⟩
  subst hXw
  by_cases hlt : (i : Int) < 8
  ·
   skip
   have HYd := HDy.out
   have hy8 := (deskB_iff.1 HH.out.ok).n
   have hyj := (deskB_iff.1 HH.out.ok).j
   simp only at hy8 hyj
   have HLG : Hid (∀ (wk : Int) (Z : World), Below X.heap.size X Z → Calls Try.prog 6 #[.agg #[.slice ya yn yc, .int .i64 yep, .int .i64 ynw, .string ⟨yjr.toArray⟩], .int .i64 wk] Z fun e w' => ∃ v, e = .returned (.tuple #[v, .int .i64 (lentV (yts, yep, ynw, yjr) wk).2]) ∧ DkOut Z w' v (lentV (yts, yep, ynw, yjr) wk).1) := fun wk Z hz => implLent ya yn yc yts yep ynw yjr wk Z (tk_ok (HYd.own.below hz) HYd.eq HYd.hn).1 (desk_short HH.out.ok) (by have := HYd.hn; omega) (by omega) (tk_ok (HYd.own.below hz) HYd.eq HYd.hn).2
   have HXB : Hid (Below w.heap.size w X) := (HXk.out X HWr.out).2
   have HLX : Hid (L ≤ X.heap.size) := HYd.ls
   obtain ⟨F, hF⟩ : ∃ F : Int → Dk × Int, (fun wk => lentV (yts, yep, ynw, yjr) wk) = F := ⟨_, rfl⟩
   have HF : Hid (∀ wk, lentV (yts, yep, ynw, yjr) wk = F wk) := fun wk => congrFun hF wk
   have HLF : Hid (∀ (wk : Int) (Z : World), Below X.heap.size X Z → Calls Try.prog 6 #[.agg #[.slice ya yn yc, .int .i64 yep, .int .i64 ynw, .string ⟨yjr.toArray⟩], .int .i64 wk] Z fun e w' => ∃ v, e = .returned (.tuple #[v, .int .i64 (F wk).2]) ∧ DkOut Z w' v (F wk).1) := fun wk Z hz => by rw [← HF.out wk]; exact HLG.out wk Z hz
   obtain ⟨P, hP⟩ : ∃ P, X.heap.size = P := ⟨_, rfl⟩
   have HXd : Hid (Below X.heap.size X X.drew) := ⟨rfl, rfl, rfl, Nat.le_refl _, fun _ _ => rfl⟩
   obtain ⟨X8, hX8⟩ : ∃ Z, X.alloc (.cells #[.slice none 0 0, .int .i64 0, .int .i64 0, .string ⟨#[]⟩] 26) = Z := ⟨_, rfl⟩
   have bz0 := B4.new X (.slice none 0 0) (.int .i64 0) (.int .i64 0) (.string ⟨#[]⟩) 26
   have hb8 : Below X.heap.size X X8 := by rw [← hX8]; exact (Below.refl _ _).alloc (Nat.le_refl _) _
   have hs8 : X8.heap.size = P + 1 := by rw [← hX8, ← hP]; simp
   rw [hX8, hP] at bz0
   have HZ8 : Hid (∀ Y, Below X8.heap.size X8 Y → B4 Y P (.slice none 0 0) (.int .i64 0) (.int .i64 0) (.string ⟨#[]⟩)) := fun Y hy => bz0.below hy
   have HB8d : Hid (Below X.heap.size X X8.drew) := hb8.trans (by exact ⟨rfl, rfl, rfl, Nat.le_refl _, fun _ _ => rfl⟩)
   have HP8 : Hid (X.heap.size = P ∧ X8.heap.size = P + 1) := ⟨hP, hs8⟩
   have y8 := HYd.b4.below hb8
   have d0 := HYd.b4.c0
   have d1 := HYd.b4.c1
   have d2 := HYd.b4.c2
   have d3 := HYd.b4.c3
   have x80 := y8.c0
   have x81 := y8.c1
   have x82 := y8.c2
   have x83 := y8.c3
   clear hF hy8 hyj HLG HYd bz0 hb8 y8 hs8
   go_wp2_with fail
   go_cut [11, 12] from 59 to 66 (fun zv jv wx => ∃ (wk : Int) (Pn : Nat) (na : Option Addr) (nc : Nat) (nx : List TV), zv = .pointer (some ⟨Pn, 0, none⟩) ∧ jv = .int .i64 (F wk).2 ∧ 0 ≤ wk ∧ wk < 4 ∧ Hid (Out18 X wx L Pn na nc nx (F wk).1))
   case first =>
    go_region_with (first
     | (go_at_call 9; refine Calls.mono (HPk.out _ _ (HXB.out.trans (Below.mono (by first | exact HXd.out | exact HB8d.out) HXB.out.size)) (by omega) (by omega)) ?_; rintro e wn ⟨⟨wk, rfl, hw0, hw1⟩, hwn⟩; obtain rfl := hwn.symm; clear hwn)
     | (go_at_call 6; refine Calls.mono (HLF.out _ _ (by first | exact HXd.out | exact HB8d.out)) ?_; rintro e wn ⟨_, rfl, na, nc, nx, rfl, hnx, hno, hna, hnb⟩; first | (have bq := HZ8.out wn (by exact ⟨hnb.os, hnb.tape, hnb.output, hnb.size, hnb.block⟩); have HA : Hid (_) := ol_set (L := L) HB8d.out hno hnx hna hnb HLX.out bq (by have h1 := HP8.out; show P < X8.heap.size; omega) (by have h1 := HP8.out; omega); have z0 := bq.c0; have z1 := bq.c1; have z2 := bq.c2; have z3 := bq.c3; have zf0 := bq.fr 0; have zf1 := bq.fr 1; have zf2 := bq.fr 2; have zf3 := bq.fr 3; clear bq hnx hno hna hnb) | (have HA : Hid (_) := ol_new (L := L) HXd.out hno hnx hna hnb HLX.out; clear hnx hno hna hnb)))
    all_goals
     go_wp2_with fail
     go_meet
     case rel => exact ⟨_, _, na, nc, nx, rfl, rfl, hw0, hw1, HA⟩
   case rest =>
    obtain ⟨wk, Pn, na, nc, nx, rfl, rfl, hw0, hw1, HA⟩ := hcut
    obtain ⟨V, hV⟩ : ∃ W, wc = W := ⟨_, rfl⟩
    rw [hV] at HA ⊢
    have HSt : Hid (_) := one_step (worker := wk) HH.out HTk.out.1 HTk.out.2
    rw [HF.out wk] at HSt
    generalize F wk = R2 at HSt HA
    obtain ⟨⟨zts, zep, znw, zjr⟩, zj⟩ := R2
    simp only at HSt HA
    obtain ⟨hjk, _⟩ := id HSt.out
    have hjb : (zj == (k : Int)) = false := beq_eq_false_iff_ne.2 hjk
    have HWV : Hid (WroteR X9 V (fun k => k = P9)) := HWr.out.trans (WroteR.of_below HA.out.bl)
    have HDV : Hid (Dk18 V L P9 ya yc yn yx yts yep ynw yjr) := HDy.out.below HA.out.bl
    have HQX : Hid (P9 < X.heap.size) := HDy.out.b4.lt
    clear HF HLF HXd HZ8 HB8d HP8 d0 d1 d2 d3 x80 x81 x82 x83 hX8 hP hjk HDy HH HXB HLX hw0 hw1 hV
    by_cases hj0 : zj < 0
    ·
     skip
     have HXv : Hid (Dk18 V L P5 xa xc rn xx rts rep rnw rjr ∧ Below w.heap.size w V) := HXk.out V HWV.out
     have HTi : Hid (_) := implTicked xa rn xc rts rep rnw rjr 10 V (tk_ok HXv.out.1.own HXv.out.1.eq HXv.out.1.hn).1 HYs.out.1 (by have := HYs.out.2; omega) (by have := (deskB_iff.1 HTw.out.2.ok).j; simp only at this; omega) (tk_ok HXv.out.1.own HXv.out.1.eq HXv.out.1.hn).2 (by omega) (by omega)
     rw [HTw.out.1] at HTi
     have HG0 : Hid (_) := HTw.out.2
     have HRn : Hid (rts.length = rn) := HXv.out.1.hn
     unfold DkOut at HTi
     simp only [HXv.out.1.hn] at HTi
     have x0 := HXv.out.1.b4.c0
     have x1 := HXv.out.1.b4.c1
     have x2 := HXv.out.1.b4.c2
     have x3 := HXv.out.1.b4.c3
     have hnow : rnw + 10 + 10 ≤ 1000000 := by omega
     generalize rnw + 10 = now at HTi HG0 hnow
     clear HYs HTw HXk HSt HA HWV HDV HQX HWr
     go_wp2_with fail
     refine Calls.mono HTi.out ?_
     rintro e w11 ⟨_, rfl, ga, gc, gx, rfl, hgx, hgo, hga, hgb⟩
     obtain ⟨P13, hP13⟩ : ∃ Q, w11.heap.size = Q := ⟨_, rfl⟩
     obtain ⟨Z13, hZ13⟩ : ∃ Z, w11.alloc (.cells #[.slice none 0 0, .int .i64 0, .int .i64 0, .string ⟨#[]⟩] 26) = Z := ⟨_, rfl⟩
     have bzZ13 := B4.new w11 (.slice none 0 0) (.int .i64 0) (.int .i64 0) (.string ⟨#[]⟩) 26
     have hbZ13 : Below w11.heap.size w11 Z13 := by rw [← hZ13]; exact (Below.refl _ _).alloc (Nat.le_refl _) _
     rw [hZ13] at bzZ13
     rw [hP13] at bzZ13 hbZ13
     have Z130 := bzZ13.c0
     have Z131 := bzZ13.c1
     have Z132 := bzZ13.c2
     have Z133 := bzZ13.c3
     have Z13f := bzZ13.fr
     have b4X13 := (((bzZ13.s0 (.slice ga rn gc)).s1 (.int .i64 rep)).s2 (.int .i64 now)).s3 (.string ⟨rjr.toArray⟩)
     have hbX13 : Below P13 w11 ((((Z13.setCell ⟨P13, 0, none⟩ (.slice ga rn gc)).setCell ⟨P13, 1, none⟩ (.int .i64 rep)).setCell ⟨P13, 2, none⟩ (.int .i64 now)).setCell ⟨P13, 3, none⟩ (.string ⟨rjr.toArray⟩)) := (((hbZ13.setCell (Nat.le_refl _) _).setCell (Nat.le_refl _) _).setCell (Nat.le_refl _) _).setCell (Nat.le_refl _) _
     obtain ⟨X13, hX13⟩ : ∃ W, (((Z13.setCell ⟨P13, 0, none⟩ (.slice ga rn gc)).setCell ⟨P13, 1, none⟩ (.int .i64 rep)).setCell ⟨P13, 2, none⟩ (.int .i64 now)).setCell ⟨P13, 3, none⟩ (.string ⟨rjr.toArray⟩) = W := ⟨_, rfl⟩
     rw [hX13] at b4X13 hbX13
     rw [← hP13] at hbX13
     clear bzZ13 hbZ13
     have HB11 : Hid (Below w.heap.size w X13) := (HXv.out.2.trans (hgb.mono HXv.out.2.size)).trans (hbX13.mono (Nat.le_trans HXv.out.2.size hgb.size))
     have HDg : Hid (Dk18 X13 L P13 ga gc rn gx rts rep now rjr) := ⟨b4X13, (hgo.below hbX13).base (by have := HXv.out.2.size; omega), hgx, hga, fun k hk e => by
      rcases hk with e2 | ⟨x, hx, e2⟩
      ·
       have := (hgo.row.lt k e2).2; omega
      ·
       have := ((hgo.trees x hx).lt k e2).2; omega, HRn.out, by have h1 := HXv.out.2.size; have h2 := hgb.size; omega, by have h1 := HXv.out.2.size; have h2 := hgb.size; have h3 := hbX13.size; omega⟩
     have HXk : Hid (∀ Z, WroteR X13 Z (fun k => k = P13) → True ∧ Below w.heap.size w Z) := fun Z hz => ⟨trivial, HB11.out.trans (hz.below HB11.out.size (fun k e => by have h1 := HXv.out.2.size; have h2 := hgb.size; omega))⟩
     have HW13 : Hid (WroteR X13 X13 (fun k => k = P13)) := WroteR.refl _ _
     have HLP : Hid (L ≤ P13) := HDg.out.q
     clear hgx hgo hga hgb hbX13 b4X13 HXv HTi x0 x1 x2 x3
     go_wp2
     clear hP13 hZ13 hX13 Z130 Z131 Z132 Z133 Z13f
     go_loopw [15] (fun iv wr => ∃ (i : Nat) (ya : Option Addr) (yc yn : Nat) (yx : List TV) (yts : List Ta) (yep ynw : Int) (yjr : List UInt8), iv = .int .i64 (i : Int) ∧ i ≤ 9 ∧ Hid (Dk18 wr L P13 ya yc yn yx yts yep ynw yjr) ∧ Hid (Free18 (yts, yep, ynw, yjr) k i now) ∧ Hid (WroteR X13 wr (fun k => k = P13))) (fun iv _ => 9 - (intOf iv).toNat)
     case atStart => exact ⟨0, ga, gc, rn, gx, rts, rep, now, rjr, rfl, by omega, HDg, HG0, HW13⟩
     case round =>
      obtain ⟨i, ya, yc, yn, yx, yts, yep, ynw, yjr, rfl, hi, HDy, HH, HWr⟩ := hrel
      clear HDg HG0 HW13
      obtain ⟨X, hXw⟩ : ∃ X, X = wr := ⟨_, rfl⟩
      subst hXw
      by_cases hlt : (i : Int) < 9
      rotate_left
      ·
       exfalso
       have := HH.out.left
       omega
      have hws : IntKind.i64.wrap (20 + (i : Int)) = 20 + (i : Int) := by rw [IntKind.wrap_i64]; omega
      have HYd := HDy.out
      have hy8 := (deskB_iff.1 HH.out.ok).n
      have hyj := (deskB_iff.1 HH.out.ok).j
      simp only at hy8 hyj
      have HLG : Hid (∀ (wk : Int) (Z : World), Below X.heap.size X Z → Calls Try.prog 6 #[.agg #[.slice ya yn yc, .int .i64 yep, .int .i64 ynw, .string ⟨yjr.toArray⟩], .int .i64 wk] Z fun e w' => ∃ v, e = .returned (.tuple #[v, .int .i64 (lentV (yts, yep, ynw, yjr) wk).2]) ∧ DkOut Z w' v (lentV (yts, yep, ynw, yjr) wk).1) := fun wk Z hz => implLent ya yn yc yts yep ynw yjr wk Z (tk_ok (HYd.own.below hz) HYd.eq HYd.hn).1 (desk_short HH.out.ok) (by have := HYd.hn; omega) (by omega) (tk_ok (HYd.own.below hz) HYd.eq HYd.hn).2
      have HXB : Hid (Below w.heap.size w X) := (HXk.out X HWr.out).2
      have HLX : Hid (L ≤ X.heap.size) := HYd.ls
      obtain ⟨F, hF⟩ : ∃ F : Int → Dk × Int, (fun wk => lentV (yts, yep, ynw, yjr) wk) = F := ⟨_, rfl⟩
      have HF : Hid (∀ wk, lentV (yts, yep, ynw, yjr) wk = F wk) := fun wk => congrFun hF wk
      have HLF : Hid (∀ (wk : Int) (Z : World), Below X.heap.size X Z → Calls Try.prog 6 #[.agg #[.slice ya yn yc, .int .i64 yep, .int .i64 ynw, .string ⟨yjr.toArray⟩], .int .i64 wk] Z fun e w' => ∃ v, e = .returned (.tuple #[v, .int .i64 (F wk).2]) ∧ DkOut Z w' v (F wk).1) := fun wk Z hz => by rw [← HF.out wk]; exact HLG.out wk Z hz
      obtain ⟨P, hP⟩ : ∃ P, X.heap.size = P := ⟨_, rfl⟩
      have HXd : Hid (Below X.heap.size X X.drew) := ⟨rfl, rfl, rfl, Nat.le_refl _, fun _ _ => rfl⟩
      obtain ⟨X8, hX8⟩ : ∃ Z, X.alloc (.cells #[.slice none 0 0, .int .i64 0, .int .i64 0, .string ⟨#[]⟩] 26) = Z := ⟨_, rfl⟩
      have bz0 := B4.new X (.slice none 0 0) (.int .i64 0) (.int .i64 0) (.string ⟨#[]⟩) 26
      have hb8 : Below X.heap.size X X8 := by rw [← hX8]; exact (Below.refl _ _).alloc (Nat.le_refl _) _
      have hs8 : X8.heap.size = P + 1 := by rw [← hX8, ← hP]; simp
      rw [hX8, hP] at bz0
      have HZ8 : Hid (∀ Y, Below X8.heap.size X8 Y → B4 Y P (.slice none 0 0) (.int .i64 0) (.int .i64 0) (.string ⟨#[]⟩)) := fun Y hy => bz0.below hy
      have HB8d : Hid (Below X.heap.size X X8.drew) := hb8.trans (by exact ⟨rfl, rfl, rfl, Nat.le_refl _, fun _ _ => rfl⟩)
      have HP8 : Hid (X.heap.size = P ∧ X8.heap.size = P + 1) := ⟨hP, hs8⟩
      have y8 := HYd.b4.below hb8
      have d0 := HYd.b4.c0
      have d1 := HYd.b4.c1
      have d2 := HYd.b4.c2
      have d3 := HYd.b4.c3
      have x80 := y8.c0
      have x81 := y8.c1
      have x82 := y8.c2
      have x83 := y8.c3
      clear hF hy8 hyj HLG HYd bz0 hb8 y8 hs8
      go_wp2_with fail
      go_cut [16, 17] from 82 to 90 (fun zv jv wx => ∃ (wk : Int) (Pn : Nat) (na : Option Addr) (nc : Nat) (nx : List TV), zv = .pointer (some ⟨Pn, 0, none⟩) ∧ jv = .int .i64 (F wk).2 ∧ 0 ≤ wk ∧ wk < 4 ∧ Hid (Out18 X wx L Pn na nc nx (F wk).1))
      case first =>
       go_region_with (first
        | (go_at_call 9; refine Calls.mono (HPk.out _ _ (HXB.out.trans (Below.mono (by first | exact HXd.out | exact HB8d.out) HXB.out.size)) (by omega) (by omega)) ?_; rintro e wn ⟨⟨wk, rfl, hw0, hw1⟩, hwn⟩; obtain rfl := hwn.symm; clear hwn)
        | (go_at_call 6; refine Calls.mono (HLF.out _ _ (by first | exact HXd.out | exact HB8d.out)) ?_; rintro e wn ⟨_, rfl, na, nc, nx, rfl, hnx, hno, hna, hnb⟩; first | (have bq := HZ8.out wn (by exact ⟨hnb.os, hnb.tape, hnb.output, hnb.size, hnb.block⟩); have HA : Hid (_) := ol_set (L := L) HB8d.out hno hnx hna hnb HLX.out bq (by have h1 := HP8.out; show P < X8.heap.size; omega) (by have h1 := HP8.out; omega); have z0 := bq.c0; have z1 := bq.c1; have z2 := bq.c2; have z3 := bq.c3; have zf0 := bq.fr 0; have zf1 := bq.fr 1; have zf2 := bq.fr 2; have zf3 := bq.fr 3; clear bq hnx hno hna hnb) | (have HA : Hid (_) := ol_new (L := L) HXd.out hno hnx hna hnb HLX.out; clear hnx hno hna hnb)))
       all_goals
        go_wp2_with fail
        go_meet
        case rel => exact ⟨_, _, na, nc, nx, rfl, rfl, hw0, hw1, HA⟩
      case rest =>
       obtain ⟨wk, Pn, na, nc, nx, rfl, rfl, hw0, hw1, HA⟩ := hcut
       obtain ⟨V, hV⟩ : ∃ W, wc = W := ⟨_, rfl⟩
       rw [hV] at HA ⊢
       have HSt : Hid (_) := two_step (worker := wk) HH.out hnow hw0 hw1
       rw [HF.out wk] at HSt
       generalize F wk = R2 at HSt HA
       obtain ⟨⟨zts, zep, znw, zjr⟩, zj⟩ := R2
       simp only at HSt HA
       obtain ⟨hj0, _⟩ := id HSt.out
       have HWV : Hid (WroteR X13 V (fun k => k = P13)) := HWr.out.trans (WroteR.of_below HA.out.bl)
       have HDV : Hid (Dk18 V L P13 ya yc yn yx yts yep ynw yjr) := HDy.out.below HA.out.bl
       have HQX : Hid (P13 < X.heap.size) := HDy.out.b4.lt
       clear HF HLF HXd HZ8 HB8d HP8 d0 d1 d2 d3 x80 x81 x82 x83 hX8 hP HDy HH HXB HLX hw0 hw1 hV
       by_cases hjk : zj = (k : Int)
       ·
        subst hjk
        go_wp2
        go_ret
        exact ⟨rfl, (HXk.out V HWV.out).2⟩
       ·
        have hjb : (zj == (k : Int)) = false := beq_eq_false_iff_ne.2 hjk
        have HHz : Hid (_) := HSt.out.2 hjk
        have z0 := HA.out.dk.b4.c0
        have z1 := HA.out.dk.b4.c1
        have z2 := HA.out.dk.b4.c2
        have z3 := HA.out.dk.b4.c3
        have r0 := HDV.out.b4.c0
        have r1 := HDV.out.b4.c1
        have r2 := HDV.out.b4.c2
        have r3 := HDV.out.b4.c3
        have f0 := HDV.out.b4.fr 0
        have f1 := HDV.out.b4.fr 1
        have f2 := HDV.out.b4.fr 2
        have f3 := HDV.out.b4.fr 3
        obtain ⟨Y, hY, y0, y1, y2, y3, hgY⟩ := set4 (.slice na zts.length nc) (.int .i64 zep) (.int .i64 znw) (.string ⟨zjr.toArray⟩) r0 r1 r2 r3
        obtain ⟨hdY, hwY⟩ := ol_put HA.out HDV.out.b4 HQX.out HLP.out hY
        have HDY : Hid (Dk18 Y L P13 na nc zts.length nx zts zep znw zjr) := hdY
        have HWY : Hid (WroteR X13 Y (fun k => k = P13)) := HWr.out.trans hwY
        clear hdY hwY y0 y1 y2 y3 hgY HSt HA HWV HDV HQX HWr hjk
        go_wp2
        (try rw [hY])
        go_roundw
        case rel => exact ⟨i + 1, na, nc, zts.length, nx, zts, zep, znw, zjr, by go_num, by omega, HDY, HHz, HWY⟩
        case measure => simp [intOf]; omega
    ·
     have HHz : Hid (_) := HSt.out.2 (by omega)
     have z0 := HA.out.dk.b4.c0
     have z1 := HA.out.dk.b4.c1
     have z2 := HA.out.dk.b4.c2
     have z3 := HA.out.dk.b4.c3
     have r0 := HDV.out.b4.c0
     have r1 := HDV.out.b4.c1
     have r2 := HDV.out.b4.c2
     have r3 := HDV.out.b4.c3
     have f0 := HDV.out.b4.fr 0
     have f1 := HDV.out.b4.fr 1
     have f2 := HDV.out.b4.fr 2
     have f3 := HDV.out.b4.fr 3
     obtain ⟨Y, hY, y0, y1, y2, y3, hgY⟩ := set4 (.slice na zts.length nc) (.int .i64 zep) (.int .i64 znw) (.string ⟨zjr.toArray⟩) r0 r1 r2 r3
     obtain ⟨hdY, hwY⟩ := ol_put HA.out HDV.out.b4 HQX.out HQy.out.2.2 hY
     have HDY : Hid (Dk18 Y L P9 na nc zts.length nx zts zep znw zjr) := hdY
     have HWY : Hid (WroteR X9 Y (fun k => k = P9)) := HWr.out.trans hwY
     clear hdY hwY y0 y1 y2 y3 hgY HSt HA HWV HDV HQX HWr
     go_wp2
     (try rw [hY])
     go_roundw
     case rel => exact ⟨i + 1, na, nc, zts.length, nx, zts, zep, znw, zjr, by go_num, by omega, HDY, HHz, HWY⟩
     case measure => simp [intOf]; omega
  ·
   skip
   have HXv : Hid (Dk18 X L P5 xa xc rn xx rts rep rnw rjr ∧ Below w.heap.size w X) := HXk.out X HWr.out
   have HTi : Hid (_) := implTicked xa rn xc rts rep rnw rjr 10 X (tk_ok HXv.out.1.own HXv.out.1.eq HXv.out.1.hn).1 HYs.out.1 (by have := HYs.out.2; omega) (by have := (deskB_iff.1 HTw.out.2.ok).j; simp only at this; omega) (tk_ok HXv.out.1.own HXv.out.1.eq HXv.out.1.hn).2 (by omega) (by omega)
   rw [HTw.out.1] at HTi
   have HG0 : Hid (_) := HTw.out.2
   have HRn : Hid (rts.length = rn) := HXv.out.1.hn
   unfold DkOut at HTi
   simp only [HXv.out.1.hn] at HTi
   have x0 := HXv.out.1.b4.c0
   have x1 := HXv.out.1.b4.c1
   have x2 := HXv.out.1.b4.c2
   have x3 := HXv.out.1.b4.c3
   have hnow : rnw + 10 + 10 ≤ 1000000 := by omega
   generalize rnw + 10 = now at HTi HG0 hnow
   clear HYs HTw HXk HDy HH HWr
   go_wp2_with fail
   refine Calls.mono HTi.out ?_
   rintro e w11 ⟨_, rfl, ga, gc, gx, rfl, hgx, hgo, hga, hgb⟩
   obtain ⟨P13, hP13⟩ : ∃ Q, w11.heap.size = Q := ⟨_, rfl⟩
   obtain ⟨Z13, hZ13⟩ : ∃ Z, w11.alloc (.cells #[.slice none 0 0, .int .i64 0, .int .i64 0, .string ⟨#[]⟩] 26) = Z := ⟨_, rfl⟩
   have bzZ13 := B4.new w11 (.slice none 0 0) (.int .i64 0) (.int .i64 0) (.string ⟨#[]⟩) 26
   have hbZ13 : Below w11.heap.size w11 Z13 := by rw [← hZ13]; exact (Below.refl _ _).alloc (Nat.le_refl _) _
   rw [hZ13] at bzZ13
   rw [hP13] at bzZ13 hbZ13
   have Z130 := bzZ13.c0
   have Z131 := bzZ13.c1
   have Z132 := bzZ13.c2
   have Z133 := bzZ13.c3
   have Z13f := bzZ13.fr
   have b4X13 := (((bzZ13.s0 (.slice ga rn gc)).s1 (.int .i64 rep)).s2 (.int .i64 now)).s3 (.string ⟨rjr.toArray⟩)
   have hbX13 : Below P13 w11 ((((Z13.setCell ⟨P13, 0, none⟩ (.slice ga rn gc)).setCell ⟨P13, 1, none⟩ (.int .i64 rep)).setCell ⟨P13, 2, none⟩ (.int .i64 now)).setCell ⟨P13, 3, none⟩ (.string ⟨rjr.toArray⟩)) := (((hbZ13.setCell (Nat.le_refl _) _).setCell (Nat.le_refl _) _).setCell (Nat.le_refl _) _).setCell (Nat.le_refl _) _
   obtain ⟨X13, hX13⟩ : ∃ W, (((Z13.setCell ⟨P13, 0, none⟩ (.slice ga rn gc)).setCell ⟨P13, 1, none⟩ (.int .i64 rep)).setCell ⟨P13, 2, none⟩ (.int .i64 now)).setCell ⟨P13, 3, none⟩ (.string ⟨rjr.toArray⟩) = W := ⟨_, rfl⟩
   rw [hX13] at b4X13 hbX13
   rw [← hP13] at hbX13
   clear bzZ13 hbZ13
   have HB11 : Hid (Below w.heap.size w X13) := (HXv.out.2.trans (hgb.mono HXv.out.2.size)).trans (hbX13.mono (Nat.le_trans HXv.out.2.size hgb.size))
   have HDg : Hid (Dk18 X13 L P13 ga gc rn gx rts rep now rjr) := ⟨b4X13, (hgo.below hbX13).base (by have := HXv.out.2.size; omega), hgx, hga, fun k hk e => by
    rcases hk with e2 | ⟨x, hx, e2⟩
    ·
     have := (hgo.row.lt k e2).2; omega
    ·
     have := ((hgo.trees x hx).lt k e2).2; omega, HRn.out, by have h1 := HXv.out.2.size; have h2 := hgb.size; omega, by have h1 := HXv.out.2.size; have h2 := hgb.size; have h3 := hbX13.size; omega⟩
   have HXk : Hid (∀ Z, WroteR X13 Z (fun k => k = P13) → True ∧ Below w.heap.size w Z) := fun Z hz => ⟨trivial, HB11.out.trans (hz.below HB11.out.size (fun k e => by have h1 := HXv.out.2.size; have h2 := hgb.size; omega))⟩
   have HW13 : Hid (WroteR X13 X13 (fun k => k = P13)) := WroteR.refl _ _
   have HLP : Hid (L ≤ P13) := HDg.out.q
   clear hgx hgo hga hgb hbX13 b4X13 HXv HTi x0 x1 x2 x3
   go_wp2
   clear hP13 hZ13 hX13 Z130 Z131 Z132 Z133 Z13f
   go_loopw [15] (fun iv wr => ∃ (i : Nat) (ya : Option Addr) (yc yn : Nat) (yx : List TV) (yts : List Ta) (yep ynw : Int) (yjr : List UInt8), iv = .int .i64 (i : Int) ∧ i ≤ 9 ∧ Hid (Dk18 wr L P13 ya yc yn yx yts yep ynw yjr) ∧ Hid (Free18 (yts, yep, ynw, yjr) k i now) ∧ Hid (WroteR X13 wr (fun k => k = P13))) (fun iv _ => 9 - (intOf iv).toNat)
   case atStart => exact ⟨0, ga, gc, rn, gx, rts, rep, now, rjr, rfl, by omega, HDg, HG0, HW13⟩
   case round =>
    obtain ⟨i, ya, yc, yn, yx, yts, yep, ynw, yjr, rfl, hi, HDy, HH, HWr⟩ := hrel
    clear HDg HG0 HW13
    obtain ⟨X, hXw⟩ : ∃ X, X = wr := ⟨_, rfl⟩
    subst hXw
    by_cases hlt : (i : Int) < 9
    rotate_left
    ·
     exfalso
     have := HH.out.left
     omega
    have hws : IntKind.i64.wrap (20 + (i : Int)) = 20 + (i : Int) := by rw [IntKind.wrap_i64]; omega
    have HYd := HDy.out
    have hy8 := (deskB_iff.1 HH.out.ok).n
    have hyj := (deskB_iff.1 HH.out.ok).j
    simp only at hy8 hyj
    have HLG : Hid (∀ (wk : Int) (Z : World), Below X.heap.size X Z → Calls Try.prog 6 #[.agg #[.slice ya yn yc, .int .i64 yep, .int .i64 ynw, .string ⟨yjr.toArray⟩], .int .i64 wk] Z fun e w' => ∃ v, e = .returned (.tuple #[v, .int .i64 (lentV (yts, yep, ynw, yjr) wk).2]) ∧ DkOut Z w' v (lentV (yts, yep, ynw, yjr) wk).1) := fun wk Z hz => implLent ya yn yc yts yep ynw yjr wk Z (tk_ok (HYd.own.below hz) HYd.eq HYd.hn).1 (desk_short HH.out.ok) (by have := HYd.hn; omega) (by omega) (tk_ok (HYd.own.below hz) HYd.eq HYd.hn).2
    have HXB : Hid (Below w.heap.size w X) := (HXk.out X HWr.out).2
    have HLX : Hid (L ≤ X.heap.size) := HYd.ls
    obtain ⟨F, hF⟩ : ∃ F : Int → Dk × Int, (fun wk => lentV (yts, yep, ynw, yjr) wk) = F := ⟨_, rfl⟩
    have HF : Hid (∀ wk, lentV (yts, yep, ynw, yjr) wk = F wk) := fun wk => congrFun hF wk
    have HLF : Hid (∀ (wk : Int) (Z : World), Below X.heap.size X Z → Calls Try.prog 6 #[.agg #[.slice ya yn yc, .int .i64 yep, .int .i64 ynw, .string ⟨yjr.toArray⟩], .int .i64 wk] Z fun e w' => ∃ v, e = .returned (.tuple #[v, .int .i64 (F wk).2]) ∧ DkOut Z w' v (F wk).1) := fun wk Z hz => by rw [← HF.out wk]; exact HLG.out wk Z hz
    obtain ⟨P, hP⟩ : ∃ P, X.heap.size = P := ⟨_, rfl⟩
    have HXd : Hid (Below X.heap.size X X.drew) := ⟨rfl, rfl, rfl, Nat.le_refl _, fun _ _ => rfl⟩
    obtain ⟨X8, hX8⟩ : ∃ Z, X.alloc (.cells #[.slice none 0 0, .int .i64 0, .int .i64 0, .string ⟨#[]⟩] 26) = Z := ⟨_, rfl⟩
    have bz0 := B4.new X (.slice none 0 0) (.int .i64 0) (.int .i64 0) (.string ⟨#[]⟩) 26
    have hb8 : Below X.heap.size X X8 := by rw [← hX8]; exact (Below.refl _ _).alloc (Nat.le_refl _) _
    have hs8 : X8.heap.size = P + 1 := by rw [← hX8, ← hP]; simp
    rw [hX8, hP] at bz0
    have HZ8 : Hid (∀ Y, Below X8.heap.size X8 Y → B4 Y P (.slice none 0 0) (.int .i64 0) (.int .i64 0) (.string ⟨#[]⟩)) := fun Y hy => bz0.below hy
    have HB8d : Hid (Below X.heap.size X X8.drew) := hb8.trans (by exact ⟨rfl, rfl, rfl, Nat.le_refl _, fun _ _ => rfl⟩)
    have HP8 : Hid (X.heap.size = P ∧ X8.heap.size = P + 1) := ⟨hP, hs8⟩
    have y8 := HYd.b4.below hb8
    have d0 := HYd.b4.c0
    have d1 := HYd.b4.c1
    have d2 := HYd.b4.c2
    have d3 := HYd.b4.c3
    have x80 := y8.c0
    have x81 := y8.c1
    have x82 := y8.c2
    have x83 := y8.c3
    clear hF hy8 hyj HLG HYd bz0 hb8 y8 hs8
    go_wp2_with fail
    go_cut [16, 17] from 82 to 90 (fun zv jv wx => ∃ (wk : Int) (Pn : Nat) (na : Option Addr) (nc : Nat) (nx : List TV), zv = .pointer (some ⟨Pn, 0, none⟩) ∧ jv = .int .i64 (F wk).2 ∧ 0 ≤ wk ∧ wk < 4 ∧ Hid (Out18 X wx L Pn na nc nx (F wk).1))
    case first =>
     go_region_with (first
      | (go_at_call 9; refine Calls.mono (HPk.out _ _ (HXB.out.trans (Below.mono (by first | exact HXd.out | exact HB8d.out) HXB.out.size)) (by omega) (by omega)) ?_; rintro e wn ⟨⟨wk, rfl, hw0, hw1⟩, hwn⟩; obtain rfl := hwn.symm; clear hwn)
      | (go_at_call 6; refine Calls.mono (HLF.out _ _ (by first | exact HXd.out | exact HB8d.out)) ?_; rintro e wn ⟨_, rfl, na, nc, nx, rfl, hnx, hno, hna, hnb⟩; first | (have bq := HZ8.out wn (by exact ⟨hnb.os, hnb.tape, hnb.output, hnb.size, hnb.block⟩); have HA : Hid (_) := ol_set (L := L) HB8d.out hno hnx hna hnb HLX.out bq (by have h1 := HP8.out; show P < X8.heap.size; omega) (by have h1 := HP8.out; omega); have z0 := bq.c0; have z1 := bq.c1; have z2 := bq.c2; have z3 := bq.c3; have zf0 := bq.fr 0; have zf1 := bq.fr 1; have zf2 := bq.fr 2; have zf3 := bq.fr 3; clear bq hnx hno hna hnb) | (have HA : Hid (_) := ol_new (L := L) HXd.out hno hnx hna hnb HLX.out; clear hnx hno hna hnb)))
     all_goals
      go_wp2_with fail
      go_meet
      case rel => exact ⟨_, _, na, nc, nx, rfl, rfl, hw0, hw1, HA⟩
    case rest =>
     obtain ⟨wk, Pn, na, nc, nx, rfl, rfl, hw0, hw1, HA⟩ := hcut
     obtain ⟨V, hV⟩ : ∃ W, wc = W := ⟨_, rfl⟩
     rw [hV] at HA ⊢
     have HSt : Hid (_) := two_step (worker := wk) HH.out hnow hw0 hw1
     rw [HF.out wk] at HSt
     generalize F wk = R2 at HSt HA
     obtain ⟨⟨zts, zep, znw, zjr⟩, zj⟩ := R2
     simp only at HSt HA
     obtain ⟨hj0, _⟩ := id HSt.out
     have HWV : Hid (WroteR X13 V (fun k => k = P13)) := HWr.out.trans (WroteR.of_below HA.out.bl)
     have HDV : Hid (Dk18 V L P13 ya yc yn yx yts yep ynw yjr) := HDy.out.below HA.out.bl
     have HQX : Hid (P13 < X.heap.size) := HDy.out.b4.lt
     clear HF HLF HXd HZ8 HB8d HP8 d0 d1 d2 d3 x80 x81 x82 x83 hX8 hP HDy HH HXB HLX hw0 hw1 hV
     by_cases hjk : zj = (k : Int)
     ·
      subst hjk
      go_wp2
      go_ret
      exact ⟨rfl, (HXk.out V HWV.out).2⟩
     ·
      have hjb : (zj == (k : Int)) = false := beq_eq_false_iff_ne.2 hjk
      have HHz : Hid (_) := HSt.out.2 hjk
      have z0 := HA.out.dk.b4.c0
      have z1 := HA.out.dk.b4.c1
      have z2 := HA.out.dk.b4.c2
      have z3 := HA.out.dk.b4.c3
      have r0 := HDV.out.b4.c0
      have r1 := HDV.out.b4.c1
      have r2 := HDV.out.b4.c2
      have r3 := HDV.out.b4.c3
      have f0 := HDV.out.b4.fr 0
      have f1 := HDV.out.b4.fr 1
      have f2 := HDV.out.b4.fr 2
      have f3 := HDV.out.b4.fr 3
      obtain ⟨Y, hY, y0, y1, y2, y3, hgY⟩ := set4 (.slice na zts.length nc) (.int .i64 zep) (.int .i64 znw) (.string ⟨zjr.toArray⟩) r0 r1 r2 r3
      obtain ⟨hdY, hwY⟩ := ol_put HA.out HDV.out.b4 HQX.out HLP.out hY
      have HDY : Hid (Dk18 Y L P13 na nc zts.length nx zts zep znw zjr) := hdY
      have HWY : Hid (WroteR X13 Y (fun k => k = P13)) := HWr.out.trans hwY
      clear hdY hwY y0 y1 y2 y3 hgY HSt HA HWV HDV HQX HWr hjk
      go_wp2
      (try rw [hY])
      go_roundw
      case rel => exact ⟨i + 1, na, nc, zts.length, nx, zts, zep, znw, zjr, by go_num, by omega, HDY, HHz, HWY⟩
      case measure => simp [intOf]; omega

end Go.Proofs.Ytaioedcaopbgkaa
