/-
  Parts of one proof, one behind the other: LawF12.
-/
import Derived.Test.YtdjglpcllcjcfaaGreatDoorP34
import Derived.Test.YtdjglpcllcjcfaaGreatDoorP30
import Derived.Test.YtdjglpcllcjcfaaGreatDoorP18
import Derived.Deep.RegionHeld3

/-! FnFaults' region of one great test, where there is a fault: its three ways. -/
namespace Go.Proofs.YtdjglpcllcjcfaaGreatDoor
open Go.RowKit

/-- A region of a body, by its number. -/
def regionOf (n : Nat) : Go.Code → Option Go.Code
  | .region k o d => if k = n then some (.region k o d) else none
  | .seq a b => match regionOf n a with
    | some c => some c
    | none => regionOf n b
  | .block _ c => regionOf n c
  | .scope c => regionOf n c
  | .loop c => regionOf n c
  | .cond _ a b => match regionOf n a with
    | some c => some c
    | none => regionOf n b
  | _ => none
noncomputable def faults12 : Go.Code := ((Tryz.f3.body.bind (regionOf 12)).getD .skip)
set_option maxHeartbeats 16000000 in
set_option maxRecDepth 1000000 in
theorem faults12A (c0 c1 c2 c5 c6 c7 c8 c9 c10 c11 c12 c13 c14 c15 c16 c17 c18 c19 c20 c21 c22 c23 c24 c25 c26 c27 c28 c29 c30 c31 c32 c33 c34 c35 c36 c37 c38 c39 c40 c41 c42 c43 c44 c45 c46 c47 c48 c49 c50 c51 c52 c53 c54 c55 c56 c57 c58 c59 c60 c61 c62 c63 c64 c65 c66 c67 c68 c69 c70 c71 c72 c73 c74 c75 c76 c77 c78 c79 c80 c81 c82 c83 c84 c85 c86 c87 c88 c89 c90 c91 c92 c93 c94 c95 c96 c97 c98 c99 c100 c101 c102 c103 c104 c105 c106 c107 c108 c109 c110 c111 c112 c113 c114 c115 c116 c117 c118 c119 c120 c121 c122 c123 c124 c125 c126 c127 c128 c129 c130 c131 c132 c133 c134 c135 c136 c137 c138 c139 c140 c141 c142 c143 c144 c145 c146 c147 c148 c149 c150 c151 c152 c153 c154 c155 c156 c157 c158 c159 c160 c161 c162 c163 c164 c165 c166 c167 c168 c169 c170 c171 c172 c173 c174 c175 c176 c177 c178 c179 c180 c181 c182 c183 c184 c185 c186 c187 c188 c189 c190 c191 c192 c193 c194 c195 c196 c197 c198 c199 c200 c201 c202 c203 c204 : Value) (la : Option Addr) (lc D : Nat) (ps : List Pk) (cF : Int) (pF : List UInt8) (hlo : 1 ≤ cF) (hhi : cF ≤ 2) (V wy : World)
    (HPj : Hid (∀ Z, PkgsOk Z la ps.length lc ps → Calls Tryz.prog 14 #[.slice la ps.length lc] Z fun e w' => e = .returned (.bool true) ∧ Below Z.heap.size Z w'))
    (HZ : Hid (∀ Z, Below V.heap.size V Z → (Z.cell? ⟨D, 0, none⟩ = some (.int .i64 cF) ∧ Z.cell? ⟨D, 1, none⟩ = some (.string ⟨pF.toArray⟩) ∧ Z.cell? ⟨D, 2, none⟩ = some (.string ⟨[].toArray⟩)) ∧ PkgsOk Z la ps.length lc ps)) (HB : Hid (Below V.heap.size V wy))
    (Q : Exit → Act → World → Prop) (HQp : Hid (∀ (x : _) (a : Act) (d : Tmp) (v : Value) (w : World), Q (.panic x) (a.put (some d) v) w → Q (.panic x) a w)) (hQ : ∀ (u47 u48 u49 u50 u51 u52 u53 u54 u55 u56 u57 u58 u59 u60 u61 u62 u63 u64 u65 u66 u67 u68 u69 u70 u71 u72 u73 u74 u75 u76 u77 : Value) (w' : World), Below V.heap.size V w' → Q .normal ⟨#[c0, c1, .bool true, .slice la ps.length lc, .pointer (some ⟨D, 0, none⟩), c5, c6, c7, c8, c9, c10, c11, c12, c13, c14, c15, c16, c17, c18, c19, c20, c21, c22, c23, c24, c25, c26, c27, c28, c29, c30, c31, c32, c33, c34, c35, c36, c37, c38, c39, c40, c41, c42, c43, c44, c45, c46, u47, u48, u49, u50, u51, u52, u53, u54, u55, u56, u57, u58, u59, u60, u61, u62, u63, u64, u65, u66, u67, u68, u69, u70, u71, u72, u73, u74, u75, u76, u77, c78, c79, c80, c81, c82, c83, c84, c85, c86, c87, c88, c89, c90, c91, c92, c93, c94, c95, c96, c97, c98, c99, c100, c101, c102, c103, c104, c105, c106, c107, c108, c109, c110, c111, c112, c113, c114, c115, c116, c117, c118, c119, c120, c121, c122, c123, c124, c125, c126, c127, c128, c129, c130, c131, c132, c133, c134, c135, c136, c137, c138, c139, c140, c141, c142, c143, c144, c145, c146, c147, c148, c149, c150, c151, c152, c153, c154, c155, c156, c157, c158, c159, c160, c161, c162, c163, c164, c165, c166, c167, c168, c169, c170, c171, c172, c173, c174, c175, c176, c177, c178, c179, c180, c181, c182, c183, c184, c185, c186, c187, c188, c189, c190, c191, c192, c193, c194, c195, c196, c197, c198, c199, c200, c201, c202, c203, c204], []⟩ w') :
    Code.wp Tryz.prog faults12 Q ⟨#[c0, c1, c2, .slice la ps.length lc, .pointer (some ⟨D, 0, none⟩), c5, c6, c7, c8, c9, c10, c11, c12, c13, c14, c15, c16, c17, c18, c19, c20, c21, c22, c23, c24, c25, c26, c27, c28, c29, c30, c31, c32, c33, c34, c35, c36, c37, c38, c39, c40, c41, c42, c43, c44, c45, c46, c47, c48, c49, c50, c51, c52, c53, c54, c55, c56, c57, c58, c59, c60, c61, c62, c63, c64, c65, c66, c67, c68, c69, c70, c71, c72, c73, c74, c75, c76, c77, c78, c79, c80, c81, c82, c83, c84, c85, c86, c87, c88, c89, c90, c91, c92, c93, c94, c95, c96, c97, c98, c99, c100, c101, c102, c103, c104, c105, c106, c107, c108, c109, c110, c111, c112, c113, c114, c115, c116, c117, c118, c119, c120, c121, c122, c123, c124, c125, c126, c127, c128, c129, c130, c131, c132, c133, c134, c135, c136, c137, c138, c139, c140, c141, c142, c143, c144, c145, c146, c147, c148, c149, c150, c151, c152, c153, c154, c155, c156, c157, c158, c159, c160, c161, c162, c163, c164, c165, c166, c167, c168, c169, c170, c171, c172, c173, c174, c175, c176, c177, c178, c179, c180, c181, c182, c183, c184, c185, c186, c187, c188, c189, c190, c191, c192, c193, c194, c195, c196, c197, c198, c199, c200, c201, c202, c203, c204], []⟩ wy := by
  have HQ : Hid (_) := hQ
  clear hQ
  have hn6 : ¬ cF = 6 := by omega
  have hz0 : (cF != 0) = true := by rw [bne_iff_ne]; omega
  obtain ⟨⟨d0, d1, d2⟩, hok7⟩ := HZ.out wy HB.out
  conv => arg 2; whnf
  refine wp_region_held_drew (S := (fun w' => w'.cell? ⟨D, 0, none⟩ = some (.int .i64 cF) ∧ w'.cell? ⟨D, 1, none⟩ = some (.string ⟨pF.toArray⟩) ∧ w'.cell? ⟨D, 2, none⟩ = some (.string ⟨[].toArray⟩))) (by kernel_rfl) ?_ (fun hHeld => ?_)
  · first | (dsimp only; done) | (dsimp only; go_keep) | go_keep
  replace HB : Hid (Below V.heap.size V wy.drew) := HB.out.trans ⟨rfl, rfl, rfl, Nat.le_refl _, fun _ _ => rfl⟩
  replace hok7 := (HZ.out _ HB.out).2
  refine wpAnyH_take (i := 0) (oi := ⟨some 47, _, _, _, _, _⟩) (v := ?vwA0) rfl (by kernel_rfl) (by kernel_rfl) (by kernel_rfl) (fun _ _ _ h => HQp.out _ _ _ _ _ h) (Or.inl ⟨by rfl, ?hywA0⟩) (by assumption) ?restwA0
  case hywA0 => (intro wq hSw; (try dsimp only at hSw); first | (go_simp; done) | (go_simp; with_reducible rfl))
  simp only [Act.put, List.setIfInBounds_toArray, List.set_cons_zero, List.set_cons_succ]
  refine wpAnyH_take (i := 1) (oi := ⟨some 48, _, _, _, _, _⟩) (v := ?vwA1) rfl (by kernel_rfl) (by kernel_rfl) (by kernel_rfl) (fun _ _ _ h => HQp.out _ _ _ _ _ h) (Or.inl ⟨by rfl, ?hywA1⟩) (by assumption) ?restwA1
  case hywA1 => (intro wq hSw; (try dsimp only at hSw); first | (go_simp; done) | (go_simp; with_reducible rfl))
  simp only [Act.put, List.setIfInBounds_toArray, List.set_cons_zero, List.set_cons_succ]
  refine wpAnyH_take (i := 2) (oi := ⟨some 49, _, _, _, _, _⟩) (v := .bool true) rfl (by kernel_rfl) (by kernel_rfl) (by kernel_rfl) (fun _ _ _ h => HQp.out _ _ _ _ _ h) (Or.inl ⟨by rfl, ?hywA2⟩) (by assumption) ?restwA2
  case hywA2 => (intro wq hSw; (try dsimp only at hSw); go_simp; (first | done | (simp; done) | omega | (simp; omega) | simp_all))
  simp only [Act.put, List.setIfInBounds_toArray, List.set_cons_zero, List.set_cons_succ]
  refine wpAnyH_take (i := 3) (oi := ⟨some 50, _, _, _, _, _⟩) (v := ?vwA3) rfl (by kernel_rfl) (by kernel_rfl) (by kernel_rfl) (fun _ _ _ h => HQp.out _ _ _ _ _ h) (Or.inl ⟨by rfl, ?hywA3⟩) (by assumption) ?restwA3
  case hywA3 => (intro wq hSw; (try dsimp only at hSw); first | (go_simp; done) | (go_simp; with_reducible rfl))
  simp only [Act.put, List.setIfInBounds_toArray, List.set_cons_zero, List.set_cons_succ]
  refine wpAnyH_take (i := 4) (oi := ⟨some 51, _, _, _, _, _⟩) (v := ?vwA4) rfl (by kernel_rfl) (by kernel_rfl) (by kernel_rfl) (fun _ _ _ h => HQp.out _ _ _ _ _ h) (Or.inl ⟨by rfl, ?hywA4⟩) (by assumption) ?restwA4
  case hywA4 => (intro wq hSw; (try dsimp only at hSw); first | (go_simp; done) | (go_simp; with_reducible rfl))
  simp only [Act.put, List.setIfInBounds_toArray, List.set_cons_zero, List.set_cons_succ]
  refine wpAnyH_take (i := 5) (oi := ⟨some 52, _, _, _, _, _⟩) (v := ?vwA5) rfl (by kernel_rfl) (by kernel_rfl) (by kernel_rfl) (fun _ _ _ h => HQp.out _ _ _ _ _ h) (Or.inl ⟨by rfl, ?hywA5⟩) (by assumption) ?restwA5
  case hywA5 => (intro wq hSw; (try dsimp only at hSw); first | (go_simp; done) | (go_simp; with_reducible rfl))
  simp only [Act.put, List.setIfInBounds_toArray, List.set_cons_zero, List.set_cons_succ]
  refine wpAnyH_take (i := 6) (oi := ⟨some 53, _, _, _, _, _⟩) (v := .bool true) rfl (by kernel_rfl) (by kernel_rfl) (by kernel_rfl) (fun _ _ _ h => HQp.out _ _ _ _ _ h) (Or.inl ⟨by rfl, ?hywA6⟩) (by assumption) ?restwA6
  case hywA6 => (intro wq hSw; (try dsimp only at hSw); go_simp; (first | done | (simp; done) | omega | (simp; omega) | simp_all))
  simp only [Act.put, List.setIfInBounds_toArray, List.set_cons_zero, List.set_cons_succ]
  refine wpAnyH_take (i := 7) (oi := ⟨some 54, _, _, _, _, _⟩) (v := .bool true) rfl (by kernel_rfl) (by kernel_rfl) (by kernel_rfl) (fun _ _ _ h => HQp.out _ _ _ _ _ h) (Or.inl ⟨by rfl, ?hywA7⟩) (by assumption) ?restwA7
  case hywA7 => (intro wq hSw; (try dsimp only at hSw); go_simp; (first | done | (simp; done) | omega | (simp; omega) | simp_all))
  simp only [Act.put, List.setIfInBounds_toArray, List.set_cons_zero, List.set_cons_succ]
  refine wpAnyH_take (i := 8) (oi := ⟨some 55, _, _, _, _, _⟩) (v := ?vwA8) rfl (by kernel_rfl) (by kernel_rfl) (by kernel_rfl) (fun _ _ _ h => HQp.out _ _ _ _ _ h) (Or.inl ⟨by rfl, ?hywA8⟩) (by assumption) ?restwA8
  case hywA8 => (intro wq hSw; (try dsimp only at hSw); first | (go_simp; done) | (go_simp; with_reducible rfl))
  simp only [Act.put, List.setIfInBounds_toArray, List.set_cons_zero, List.set_cons_succ]
  refine wpAnyH_take (i := 9) (oi := ⟨some 56, _, _, _, _, _⟩) (v := ?vwA9) rfl (by kernel_rfl) (by kernel_rfl) (by kernel_rfl) (fun _ _ _ h => HQp.out _ _ _ _ _ h) (Or.inl ⟨by rfl, ?hywA9⟩) (by assumption) ?restwA9
  case hywA9 => (intro wq hSw; (try dsimp only at hSw); first | (go_simp; done) | (go_simp; with_reducible rfl))
  simp only [Act.put, List.setIfInBounds_toArray, List.set_cons_zero, List.set_cons_succ]
  refine wpAnyH_take (i := 10) (oi := ⟨some 57, _, _, _, _, _⟩) (v := ?vwA10) rfl (by kernel_rfl) (by kernel_rfl) (by kernel_rfl) (fun _ _ _ h => HQp.out _ _ _ _ _ h) (Or.inl ⟨by rfl, ?hywA10⟩) (by assumption) ?restwA10
  case hywA10 => (intro wq hSw; (try dsimp only at hSw); first | (go_simp; done) | (go_simp; with_reducible rfl))
  simp only [Act.put, List.setIfInBounds_toArray, List.set_cons_zero, List.set_cons_succ]
  refine wpAnyH_take (i := 11) (oi := ⟨some 58, _, _, _, _, _⟩) (v := .bool false) rfl (by kernel_rfl) (by kernel_rfl) (by kernel_rfl) (fun _ _ _ h => HQp.out _ _ _ _ _ h) (Or.inl ⟨by rfl, ?hywA11⟩) (by assumption) ?restwA11
  case hywA11 => (intro wq hSw; (try dsimp only at hSw); go_simp; (first | done | (simp; done) | omega | (simp; omega) | simp_all))
  simp only [Act.put, List.setIfInBounds_toArray, List.set_cons_zero, List.set_cons_succ]
  refine wpAnyH_take (i := 12) (oi := ⟨some 59, _, _, _, _, _⟩) (v := ?vwA12) rfl (by kernel_rfl) (by kernel_rfl) (by kernel_rfl) (fun _ _ _ h => HQp.out _ _ _ _ _ h) (Or.inl ⟨by rfl, ?hywA12⟩) (by assumption) ?restwA12
  case hywA12 => (intro wq hSw; (try dsimp only at hSw); first | (go_simp; done) | (go_simp; with_reducible rfl))
  simp only [Act.put, List.setIfInBounds_toArray, List.set_cons_zero, List.set_cons_succ]
  refine wpAnyH_ready (rs := [13]) (by kernel_rfl) (by simp) ?_
  refine AllReadyH.cons rfl (fun K hK => ?_) AllReadyH.nil
  go_simp
  (go_at_call 14; refine Calls.mono (HPj.out _ hok7) ?_; rintro e wn ⟨rfl, hbn⟩; replace HB : Hid (Below V.heap.size V wn) := HB.out.trans (hbn.mono HB.out.size); clear d0 d1 d2; obtain ⟨⟨d0, d1, d2⟩, -⟩ := HZ.out wn HB.out; clear hbn)
  refine hK.out _ _ ?_ (fun hHeld => ?_)
  · first | (dsimp only; done) | (dsimp only; go_keep) | go_keep
  clear hK K
  refine wpAnyH_take (i := 14) (oi := ⟨some 61, _, _, _, _, _⟩) (v := .bool false) rfl (by kernel_rfl) (by kernel_rfl) (by kernel_rfl) (fun _ _ _ h => HQp.out _ _ _ _ _ h) (Or.inl ⟨by rfl, ?hywA14⟩) (by assumption) ?restwA14
  case hywA14 => (intro wq hSw; (try dsimp only at hSw); go_simp; (first | done | (simp; done) | omega | (simp; omega) | simp_all))
  simp only [Act.put, List.setIfInBounds_toArray, List.set_cons_zero, List.set_cons_succ]
  refine wpAnyH_take (i := 15) (oi := ⟨some 62, _, _, _, _, _⟩) (v := .bool true) rfl (by kernel_rfl) (by kernel_rfl) (by kernel_rfl) (fun _ _ _ h => HQp.out _ _ _ _ _ h) (Or.inl ⟨by rfl, ?hywA15⟩) (by assumption) ?restwA15
  case hywA15 => (intro wq hSw; (try dsimp only at hSw); go_simp; (first | done | (simp; done) | omega | (simp; omega) | simp_all))
  simp only [Act.put, List.setIfInBounds_toArray, List.set_cons_zero, List.set_cons_succ]
  refine wpAnyH_take (i := 16) (oi := ⟨some 63, _, _, _, _, _⟩) (v := .bool true) rfl (by kernel_rfl) (by kernel_rfl) (by kernel_rfl) (fun _ _ _ h => HQp.out _ _ _ _ _ h) (Or.inl ⟨by rfl, ?hywA16⟩) (by assumption) ?restwA16
  case hywA16 => (intro wq hSw; (try dsimp only at hSw); go_simp; (first | done | (simp; done) | omega | (simp; omega) | simp_all))
  simp only [Act.put, List.setIfInBounds_toArray, List.set_cons_zero, List.set_cons_succ]
  refine wpAnyH_take (i := 17) (oi := ⟨some 64, _, _, _, _, _⟩) (v := ?vwA17) rfl (by kernel_rfl) (by kernel_rfl) (by kernel_rfl) (fun _ _ _ h => HQp.out _ _ _ _ _ h) (Or.inl ⟨by rfl, ?hywA17⟩) (by assumption) ?restwA17
  case hywA17 => (intro wq hSw; (try dsimp only at hSw); first | (go_simp; done) | (go_simp; with_reducible rfl))
  simp only [Act.put, List.setIfInBounds_toArray, List.set_cons_zero, List.set_cons_succ]
  refine wpAnyH_take (i := 18) (oi := ⟨some 65, _, _, _, _, _⟩) (v := ?vwA18) rfl (by kernel_rfl) (by kernel_rfl) (by kernel_rfl) (fun _ _ _ h => HQp.out _ _ _ _ _ h) (Or.inl ⟨by rfl, ?hywA18⟩) (by assumption) ?restwA18
  case hywA18 => (intro wq hSw; (try dsimp only at hSw); first | (go_simp; done) | (go_simp; with_reducible rfl))
  simp only [Act.put, List.setIfInBounds_toArray, List.set_cons_zero, List.set_cons_succ]
  refine wpAnyH_take (i := 19) (oi := ⟨some 66, _, _, _, _, _⟩) (v := ?vwA19) rfl (by kernel_rfl) (by kernel_rfl) (by kernel_rfl) (fun _ _ _ h => HQp.out _ _ _ _ _ h) (Or.inl ⟨by rfl, ?hywA19⟩) (by assumption) ?restwA19
  case hywA19 => (intro wq hSw; (try dsimp only at hSw); first | (go_simp; done) | (go_simp; with_reducible rfl))
  simp only [Act.put, List.setIfInBounds_toArray, List.set_cons_zero, List.set_cons_succ]
  refine wpAnyH_take (i := 20) (oi := ⟨some 67, _, _, _, _, _⟩) (v := .bool false) rfl (by kernel_rfl) (by kernel_rfl) (by kernel_rfl) (fun _ _ _ h => HQp.out _ _ _ _ _ h) (Or.inl ⟨by rfl, ?hywA20⟩) (by assumption) ?restwA20
  case hywA20 => (intro wq hSw; (try dsimp only at hSw); go_simp; (first | done | (simp; done) | omega | (simp; omega) | simp_all))
  simp only [Act.put, List.setIfInBounds_toArray, List.set_cons_zero, List.set_cons_succ]
  refine wpAnyH_take (i := 21) (oi := ⟨some 68, _, _, _, _, _⟩) (v := ?vwA21) rfl (by kernel_rfl) (by kernel_rfl) (by kernel_rfl) (fun _ _ _ h => HQp.out _ _ _ _ _ h) (Or.inl ⟨by rfl, ?hywA21⟩) (by assumption) ?restwA21
  case hywA21 => (intro wq hSw; (try dsimp only at hSw); first | (go_simp; done) | (go_simp; with_reducible rfl))
  simp only [Act.put, List.setIfInBounds_toArray, List.set_cons_zero, List.set_cons_succ]
  refine wpAnyH_take (i := 22) (oi := ⟨some 69, _, _, _, _, _⟩) (v := ?vwA22) rfl (by kernel_rfl) (by kernel_rfl) (by kernel_rfl) (fun _ _ _ h => HQp.out _ _ _ _ _ h) (Or.inl ⟨by rfl, ?hywA22⟩) (by assumption) ?restwA22
  case hywA22 => (intro wq hSw; (try dsimp only at hSw); first | (go_simp; done) | (go_simp; with_reducible rfl))
  simp only [Act.put, List.setIfInBounds_toArray, List.set_cons_zero, List.set_cons_succ]
  refine wpAnyH_take (i := 23) (oi := ⟨some 70, _, _, _, _, _⟩) (v := .bool false) rfl (by kernel_rfl) (by kernel_rfl) (by kernel_rfl) (fun _ _ _ h => HQp.out _ _ _ _ _ h) (Or.inl ⟨by rfl, ?hywA23⟩) (by assumption) ?restwA23
  case hywA23 => (intro wq hSw; (try dsimp only at hSw); go_simp; (first | done | (simp; done) | omega | (simp; omega) | simp_all))
  simp only [Act.put, List.setIfInBounds_toArray, List.set_cons_zero, List.set_cons_succ]
  refine wpAnyH_take (i := 24) (oi := ⟨some 71, _, _, _, _, _⟩) (v := ?vwA24) rfl (by kernel_rfl) (by kernel_rfl) (by kernel_rfl) (fun _ _ _ h => HQp.out _ _ _ _ _ h) (Or.inl ⟨by rfl, ?hywA24⟩) (by assumption) ?restwA24
  case hywA24 => (intro wq hSw; (try dsimp only at hSw); first | (go_simp; done) | (go_simp; with_reducible rfl))
  simp only [Act.put, List.setIfInBounds_toArray, List.set_cons_zero, List.set_cons_succ]
  refine wpAnyH_take (i := 25) (oi := ⟨some 72, _, _, _, _, _⟩) (v := undef) rfl (by kernel_rfl) (by kernel_rfl) (by kernel_rfl) (fun _ _ _ h => HQp.out _ _ _ _ _ h) (Or.inr ⟨by rfl, rfl⟩) (by assumption) ?_
  simp only [Act.put, List.setIfInBounds_toArray, List.set_cons_zero, List.set_cons_succ]
  refine wpAnyH_take (i := 26) (oi := ⟨some 73, _, _, _, _, _⟩) (v := undef) rfl (by kernel_rfl) (by kernel_rfl) (by kernel_rfl) (fun _ _ _ h => HQp.out _ _ _ _ _ h) (Or.inr ⟨by rfl, rfl⟩) (by assumption) ?_
  simp only [Act.put, List.setIfInBounds_toArray, List.set_cons_zero, List.set_cons_succ]
  refine wpAnyH_take (i := 27) (oi := ⟨some 74, _, _, _, _, _⟩) (v := undef) rfl (by kernel_rfl) (by kernel_rfl) (by kernel_rfl) (fun _ _ _ h => HQp.out _ _ _ _ _ h) (Or.inr ⟨by rfl, rfl⟩) (by assumption) ?_
  simp only [Act.put, List.setIfInBounds_toArray, List.set_cons_zero, List.set_cons_succ]
  refine wpAnyH_take (i := 28) (oi := ⟨some 75, _, _, _, _, _⟩) (v := .bool false) rfl (by kernel_rfl) (by kernel_rfl) (by kernel_rfl) (fun _ _ _ h => HQp.out _ _ _ _ _ h) (Or.inl ⟨by rfl, ?hywA28⟩) (by assumption) ?restwA28
  case hywA28 => (intro wq hSw; (try dsimp only at hSw); go_simp; (first | done | (simp; done) | omega | (simp; omega) | simp_all))
  simp only [Act.put, List.setIfInBounds_toArray, List.set_cons_zero, List.set_cons_succ]
  refine wpAnyH_take (i := 29) (oi := ⟨some 76, _, _, _, _, _⟩) (v := .bool true) rfl (by kernel_rfl) (by kernel_rfl) (by kernel_rfl) (fun _ _ _ h => HQp.out _ _ _ _ _ h) (Or.inl ⟨by rfl, ?hywA29⟩) (by assumption) ?restwA29
  case hywA29 => (intro wq hSw; (try dsimp only at hSw); go_simp; (first | done | (simp; done) | omega | (simp; omega) | simp_all))
  simp only [Act.put, List.setIfInBounds_toArray, List.set_cons_zero, List.set_cons_succ]
  refine wpAnyH_take (i := 30) (oi := ⟨some 77, _, _, _, _, _⟩) (v := .bool true) rfl (by kernel_rfl) (by kernel_rfl) (by kernel_rfl) (fun _ _ _ h => HQp.out _ _ _ _ _ h) (Or.inl ⟨by rfl, ?hywA30⟩) (by assumption) ?restwA30
  case hywA30 => (intro wq hSw; (try dsimp only at hSw); go_simp; (first | done | (simp; done) | omega | (simp; omega) | simp_all))
  simp only [Act.put, List.setIfInBounds_toArray, List.set_cons_zero, List.set_cons_succ]
  refine wpAnyH_take (i := 31) (oi := ⟨some 2, _, _, _, _, _⟩) (v := .bool true) rfl (by kernel_rfl) (by kernel_rfl) (by kernel_rfl) (fun _ _ _ h => HQp.out _ _ _ _ _ h) (Or.inl ⟨by rfl, ?hywA31⟩) (by assumption) ?restwA31
  case hywA31 => (intro wq hSw; (try dsimp only at hSw); go_simp; (first | done | (simp; done) | omega | (simp; omega) | simp_all))
  simp only [Act.put, List.setIfInBounds_toArray, List.set_cons_zero, List.set_cons_succ]
  refine wpAnyH_done (by kernel_rfl) ?_ _
  exact HQ.out _ _ _ _ _ _ _ _ _ _ _ _ _ _ _ _ _ _ _ _ _ _ _ _ _ _ _ _ _ _ _ _ HB.out
set_option maxHeartbeats 16000000 in
set_option maxRecDepth 1000000 in
theorem faults12B (c0 c1 c2 c5 c6 c7 c8 c9 c10 c11 c12 c13 c14 c15 c16 c17 c18 c19 c20 c21 c22 c23 c24 c25 c26 c27 c28 c29 c30 c31 c32 c33 c34 c35 c36 c37 c38 c39 c40 c41 c42 c43 c44 c45 c46 c47 c48 c49 c50 c51 c52 c53 c54 c55 c56 c57 c58 c59 c60 c61 c62 c63 c64 c65 c66 c67 c68 c69 c70 c71 c72 c73 c74 c75 c76 c77 c78 c79 c80 c81 c82 c83 c84 c85 c86 c87 c88 c89 c90 c91 c92 c93 c94 c95 c96 c97 c98 c99 c100 c101 c102 c103 c104 c105 c106 c107 c108 c109 c110 c111 c112 c113 c114 c115 c116 c117 c118 c119 c120 c121 c122 c123 c124 c125 c126 c127 c128 c129 c130 c131 c132 c133 c134 c135 c136 c137 c138 c139 c140 c141 c142 c143 c144 c145 c146 c147 c148 c149 c150 c151 c152 c153 c154 c155 c156 c157 c158 c159 c160 c161 c162 c163 c164 c165 c166 c167 c168 c169 c170 c171 c172 c173 c174 c175 c176 c177 c178 c179 c180 c181 c182 c183 c184 c185 c186 c187 c188 c189 c190 c191 c192 c193 c194 c195 c196 c197 c198 c199 c200 c201 c202 c203 c204 : Value) (la : Option Addr) (lc D : Nat) (ps : List Pk) (cF : Int) (pF : List UInt8) (z : UInt8) (zs : List UInt8) (hlo : 3 ≤ cF) (hhi : cF ≤ 5) (V wy : World)
    (HPj : Hid (∀ Z, PkgsOk Z la ps.length lc ps → Calls Tryz.prog 14 #[.slice la ps.length lc] Z fun e w' => e = .returned (.bool true) ∧ Below Z.heap.size Z w'))
    (HZ : Hid (∀ Z, Below V.heap.size V Z → (Z.cell? ⟨D, 0, none⟩ = some (.int .i64 cF) ∧ Z.cell? ⟨D, 1, none⟩ = some (.string ⟨pF.toArray⟩) ∧ Z.cell? ⟨D, 2, none⟩ = some (.string ⟨(z :: zs).toArray⟩)) ∧ PkgsOk Z la ps.length lc ps)) (HB : Hid (Below V.heap.size V wy))
    (Q : Exit → Act → World → Prop) (HQp : Hid (∀ (x : _) (a : Act) (d : Tmp) (v : Value) (w : World), Q (.panic x) (a.put (some d) v) w → Q (.panic x) a w)) (hQ : ∀ (u47 u48 u49 u50 u51 u52 u53 u54 u55 u56 u57 u58 u59 u60 u61 u62 u63 u64 u65 u66 u67 u68 u69 u70 u71 u72 u73 u74 u75 u76 u77 : Value) (w' : World), Below V.heap.size V w' → Q .normal ⟨#[c0, c1, .bool true, .slice la ps.length lc, .pointer (some ⟨D, 0, none⟩), c5, c6, c7, c8, c9, c10, c11, c12, c13, c14, c15, c16, c17, c18, c19, c20, c21, c22, c23, c24, c25, c26, c27, c28, c29, c30, c31, c32, c33, c34, c35, c36, c37, c38, c39, c40, c41, c42, c43, c44, c45, c46, u47, u48, u49, u50, u51, u52, u53, u54, u55, u56, u57, u58, u59, u60, u61, u62, u63, u64, u65, u66, u67, u68, u69, u70, u71, u72, u73, u74, u75, u76, u77, c78, c79, c80, c81, c82, c83, c84, c85, c86, c87, c88, c89, c90, c91, c92, c93, c94, c95, c96, c97, c98, c99, c100, c101, c102, c103, c104, c105, c106, c107, c108, c109, c110, c111, c112, c113, c114, c115, c116, c117, c118, c119, c120, c121, c122, c123, c124, c125, c126, c127, c128, c129, c130, c131, c132, c133, c134, c135, c136, c137, c138, c139, c140, c141, c142, c143, c144, c145, c146, c147, c148, c149, c150, c151, c152, c153, c154, c155, c156, c157, c158, c159, c160, c161, c162, c163, c164, c165, c166, c167, c168, c169, c170, c171, c172, c173, c174, c175, c176, c177, c178, c179, c180, c181, c182, c183, c184, c185, c186, c187, c188, c189, c190, c191, c192, c193, c194, c195, c196, c197, c198, c199, c200, c201, c202, c203, c204], []⟩ w') :
    Code.wp Tryz.prog faults12 Q ⟨#[c0, c1, c2, .slice la ps.length lc, .pointer (some ⟨D, 0, none⟩), c5, c6, c7, c8, c9, c10, c11, c12, c13, c14, c15, c16, c17, c18, c19, c20, c21, c22, c23, c24, c25, c26, c27, c28, c29, c30, c31, c32, c33, c34, c35, c36, c37, c38, c39, c40, c41, c42, c43, c44, c45, c46, c47, c48, c49, c50, c51, c52, c53, c54, c55, c56, c57, c58, c59, c60, c61, c62, c63, c64, c65, c66, c67, c68, c69, c70, c71, c72, c73, c74, c75, c76, c77, c78, c79, c80, c81, c82, c83, c84, c85, c86, c87, c88, c89, c90, c91, c92, c93, c94, c95, c96, c97, c98, c99, c100, c101, c102, c103, c104, c105, c106, c107, c108, c109, c110, c111, c112, c113, c114, c115, c116, c117, c118, c119, c120, c121, c122, c123, c124, c125, c126, c127, c128, c129, c130, c131, c132, c133, c134, c135, c136, c137, c138, c139, c140, c141, c142, c143, c144, c145, c146, c147, c148, c149, c150, c151, c152, c153, c154, c155, c156, c157, c158, c159, c160, c161, c162, c163, c164, c165, c166, c167, c168, c169, c170, c171, c172, c173, c174, c175, c176, c177, c178, c179, c180, c181, c182, c183, c184, c185, c186, c187, c188, c189, c190, c191, c192, c193, c194, c195, c196, c197, c198, c199, c200, c201, c202, c203, c204], []⟩ wy := by
  have HQ : Hid (_) := hQ
  clear hQ
  have hn6 : ¬ cF = 6 := by omega
  have hz0 : (cF != 0) = true := by rw [bne_iff_ne]; omega
  obtain ⟨⟨d0, d1, d2⟩, hok7⟩ := HZ.out wy HB.out
  conv => arg 2; whnf
  refine wp_region_held_drew (S := (fun w' => w'.cell? ⟨D, 0, none⟩ = some (.int .i64 cF) ∧ w'.cell? ⟨D, 1, none⟩ = some (.string ⟨pF.toArray⟩) ∧ w'.cell? ⟨D, 2, none⟩ = some (.string ⟨(z :: zs).toArray⟩))) (by kernel_rfl) ?_ (fun hHeld => ?_)
  · first | (dsimp only; done) | (dsimp only; go_keep) | go_keep
  replace HB : Hid (Below V.heap.size V wy.drew) := HB.out.trans ⟨rfl, rfl, rfl, Nat.le_refl _, fun _ _ => rfl⟩
  replace hok7 := (HZ.out _ HB.out).2
  refine wpAnyH_take (i := 0) (oi := ⟨some 47, _, _, _, _, _⟩) (v := ?vwB0) rfl (by kernel_rfl) (by kernel_rfl) (by kernel_rfl) (fun _ _ _ h => HQp.out _ _ _ _ _ h) (Or.inl ⟨by rfl, ?hywB0⟩) (by assumption) ?restwB0
  case hywB0 => (intro wq hSw; (try dsimp only at hSw); first | (go_simp; done) | (go_simp; with_reducible rfl))
  simp only [Act.put, List.setIfInBounds_toArray, List.set_cons_zero, List.set_cons_succ]
  refine wpAnyH_take (i := 1) (oi := ⟨some 48, _, _, _, _, _⟩) (v := ?vwB1) rfl (by kernel_rfl) (by kernel_rfl) (by kernel_rfl) (fun _ _ _ h => HQp.out _ _ _ _ _ h) (Or.inl ⟨by rfl, ?hywB1⟩) (by assumption) ?restwB1
  case hywB1 => (intro wq hSw; (try dsimp only at hSw); first | (go_simp; done) | (go_simp; with_reducible rfl))
  simp only [Act.put, List.setIfInBounds_toArray, List.set_cons_zero, List.set_cons_succ]
  refine wpAnyH_take (i := 2) (oi := ⟨some 49, _, _, _, _, _⟩) (v := .bool true) rfl (by kernel_rfl) (by kernel_rfl) (by kernel_rfl) (fun _ _ _ h => HQp.out _ _ _ _ _ h) (Or.inl ⟨by rfl, ?hywB2⟩) (by assumption) ?restwB2
  case hywB2 => (intro wq hSw; (try dsimp only at hSw); go_simp; (first | done | (simp; done) | omega | (simp; omega) | simp_all))
  simp only [Act.put, List.setIfInBounds_toArray, List.set_cons_zero, List.set_cons_succ]
  refine wpAnyH_take (i := 3) (oi := ⟨some 50, _, _, _, _, _⟩) (v := ?vwB3) rfl (by kernel_rfl) (by kernel_rfl) (by kernel_rfl) (fun _ _ _ h => HQp.out _ _ _ _ _ h) (Or.inl ⟨by rfl, ?hywB3⟩) (by assumption) ?restwB3
  case hywB3 => (intro wq hSw; (try dsimp only at hSw); first | (go_simp; done) | (go_simp; with_reducible rfl))
  simp only [Act.put, List.setIfInBounds_toArray, List.set_cons_zero, List.set_cons_succ]
  refine wpAnyH_take (i := 4) (oi := ⟨some 51, _, _, _, _, _⟩) (v := ?vwB4) rfl (by kernel_rfl) (by kernel_rfl) (by kernel_rfl) (fun _ _ _ h => HQp.out _ _ _ _ _ h) (Or.inl ⟨by rfl, ?hywB4⟩) (by assumption) ?restwB4
  case hywB4 => (intro wq hSw; (try dsimp only at hSw); first | (go_simp; done) | (go_simp; with_reducible rfl))
  simp only [Act.put, List.setIfInBounds_toArray, List.set_cons_zero, List.set_cons_succ]
  refine wpAnyH_take (i := 5) (oi := ⟨some 52, _, _, _, _, _⟩) (v := ?vwB5) rfl (by kernel_rfl) (by kernel_rfl) (by kernel_rfl) (fun _ _ _ h => HQp.out _ _ _ _ _ h) (Or.inl ⟨by rfl, ?hywB5⟩) (by assumption) ?restwB5
  case hywB5 => (intro wq hSw; (try dsimp only at hSw); first | (go_simp; done) | (go_simp; with_reducible rfl))
  simp only [Act.put, List.setIfInBounds_toArray, List.set_cons_zero, List.set_cons_succ]
  refine wpAnyH_take (i := 6) (oi := ⟨some 53, _, _, _, _, _⟩) (v := .bool true) rfl (by kernel_rfl) (by kernel_rfl) (by kernel_rfl) (fun _ _ _ h => HQp.out _ _ _ _ _ h) (Or.inl ⟨by rfl, ?hywB6⟩) (by assumption) ?restwB6
  case hywB6 => (intro wq hSw; (try dsimp only at hSw); go_simp; (first | done | (simp; done) | omega | (simp; omega) | simp_all))
  simp only [Act.put, List.setIfInBounds_toArray, List.set_cons_zero, List.set_cons_succ]
  refine wpAnyH_take (i := 7) (oi := ⟨some 54, _, _, _, _, _⟩) (v := .bool true) rfl (by kernel_rfl) (by kernel_rfl) (by kernel_rfl) (fun _ _ _ h => HQp.out _ _ _ _ _ h) (Or.inl ⟨by rfl, ?hywB7⟩) (by assumption) ?restwB7
  case hywB7 => (intro wq hSw; (try dsimp only at hSw); go_simp; (first | done | (simp; done) | omega | (simp; omega) | simp_all))
  simp only [Act.put, List.setIfInBounds_toArray, List.set_cons_zero, List.set_cons_succ]
  refine wpAnyH_take (i := 8) (oi := ⟨some 55, _, _, _, _, _⟩) (v := ?vwB8) rfl (by kernel_rfl) (by kernel_rfl) (by kernel_rfl) (fun _ _ _ h => HQp.out _ _ _ _ _ h) (Or.inl ⟨by rfl, ?hywB8⟩) (by assumption) ?restwB8
  case hywB8 => (intro wq hSw; (try dsimp only at hSw); first | (go_simp; done) | (go_simp; with_reducible rfl))
  simp only [Act.put, List.setIfInBounds_toArray, List.set_cons_zero, List.set_cons_succ]
  refine wpAnyH_take (i := 9) (oi := ⟨some 56, _, _, _, _, _⟩) (v := ?vwB9) rfl (by kernel_rfl) (by kernel_rfl) (by kernel_rfl) (fun _ _ _ h => HQp.out _ _ _ _ _ h) (Or.inl ⟨by rfl, ?hywB9⟩) (by assumption) ?restwB9
  case hywB9 => (intro wq hSw; (try dsimp only at hSw); first | (go_simp; done) | (go_simp; with_reducible rfl))
  simp only [Act.put, List.setIfInBounds_toArray, List.set_cons_zero, List.set_cons_succ]
  refine wpAnyH_take (i := 10) (oi := ⟨some 57, _, _, _, _, _⟩) (v := ?vwB10) rfl (by kernel_rfl) (by kernel_rfl) (by kernel_rfl) (fun _ _ _ h => HQp.out _ _ _ _ _ h) (Or.inl ⟨by rfl, ?hywB10⟩) (by assumption) ?restwB10
  case hywB10 => (intro wq hSw; (try dsimp only at hSw); first | (go_simp; done) | (go_simp; with_reducible rfl))
  simp only [Act.put, List.setIfInBounds_toArray, List.set_cons_zero, List.set_cons_succ]
  refine wpAnyH_take (i := 11) (oi := ⟨some 58, _, _, _, _, _⟩) (v := .bool false) rfl (by kernel_rfl) (by kernel_rfl) (by kernel_rfl) (fun _ _ _ h => HQp.out _ _ _ _ _ h) (Or.inl ⟨by rfl, ?hywB11⟩) (by assumption) ?restwB11
  case hywB11 => (intro wq hSw; (try dsimp only at hSw); go_simp; (first | done | (simp; done) | omega | (simp; omega) | simp_all))
  simp only [Act.put, List.setIfInBounds_toArray, List.set_cons_zero, List.set_cons_succ]
  refine wpAnyH_take (i := 12) (oi := ⟨some 59, _, _, _, _, _⟩) (v := ?vwB12) rfl (by kernel_rfl) (by kernel_rfl) (by kernel_rfl) (fun _ _ _ h => HQp.out _ _ _ _ _ h) (Or.inl ⟨by rfl, ?hywB12⟩) (by assumption) ?restwB12
  case hywB12 => (intro wq hSw; (try dsimp only at hSw); first | (go_simp; done) | (go_simp; with_reducible rfl))
  simp only [Act.put, List.setIfInBounds_toArray, List.set_cons_zero, List.set_cons_succ]
  refine wpAnyH_ready (rs := [13]) (by kernel_rfl) (by simp) ?_
  refine AllReadyH.cons rfl (fun K hK => ?_) AllReadyH.nil
  go_simp
  (go_at_call 14; refine Calls.mono (HPj.out _ hok7) ?_; rintro e wn ⟨rfl, hbn⟩; replace HB : Hid (Below V.heap.size V wn) := HB.out.trans (hbn.mono HB.out.size); clear d0 d1 d2; obtain ⟨⟨d0, d1, d2⟩, -⟩ := HZ.out wn HB.out; clear hbn)
  refine hK.out _ _ ?_ (fun hHeld => ?_)
  · first | (dsimp only; done) | (dsimp only; go_keep) | go_keep
  clear hK K
  refine wpAnyH_take (i := 14) (oi := ⟨some 61, _, _, _, _, _⟩) (v := .bool false) rfl (by kernel_rfl) (by kernel_rfl) (by kernel_rfl) (fun _ _ _ h => HQp.out _ _ _ _ _ h) (Or.inl ⟨by rfl, ?hywB14⟩) (by assumption) ?restwB14
  case hywB14 => (intro wq hSw; (try dsimp only at hSw); go_simp; (first | done | (simp; done) | omega | (simp; omega) | simp_all))
  simp only [Act.put, List.setIfInBounds_toArray, List.set_cons_zero, List.set_cons_succ]
  refine wpAnyH_take (i := 15) (oi := ⟨some 62, _, _, _, _, _⟩) (v := .bool true) rfl (by kernel_rfl) (by kernel_rfl) (by kernel_rfl) (fun _ _ _ h => HQp.out _ _ _ _ _ h) (Or.inl ⟨by rfl, ?hywB15⟩) (by assumption) ?restwB15
  case hywB15 => (intro wq hSw; (try dsimp only at hSw); go_simp; (first | done | (simp; done) | omega | (simp; omega) | simp_all))
  simp only [Act.put, List.setIfInBounds_toArray, List.set_cons_zero, List.set_cons_succ]
  refine wpAnyH_take (i := 16) (oi := ⟨some 63, _, _, _, _, _⟩) (v := .bool true) rfl (by kernel_rfl) (by kernel_rfl) (by kernel_rfl) (fun _ _ _ h => HQp.out _ _ _ _ _ h) (Or.inl ⟨by rfl, ?hywB16⟩) (by assumption) ?restwB16
  case hywB16 => (intro wq hSw; (try dsimp only at hSw); go_simp; (first | done | (simp; done) | omega | (simp; omega) | simp_all))
  simp only [Act.put, List.setIfInBounds_toArray, List.set_cons_zero, List.set_cons_succ]
  refine wpAnyH_take (i := 17) (oi := ⟨some 64, _, _, _, _, _⟩) (v := ?vwB17) rfl (by kernel_rfl) (by kernel_rfl) (by kernel_rfl) (fun _ _ _ h => HQp.out _ _ _ _ _ h) (Or.inl ⟨by rfl, ?hywB17⟩) (by assumption) ?restwB17
  case hywB17 => (intro wq hSw; (try dsimp only at hSw); first | (go_simp; done) | (go_simp; with_reducible rfl))
  simp only [Act.put, List.setIfInBounds_toArray, List.set_cons_zero, List.set_cons_succ]
  refine wpAnyH_take (i := 18) (oi := ⟨some 65, _, _, _, _, _⟩) (v := ?vwB18) rfl (by kernel_rfl) (by kernel_rfl) (by kernel_rfl) (fun _ _ _ h => HQp.out _ _ _ _ _ h) (Or.inl ⟨by rfl, ?hywB18⟩) (by assumption) ?restwB18
  case hywB18 => (intro wq hSw; (try dsimp only at hSw); first | (go_simp; done) | (go_simp; with_reducible rfl))
  simp only [Act.put, List.setIfInBounds_toArray, List.set_cons_zero, List.set_cons_succ]
  refine wpAnyH_take (i := 19) (oi := ⟨some 66, _, _, _, _, _⟩) (v := ?vwB19) rfl (by kernel_rfl) (by kernel_rfl) (by kernel_rfl) (fun _ _ _ h => HQp.out _ _ _ _ _ h) (Or.inl ⟨by rfl, ?hywB19⟩) (by assumption) ?restwB19
  case hywB19 => (intro wq hSw; (try dsimp only at hSw); first | (go_simp; done) | (go_simp; with_reducible rfl))
  simp only [Act.put, List.setIfInBounds_toArray, List.set_cons_zero, List.set_cons_succ]
  refine wpAnyH_take (i := 20) (oi := ⟨some 67, _, _, _, _, _⟩) (v := .bool true) rfl (by kernel_rfl) (by kernel_rfl) (by kernel_rfl) (fun _ _ _ h => HQp.out _ _ _ _ _ h) (Or.inl ⟨by rfl, ?hywB20⟩) (by assumption) ?restwB20
  case hywB20 => (intro wq hSw; (try dsimp only at hSw); go_simp; (first | done | (simp; done) | omega | (simp; omega) | simp_all))
  simp only [Act.put, List.setIfInBounds_toArray, List.set_cons_zero, List.set_cons_succ]
  refine wpAnyH_take (i := 21) (oi := ⟨some 68, _, _, _, _, _⟩) (v := ?vwB21) rfl (by kernel_rfl) (by kernel_rfl) (by kernel_rfl) (fun _ _ _ h => HQp.out _ _ _ _ _ h) (Or.inl ⟨by rfl, ?hywB21⟩) (by assumption) ?restwB21
  case hywB21 => (intro wq hSw; (try dsimp only at hSw); first | (go_simp; done) | (go_simp; with_reducible rfl))
  simp only [Act.put, List.setIfInBounds_toArray, List.set_cons_zero, List.set_cons_succ]
  refine wpAnyH_take (i := 22) (oi := ⟨some 69, _, _, _, _, _⟩) (v := ?vwB22) rfl (by kernel_rfl) (by kernel_rfl) (by kernel_rfl) (fun _ _ _ h => HQp.out _ _ _ _ _ h) (Or.inl ⟨by rfl, ?hywB22⟩) (by assumption) ?restwB22
  case hywB22 => (intro wq hSw; (try dsimp only at hSw); first | (go_simp; done) | (go_simp; with_reducible rfl))
  simp only [Act.put, List.setIfInBounds_toArray, List.set_cons_zero, List.set_cons_succ]
  refine wpAnyH_take (i := 23) (oi := ⟨some 70, _, _, _, _, _⟩) (v := .bool true) rfl (by kernel_rfl) (by kernel_rfl) (by kernel_rfl) (fun _ _ _ h => HQp.out _ _ _ _ _ h) (Or.inl ⟨by rfl, ?hywB23⟩) (by assumption) ?restwB23
  case hywB23 => (intro wq hSw; (try dsimp only at hSw); go_simp; (first | done | (simp; done) | omega | (simp; omega) | simp_all))
  simp only [Act.put, List.setIfInBounds_toArray, List.set_cons_zero, List.set_cons_succ]
  refine wpAnyH_take (i := 24) (oi := ⟨some 71, _, _, _, _, _⟩) (v := ?vwB24) rfl (by kernel_rfl) (by kernel_rfl) (by kernel_rfl) (fun _ _ _ h => HQp.out _ _ _ _ _ h) (Or.inl ⟨by rfl, ?hywB24⟩) (by assumption) ?restwB24
  case hywB24 => (intro wq hSw; (try dsimp only at hSw); first | (go_simp; done) | (go_simp; with_reducible rfl))
  simp only [Act.put, List.setIfInBounds_toArray, List.set_cons_zero, List.set_cons_succ]
  refine wpAnyH_take (i := 25) (oi := ⟨some 72, _, _, _, _, _⟩) (v := ?vwB25) rfl (by kernel_rfl) (by kernel_rfl) (by kernel_rfl) (fun _ _ _ h => HQp.out _ _ _ _ _ h) (Or.inl ⟨by rfl, ?hywB25⟩) (by assumption) ?restwB25
  case hywB25 => (intro wq hSw; (try dsimp only at hSw); first | (go_simp; done) | (go_simp; with_reducible rfl))
  simp only [Act.put, List.setIfInBounds_toArray, List.set_cons_zero, List.set_cons_succ]
  refine wpAnyH_take (i := 26) (oi := ⟨some 73, _, _, _, _, _⟩) (v := ?vwB26) rfl (by kernel_rfl) (by kernel_rfl) (by kernel_rfl) (fun _ _ _ h => HQp.out _ _ _ _ _ h) (Or.inl ⟨by rfl, ?hywB26⟩) (by assumption) ?restwB26
  case hywB26 => (intro wq hSw; (try dsimp only at hSw); first | (go_simp; done) | (go_simp; with_reducible rfl))
  simp only [Act.put, List.setIfInBounds_toArray, List.set_cons_zero, List.set_cons_succ]
  refine wpAnyH_take (i := 27) (oi := ⟨some 74, _, _, _, _, _⟩) (v := .bool true) rfl (by kernel_rfl) (by kernel_rfl) (by kernel_rfl) (fun _ _ _ h => HQp.out _ _ _ _ _ h) (Or.inl ⟨by rfl, ?hywB27⟩) (by assumption) ?restwB27
  case hywB27 => (intro wq hSw; (try dsimp only at hSw); go_simp; (first | done | (simp; done) | omega | (simp; omega) | simp_all))
  simp only [Act.put, List.setIfInBounds_toArray, List.set_cons_zero, List.set_cons_succ]
  refine wpAnyH_take (i := 28) (oi := ⟨some 75, _, _, _, _, _⟩) (v := .bool true) rfl (by kernel_rfl) (by kernel_rfl) (by kernel_rfl) (fun _ _ _ h => HQp.out _ _ _ _ _ h) (Or.inl ⟨by rfl, ?hywB28⟩) (by assumption) ?restwB28
  case hywB28 => (intro wq hSw; (try dsimp only at hSw); go_simp; (first | done | (simp; done) | omega | (simp; omega) | simp_all))
  simp only [Act.put, List.setIfInBounds_toArray, List.set_cons_zero, List.set_cons_succ]
  refine wpAnyH_take (i := 29) (oi := ⟨some 76, _, _, _, _, _⟩) (v := .bool true) rfl (by kernel_rfl) (by kernel_rfl) (by kernel_rfl) (fun _ _ _ h => HQp.out _ _ _ _ _ h) (Or.inl ⟨by rfl, ?hywB29⟩) (by assumption) ?restwB29
  case hywB29 => (intro wq hSw; (try dsimp only at hSw); go_simp; (first | done | (simp; done) | omega | (simp; omega) | simp_all))
  simp only [Act.put, List.setIfInBounds_toArray, List.set_cons_zero, List.set_cons_succ]
  refine wpAnyH_take (i := 30) (oi := ⟨some 77, _, _, _, _, _⟩) (v := .bool true) rfl (by kernel_rfl) (by kernel_rfl) (by kernel_rfl) (fun _ _ _ h => HQp.out _ _ _ _ _ h) (Or.inl ⟨by rfl, ?hywB30⟩) (by assumption) ?restwB30
  case hywB30 => (intro wq hSw; (try dsimp only at hSw); go_simp; (first | done | (simp; done) | omega | (simp; omega) | simp_all))
  simp only [Act.put, List.setIfInBounds_toArray, List.set_cons_zero, List.set_cons_succ]
  refine wpAnyH_take (i := 31) (oi := ⟨some 2, _, _, _, _, _⟩) (v := .bool true) rfl (by kernel_rfl) (by kernel_rfl) (by kernel_rfl) (fun _ _ _ h => HQp.out _ _ _ _ _ h) (Or.inl ⟨by rfl, ?hywB31⟩) (by assumption) ?restwB31
  case hywB31 => (intro wq hSw; (try dsimp only at hSw); go_simp; (first | done | (simp; done) | omega | (simp; omega) | simp_all))
  simp only [Act.put, List.setIfInBounds_toArray, List.set_cons_zero, List.set_cons_succ]
  refine wpAnyH_done (by kernel_rfl) ?_ _
  exact HQ.out _ _ _ _ _ _ _ _ _ _ _ _ _ _ _ _ _ _ _ _ _ _ _ _ _ _ _ _ _ _ _ _ HB.out
set_option maxHeartbeats 16000000 in
set_option maxRecDepth 1000000 in
theorem faults12C (c0 c1 c2 c5 c6 c7 c8 c9 c10 c11 c12 c13 c14 c15 c16 c17 c18 c19 c20 c21 c22 c23 c24 c25 c26 c27 c28 c29 c30 c31 c32 c33 c34 c35 c36 c37 c38 c39 c40 c41 c42 c43 c44 c45 c46 c47 c48 c49 c50 c51 c52 c53 c54 c55 c56 c57 c58 c59 c60 c61 c62 c63 c64 c65 c66 c67 c68 c69 c70 c71 c72 c73 c74 c75 c76 c77 c78 c79 c80 c81 c82 c83 c84 c85 c86 c87 c88 c89 c90 c91 c92 c93 c94 c95 c96 c97 c98 c99 c100 c101 c102 c103 c104 c105 c106 c107 c108 c109 c110 c111 c112 c113 c114 c115 c116 c117 c118 c119 c120 c121 c122 c123 c124 c125 c126 c127 c128 c129 c130 c131 c132 c133 c134 c135 c136 c137 c138 c139 c140 c141 c142 c143 c144 c145 c146 c147 c148 c149 c150 c151 c152 c153 c154 c155 c156 c157 c158 c159 c160 c161 c162 c163 c164 c165 c166 c167 c168 c169 c170 c171 c172 c173 c174 c175 c176 c177 c178 c179 c180 c181 c182 c183 c184 c185 c186 c187 c188 c189 c190 c191 c192 c193 c194 c195 c196 c197 c198 c199 c200 c201 c202 c203 c204 : Value) (la : Option Addr) (lc D : Nat) (ps : List Pk) (pF : List UInt8)  (V wy : World)
    (HPj : Hid (∀ Z, PkgsOk Z la ps.length lc ps → Calls Tryz.prog 14 #[.slice la ps.length lc] Z fun e w' => e = .returned (.bool false) ∧ Below Z.heap.size Z w'))
    (HZ : Hid (∀ Z, Below V.heap.size V Z → (Z.cell? ⟨D, 0, none⟩ = some (.int .i64 (6)) ∧ Z.cell? ⟨D, 1, none⟩ = some (.string ⟨pF.toArray⟩) ∧ Z.cell? ⟨D, 2, none⟩ = some (.string ⟨[].toArray⟩)) ∧ PkgsOk Z la ps.length lc ps)) (HB : Hid (Below V.heap.size V wy))
    (Q : Exit → Act → World → Prop) (HQp : Hid (∀ (x : _) (a : Act) (d : Tmp) (v : Value) (w : World), Q (.panic x) (a.put (some d) v) w → Q (.panic x) a w)) (hQ : ∀ (u47 u48 u49 u50 u51 u52 u53 u54 u55 u56 u57 u58 u59 u60 u61 u62 u63 u64 u65 u66 u67 u68 u69 u70 u71 u72 u73 u74 u75 u76 u77 : Value) (w' : World), Below V.heap.size V w' → Q .normal ⟨#[c0, c1, .bool true, .slice la ps.length lc, .pointer (some ⟨D, 0, none⟩), c5, c6, c7, c8, c9, c10, c11, c12, c13, c14, c15, c16, c17, c18, c19, c20, c21, c22, c23, c24, c25, c26, c27, c28, c29, c30, c31, c32, c33, c34, c35, c36, c37, c38, c39, c40, c41, c42, c43, c44, c45, c46, u47, u48, u49, u50, u51, u52, u53, u54, u55, u56, u57, u58, u59, u60, u61, u62, u63, u64, u65, u66, u67, u68, u69, u70, u71, u72, u73, u74, u75, u76, u77, c78, c79, c80, c81, c82, c83, c84, c85, c86, c87, c88, c89, c90, c91, c92, c93, c94, c95, c96, c97, c98, c99, c100, c101, c102, c103, c104, c105, c106, c107, c108, c109, c110, c111, c112, c113, c114, c115, c116, c117, c118, c119, c120, c121, c122, c123, c124, c125, c126, c127, c128, c129, c130, c131, c132, c133, c134, c135, c136, c137, c138, c139, c140, c141, c142, c143, c144, c145, c146, c147, c148, c149, c150, c151, c152, c153, c154, c155, c156, c157, c158, c159, c160, c161, c162, c163, c164, c165, c166, c167, c168, c169, c170, c171, c172, c173, c174, c175, c176, c177, c178, c179, c180, c181, c182, c183, c184, c185, c186, c187, c188, c189, c190, c191, c192, c193, c194, c195, c196, c197, c198, c199, c200, c201, c202, c203, c204], []⟩ w') :
    Code.wp Tryz.prog faults12 Q ⟨#[c0, c1, c2, .slice la ps.length lc, .pointer (some ⟨D, 0, none⟩), c5, c6, c7, c8, c9, c10, c11, c12, c13, c14, c15, c16, c17, c18, c19, c20, c21, c22, c23, c24, c25, c26, c27, c28, c29, c30, c31, c32, c33, c34, c35, c36, c37, c38, c39, c40, c41, c42, c43, c44, c45, c46, c47, c48, c49, c50, c51, c52, c53, c54, c55, c56, c57, c58, c59, c60, c61, c62, c63, c64, c65, c66, c67, c68, c69, c70, c71, c72, c73, c74, c75, c76, c77, c78, c79, c80, c81, c82, c83, c84, c85, c86, c87, c88, c89, c90, c91, c92, c93, c94, c95, c96, c97, c98, c99, c100, c101, c102, c103, c104, c105, c106, c107, c108, c109, c110, c111, c112, c113, c114, c115, c116, c117, c118, c119, c120, c121, c122, c123, c124, c125, c126, c127, c128, c129, c130, c131, c132, c133, c134, c135, c136, c137, c138, c139, c140, c141, c142, c143, c144, c145, c146, c147, c148, c149, c150, c151, c152, c153, c154, c155, c156, c157, c158, c159, c160, c161, c162, c163, c164, c165, c166, c167, c168, c169, c170, c171, c172, c173, c174, c175, c176, c177, c178, c179, c180, c181, c182, c183, c184, c185, c186, c187, c188, c189, c190, c191, c192, c193, c194, c195, c196, c197, c198, c199, c200, c201, c202, c203, c204], []⟩ wy := by
  have HQ : Hid (_) := hQ
  clear hQ
  obtain ⟨⟨d0, d1, d2⟩, hok7⟩ := HZ.out wy HB.out
  conv => arg 2; whnf
  refine wp_region_held_drew (S := (fun w' => w'.cell? ⟨D, 0, none⟩ = some (.int .i64 (6)) ∧ w'.cell? ⟨D, 1, none⟩ = some (.string ⟨pF.toArray⟩) ∧ w'.cell? ⟨D, 2, none⟩ = some (.string ⟨[].toArray⟩))) (by kernel_rfl) ?_ (fun hHeld => ?_)
  · first | (dsimp only; done) | (dsimp only; go_keep) | go_keep
  replace HB : Hid (Below V.heap.size V wy.drew) := HB.out.trans ⟨rfl, rfl, rfl, Nat.le_refl _, fun _ _ => rfl⟩
  replace hok7 := (HZ.out _ HB.out).2
  refine wpAnyH_take (i := 0) (oi := ⟨some 47, _, _, _, _, _⟩) (v := ?vwC0) rfl (by kernel_rfl) (by kernel_rfl) (by kernel_rfl) (fun _ _ _ h => HQp.out _ _ _ _ _ h) (Or.inl ⟨by rfl, ?hywC0⟩) (by assumption) ?restwC0
  case hywC0 => (intro wq hSw; (try dsimp only at hSw); first | (go_simp; done) | (go_simp; with_reducible rfl))
  simp only [Act.put, List.setIfInBounds_toArray, List.set_cons_zero, List.set_cons_succ]
  refine wpAnyH_take (i := 1) (oi := ⟨some 48, _, _, _, _, _⟩) (v := ?vwC1) rfl (by kernel_rfl) (by kernel_rfl) (by kernel_rfl) (fun _ _ _ h => HQp.out _ _ _ _ _ h) (Or.inl ⟨by rfl, ?hywC1⟩) (by assumption) ?restwC1
  case hywC1 => (intro wq hSw; (try dsimp only at hSw); first | (go_simp; done) | (go_simp; with_reducible rfl))
  simp only [Act.put, List.setIfInBounds_toArray, List.set_cons_zero, List.set_cons_succ]
  refine wpAnyH_take (i := 2) (oi := ⟨some 49, _, _, _, _, _⟩) (v := .bool true) rfl (by kernel_rfl) (by kernel_rfl) (by kernel_rfl) (fun _ _ _ h => HQp.out _ _ _ _ _ h) (Or.inl ⟨by rfl, ?hywC2⟩) (by assumption) ?restwC2
  case hywC2 => (intro wq hSw; (try dsimp only at hSw); go_simp; (first | done | (simp; done) | omega | (simp; omega) | simp_all))
  simp only [Act.put, List.setIfInBounds_toArray, List.set_cons_zero, List.set_cons_succ]
  refine wpAnyH_take (i := 3) (oi := ⟨some 50, _, _, _, _, _⟩) (v := ?vwC3) rfl (by kernel_rfl) (by kernel_rfl) (by kernel_rfl) (fun _ _ _ h => HQp.out _ _ _ _ _ h) (Or.inl ⟨by rfl, ?hywC3⟩) (by assumption) ?restwC3
  case hywC3 => (intro wq hSw; (try dsimp only at hSw); first | (go_simp; done) | (go_simp; with_reducible rfl))
  simp only [Act.put, List.setIfInBounds_toArray, List.set_cons_zero, List.set_cons_succ]
  refine wpAnyH_take (i := 4) (oi := ⟨some 51, _, _, _, _, _⟩) (v := ?vwC4) rfl (by kernel_rfl) (by kernel_rfl) (by kernel_rfl) (fun _ _ _ h => HQp.out _ _ _ _ _ h) (Or.inl ⟨by rfl, ?hywC4⟩) (by assumption) ?restwC4
  case hywC4 => (intro wq hSw; (try dsimp only at hSw); first | (go_simp; done) | (go_simp; with_reducible rfl))
  simp only [Act.put, List.setIfInBounds_toArray, List.set_cons_zero, List.set_cons_succ]
  refine wpAnyH_take (i := 5) (oi := ⟨some 52, _, _, _, _, _⟩) (v := ?vwC5) rfl (by kernel_rfl) (by kernel_rfl) (by kernel_rfl) (fun _ _ _ h => HQp.out _ _ _ _ _ h) (Or.inl ⟨by rfl, ?hywC5⟩) (by assumption) ?restwC5
  case hywC5 => (intro wq hSw; (try dsimp only at hSw); first | (go_simp; done) | (go_simp; with_reducible rfl))
  simp only [Act.put, List.setIfInBounds_toArray, List.set_cons_zero, List.set_cons_succ]
  refine wpAnyH_take (i := 6) (oi := ⟨some 53, _, _, _, _, _⟩) (v := .bool true) rfl (by kernel_rfl) (by kernel_rfl) (by kernel_rfl) (fun _ _ _ h => HQp.out _ _ _ _ _ h) (Or.inl ⟨by rfl, ?hywC6⟩) (by assumption) ?restwC6
  case hywC6 => (intro wq hSw; (try dsimp only at hSw); go_simp; (first | done | (simp; done) | omega | (simp; omega) | simp_all))
  simp only [Act.put, List.setIfInBounds_toArray, List.set_cons_zero, List.set_cons_succ]
  refine wpAnyH_take (i := 7) (oi := ⟨some 54, _, _, _, _, _⟩) (v := .bool true) rfl (by kernel_rfl) (by kernel_rfl) (by kernel_rfl) (fun _ _ _ h => HQp.out _ _ _ _ _ h) (Or.inl ⟨by rfl, ?hywC7⟩) (by assumption) ?restwC7
  case hywC7 => (intro wq hSw; (try dsimp only at hSw); go_simp; (first | done | (simp; done) | omega | (simp; omega) | simp_all))
  simp only [Act.put, List.setIfInBounds_toArray, List.set_cons_zero, List.set_cons_succ]
  refine wpAnyH_take (i := 8) (oi := ⟨some 55, _, _, _, _, _⟩) (v := ?vwC8) rfl (by kernel_rfl) (by kernel_rfl) (by kernel_rfl) (fun _ _ _ h => HQp.out _ _ _ _ _ h) (Or.inl ⟨by rfl, ?hywC8⟩) (by assumption) ?restwC8
  case hywC8 => (intro wq hSw; (try dsimp only at hSw); first | (go_simp; done) | (go_simp; with_reducible rfl))
  simp only [Act.put, List.setIfInBounds_toArray, List.set_cons_zero, List.set_cons_succ]
  refine wpAnyH_take (i := 9) (oi := ⟨some 56, _, _, _, _, _⟩) (v := ?vwC9) rfl (by kernel_rfl) (by kernel_rfl) (by kernel_rfl) (fun _ _ _ h => HQp.out _ _ _ _ _ h) (Or.inl ⟨by rfl, ?hywC9⟩) (by assumption) ?restwC9
  case hywC9 => (intro wq hSw; (try dsimp only at hSw); first | (go_simp; done) | (go_simp; with_reducible rfl))
  simp only [Act.put, List.setIfInBounds_toArray, List.set_cons_zero, List.set_cons_succ]
  refine wpAnyH_take (i := 10) (oi := ⟨some 57, _, _, _, _, _⟩) (v := ?vwC10) rfl (by kernel_rfl) (by kernel_rfl) (by kernel_rfl) (fun _ _ _ h => HQp.out _ _ _ _ _ h) (Or.inl ⟨by rfl, ?hywC10⟩) (by assumption) ?restwC10
  case hywC10 => (intro wq hSw; (try dsimp only at hSw); first | (go_simp; done) | (go_simp; with_reducible rfl))
  simp only [Act.put, List.setIfInBounds_toArray, List.set_cons_zero, List.set_cons_succ]
  refine wpAnyH_take (i := 11) (oi := ⟨some 58, _, _, _, _, _⟩) (v := .bool true) rfl (by kernel_rfl) (by kernel_rfl) (by kernel_rfl) (fun _ _ _ h => HQp.out _ _ _ _ _ h) (Or.inl ⟨by rfl, ?hywC11⟩) (by assumption) ?restwC11
  case hywC11 => (intro wq hSw; (try dsimp only at hSw); go_simp; (first | done | (simp; done) | omega | (simp; omega) | simp_all))
  simp only [Act.put, List.setIfInBounds_toArray, List.set_cons_zero, List.set_cons_succ]
  refine wpAnyH_take (i := 12) (oi := ⟨some 59, _, _, _, _, _⟩) (v := ?vwC12) rfl (by kernel_rfl) (by kernel_rfl) (by kernel_rfl) (fun _ _ _ h => HQp.out _ _ _ _ _ h) (Or.inl ⟨by rfl, ?hywC12⟩) (by assumption) ?restwC12
  case hywC12 => (intro wq hSw; (try dsimp only at hSw); first | (go_simp; done) | (go_simp; with_reducible rfl))
  simp only [Act.put, List.setIfInBounds_toArray, List.set_cons_zero, List.set_cons_succ]
  refine wpAnyH_ready (rs := [13]) (by kernel_rfl) (by simp) ?_
  refine AllReadyH.cons rfl (fun K hK => ?_) AllReadyH.nil
  go_simp
  (go_at_call 14; refine Calls.mono (HPj.out _ hok7) ?_; rintro e wn ⟨rfl, hbn⟩; replace HB : Hid (Below V.heap.size V wn) := HB.out.trans (hbn.mono HB.out.size); clear d0 d1 d2; obtain ⟨⟨d0, d1, d2⟩, -⟩ := HZ.out wn HB.out; clear hbn)
  refine hK.out _ _ ?_ (fun hHeld => ?_)
  · first | (dsimp only; done) | (dsimp only; go_keep) | go_keep
  clear hK K
  refine wpAnyH_take (i := 14) (oi := ⟨some 61, _, _, _, _, _⟩) (v := .bool true) rfl (by kernel_rfl) (by kernel_rfl) (by kernel_rfl) (fun _ _ _ h => HQp.out _ _ _ _ _ h) (Or.inl ⟨by rfl, ?hywC14⟩) (by assumption) ?restwC14
  case hywC14 => (intro wq hSw; (try dsimp only at hSw); go_simp; (first | done | (simp; done) | omega | (simp; omega) | simp_all))
  simp only [Act.put, List.setIfInBounds_toArray, List.set_cons_zero, List.set_cons_succ]
  refine wpAnyH_take (i := 15) (oi := ⟨some 62, _, _, _, _, _⟩) (v := .bool true) rfl (by kernel_rfl) (by kernel_rfl) (by kernel_rfl) (fun _ _ _ h => HQp.out _ _ _ _ _ h) (Or.inl ⟨by rfl, ?hywC15⟩) (by assumption) ?restwC15
  case hywC15 => (intro wq hSw; (try dsimp only at hSw); go_simp; (first | done | (simp; done) | omega | (simp; omega) | simp_all))
  simp only [Act.put, List.setIfInBounds_toArray, List.set_cons_zero, List.set_cons_succ]
  refine wpAnyH_take (i := 16) (oi := ⟨some 63, _, _, _, _, _⟩) (v := .bool true) rfl (by kernel_rfl) (by kernel_rfl) (by kernel_rfl) (fun _ _ _ h => HQp.out _ _ _ _ _ h) (Or.inl ⟨by rfl, ?hywC16⟩) (by assumption) ?restwC16
  case hywC16 => (intro wq hSw; (try dsimp only at hSw); go_simp; (first | done | (simp; done) | omega | (simp; omega) | simp_all))
  simp only [Act.put, List.setIfInBounds_toArray, List.set_cons_zero, List.set_cons_succ]
  refine wpAnyH_take (i := 17) (oi := ⟨some 64, _, _, _, _, _⟩) (v := ?vwC17) rfl (by kernel_rfl) (by kernel_rfl) (by kernel_rfl) (fun _ _ _ h => HQp.out _ _ _ _ _ h) (Or.inl ⟨by rfl, ?hywC17⟩) (by assumption) ?restwC17
  case hywC17 => (intro wq hSw; (try dsimp only at hSw); first | (go_simp; done) | (go_simp; with_reducible rfl))
  simp only [Act.put, List.setIfInBounds_toArray, List.set_cons_zero, List.set_cons_succ]
  refine wpAnyH_take (i := 18) (oi := ⟨some 65, _, _, _, _, _⟩) (v := ?vwC18) rfl (by kernel_rfl) (by kernel_rfl) (by kernel_rfl) (fun _ _ _ h => HQp.out _ _ _ _ _ h) (Or.inl ⟨by rfl, ?hywC18⟩) (by assumption) ?restwC18
  case hywC18 => (intro wq hSw; (try dsimp only at hSw); first | (go_simp; done) | (go_simp; with_reducible rfl))
  simp only [Act.put, List.setIfInBounds_toArray, List.set_cons_zero, List.set_cons_succ]
  refine wpAnyH_take (i := 19) (oi := ⟨some 66, _, _, _, _, _⟩) (v := ?vwC19) rfl (by kernel_rfl) (by kernel_rfl) (by kernel_rfl) (fun _ _ _ h => HQp.out _ _ _ _ _ h) (Or.inl ⟨by rfl, ?hywC19⟩) (by assumption) ?restwC19
  case hywC19 => (intro wq hSw; (try dsimp only at hSw); first | (go_simp; done) | (go_simp; with_reducible rfl))
  simp only [Act.put, List.setIfInBounds_toArray, List.set_cons_zero, List.set_cons_succ]
  refine wpAnyH_take (i := 20) (oi := ⟨some 67, _, _, _, _, _⟩) (v := .bool false) rfl (by kernel_rfl) (by kernel_rfl) (by kernel_rfl) (fun _ _ _ h => HQp.out _ _ _ _ _ h) (Or.inl ⟨by rfl, ?hywC20⟩) (by assumption) ?restwC20
  case hywC20 => (intro wq hSw; (try dsimp only at hSw); go_simp; (first | done | (simp; done) | omega | (simp; omega) | simp_all))
  simp only [Act.put, List.setIfInBounds_toArray, List.set_cons_zero, List.set_cons_succ]
  refine wpAnyH_take (i := 21) (oi := ⟨some 68, _, _, _, _, _⟩) (v := ?vwC21) rfl (by kernel_rfl) (by kernel_rfl) (by kernel_rfl) (fun _ _ _ h => HQp.out _ _ _ _ _ h) (Or.inl ⟨by rfl, ?hywC21⟩) (by assumption) ?restwC21
  case hywC21 => (intro wq hSw; (try dsimp only at hSw); first | (go_simp; done) | (go_simp; with_reducible rfl))
  simp only [Act.put, List.setIfInBounds_toArray, List.set_cons_zero, List.set_cons_succ]
  refine wpAnyH_take (i := 22) (oi := ⟨some 69, _, _, _, _, _⟩) (v := ?vwC22) rfl (by kernel_rfl) (by kernel_rfl) (by kernel_rfl) (fun _ _ _ h => HQp.out _ _ _ _ _ h) (Or.inl ⟨by rfl, ?hywC22⟩) (by assumption) ?restwC22
  case hywC22 => (intro wq hSw; (try dsimp only at hSw); first | (go_simp; done) | (go_simp; with_reducible rfl))
  simp only [Act.put, List.setIfInBounds_toArray, List.set_cons_zero, List.set_cons_succ]
  refine wpAnyH_take (i := 23) (oi := ⟨some 70, _, _, _, _, _⟩) (v := .bool true) rfl (by kernel_rfl) (by kernel_rfl) (by kernel_rfl) (fun _ _ _ h => HQp.out _ _ _ _ _ h) (Or.inl ⟨by rfl, ?hywC23⟩) (by assumption) ?restwC23
  case hywC23 => (intro wq hSw; (try dsimp only at hSw); go_simp; (first | done | (simp; done) | omega | (simp; omega) | simp_all))
  simp only [Act.put, List.setIfInBounds_toArray, List.set_cons_zero, List.set_cons_succ]
  refine wpAnyH_take (i := 24) (oi := ⟨some 71, _, _, _, _, _⟩) (v := ?vwC24) rfl (by kernel_rfl) (by kernel_rfl) (by kernel_rfl) (fun _ _ _ h => HQp.out _ _ _ _ _ h) (Or.inl ⟨by rfl, ?hywC24⟩) (by assumption) ?restwC24
  case hywC24 => (intro wq hSw; (try dsimp only at hSw); first | (go_simp; done) | (go_simp; with_reducible rfl))
  simp only [Act.put, List.setIfInBounds_toArray, List.set_cons_zero, List.set_cons_succ]
  refine wpAnyH_take (i := 25) (oi := ⟨some 72, _, _, _, _, _⟩) (v := ?vwC25) rfl (by kernel_rfl) (by kernel_rfl) (by kernel_rfl) (fun _ _ _ h => HQp.out _ _ _ _ _ h) (Or.inl ⟨by rfl, ?hywC25⟩) (by assumption) ?restwC25
  case hywC25 => (intro wq hSw; (try dsimp only at hSw); first | (go_simp; done) | (go_simp; with_reducible rfl))
  simp only [Act.put, List.setIfInBounds_toArray, List.set_cons_zero, List.set_cons_succ]
  refine wpAnyH_take (i := 26) (oi := ⟨some 73, _, _, _, _, _⟩) (v := ?vwC26) rfl (by kernel_rfl) (by kernel_rfl) (by kernel_rfl) (fun _ _ _ h => HQp.out _ _ _ _ _ h) (Or.inl ⟨by rfl, ?hywC26⟩) (by assumption) ?restwC26
  case hywC26 => (intro wq hSw; (try dsimp only at hSw); first | (go_simp; done) | (go_simp; with_reducible rfl))
  simp only [Act.put, List.setIfInBounds_toArray, List.set_cons_zero, List.set_cons_succ]
  refine wpAnyH_take (i := 27) (oi := ⟨some 74, _, _, _, _, _⟩) (v := .bool false) rfl (by kernel_rfl) (by kernel_rfl) (by kernel_rfl) (fun _ _ _ h => HQp.out _ _ _ _ _ h) (Or.inl ⟨by rfl, ?hywC27⟩) (by assumption) ?restwC27
  case hywC27 => (intro wq hSw; (try dsimp only at hSw); go_simp; (first | done | (simp; done) | omega | (simp; omega) | simp_all))
  simp only [Act.put, List.setIfInBounds_toArray, List.set_cons_zero, List.set_cons_succ]
  refine wpAnyH_take (i := 28) (oi := ⟨some 75, _, _, _, _, _⟩) (v := .bool false) rfl (by kernel_rfl) (by kernel_rfl) (by kernel_rfl) (fun _ _ _ h => HQp.out _ _ _ _ _ h) (Or.inl ⟨by rfl, ?hywC28⟩) (by assumption) ?restwC28
  case hywC28 => (intro wq hSw; (try dsimp only at hSw); go_simp; (first | done | (simp; done) | omega | (simp; omega) | simp_all))
  simp only [Act.put, List.setIfInBounds_toArray, List.set_cons_zero, List.set_cons_succ]
  refine wpAnyH_take (i := 29) (oi := ⟨some 76, _, _, _, _, _⟩) (v := .bool true) rfl (by kernel_rfl) (by kernel_rfl) (by kernel_rfl) (fun _ _ _ h => HQp.out _ _ _ _ _ h) (Or.inl ⟨by rfl, ?hywC29⟩) (by assumption) ?restwC29
  case hywC29 => (intro wq hSw; (try dsimp only at hSw); go_simp; (first | done | (simp; done) | omega | (simp; omega) | simp_all))
  simp only [Act.put, List.setIfInBounds_toArray, List.set_cons_zero, List.set_cons_succ]
  refine wpAnyH_take (i := 30) (oi := ⟨some 77, _, _, _, _, _⟩) (v := .bool true) rfl (by kernel_rfl) (by kernel_rfl) (by kernel_rfl) (fun _ _ _ h => HQp.out _ _ _ _ _ h) (Or.inl ⟨by rfl, ?hywC30⟩) (by assumption) ?restwC30
  case hywC30 => (intro wq hSw; (try dsimp only at hSw); go_simp; (first | done | (simp; done) | omega | (simp; omega) | simp_all))
  simp only [Act.put, List.setIfInBounds_toArray, List.set_cons_zero, List.set_cons_succ]
  refine wpAnyH_take (i := 31) (oi := ⟨some 2, _, _, _, _, _⟩) (v := .bool true) rfl (by kernel_rfl) (by kernel_rfl) (by kernel_rfl) (fun _ _ _ h => HQp.out _ _ _ _ _ h) (Or.inl ⟨by rfl, ?hywC31⟩) (by assumption) ?restwC31
  case hywC31 => (intro wq hSw; (try dsimp only at hSw); go_simp; (first | done | (simp; done) | omega | (simp; omega) | simp_all))
  simp only [Act.put, List.setIfInBounds_toArray, List.set_cons_zero, List.set_cons_succ]
  refine wpAnyH_done (by kernel_rfl) ?_ _
  exact HQ.out _ _ _ _ _ _ _ _ _ _ _ _ _ _ _ _ _ _ _ _ _ _ _ _ _ _ _ _ _ _ _ _ HB.out

end Go.Proofs.YtdjglpcllcjcfaaGreatDoor
