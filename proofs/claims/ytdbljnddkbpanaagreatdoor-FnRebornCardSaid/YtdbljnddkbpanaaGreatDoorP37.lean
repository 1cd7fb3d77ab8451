/-
  Parts of one proof, one behind the other: TreeI2, TreeI3.
-/
import Derived.Test.YtdbljnddkbpanaaGreatDoorP36
import Derived.Laws.StructEq
import Derived.Deep.RegionHeld3
namespace Go.Proofs.YtdbljnddkbpanaaGreatDoor
open Go.RowKit
theorem zf2 (k a k2 a2:Int) (p f p2 f2:List UInt8) (w:World):(binOp .eql 103 (.agg #[.int .i64 k,.int .i64 a,.string ⟨p.toArray⟩,.string ⟨f.toArray⟩]) (.agg #[.int .i64 k2,.int .i64 a2,.string ⟨p2.toArray⟩,.string ⟨f2.toArray⟩])).run Tryz.prog w=.ok (.bool (decide (((k,a,p,f):Nd)=(k2,a2,p2,f2)))) w:=by
 rw [run_eql_struct]
 simp [go_sem]
 by_cases h1:k=k2
 ·
  by_cases h2:a=a2
  ·
   by_cases h3:p=p2
   ·
    by_cases h4:f=f2
    ·
     simp [h1,h2,h3,h4]
    ·
     simp [h1,h2,h3,h4]
   ·
    simp [h1,h2,h3]
  ·
   simp [h1,h2]
 ·
  simp [h1]
structure NdAt (W:World) (D:Nat) (k a:Int) (p f:List UInt8):Prop where
 c0:W.cell? ⟨D,0,none⟩=some (.int .i64 k)
 c1:W.cell? ⟨D,1,none⟩=some (.int .i64 a)
 c2:W.cell? ⟨D,2,none⟩=some (.string ⟨p.toArray⟩)
 c3:W.cell? ⟨D,3,none⟩=some (.string ⟨f.toArray⟩)
theorem NdAt.below {W W':World} {D:Nat} {k a:Int} {p f:List UInt8} (h:NdAt W D k a p f) (hb:Below W.heap.size W W'):NdAt W' D k a p f :=
 have hl:D<W.heap.size:=World.block_lt_of_cell? W ⟨D,0,none⟩ h.c0
 ⟨(hb.cell (p:=⟨D,0,none⟩) hl).trans h.c0,(hb.cell (p:=⟨D,1,none⟩) hl).trans h.c1,(hb.cell (p:=⟨D,2,none⟩) hl).trans h.c2,(hb.cell (p:=⟨D,3,none⟩) hl).trans h.c3⟩
theorem NdAt.drew {W:World} {D:Nat} {k a:Int} {p f:List UInt8} (h:NdAt W D k a p f):NdAt W.drew D k a p f:=⟨h.c0,h.c1,h.c2,h.c3⟩
theorem NdAt.new (w:World) (k a:Int) (p f:List UInt8):NdAt (w.alloc (.cells #[.int .i64 k,.int .i64 a,.string ⟨p.toArray⟩,.string ⟨f.toArray⟩] 103)) w.heap.size k a p f:=by
 have hA:=heap_alloc_new w (.cells #[.int .i64 k,.int .i64 a,.string ⟨p.toArray⟩,.string ⟨f.toArray⟩] 103)
 generalize w.alloc (.cells #[.int .i64 k,.int .i64 a,.string ⟨p.toArray⟩,.string ⟨f.toArray⟩] 103)=W at hA ⊢
 exact ⟨by simp [World.cell?,hA],by simp [World.cell?,hA],by simp [World.cell?,hA],by simp [World.cell?,hA]⟩
set_option maxHeartbeats 4000000 in
set_option maxRecDepth 100000 in
theorem zhA (k a:Int) (p f:List UInt8) (b:Int) (w:World) (e:shOf (k,a,p,f)=.num b) (hs:shOk (.num b)=true) :
 Calls Tryz.prog 187 #[za8 (k,a,p,f)] w fun e w'=>e=.returned (.bool (zaQ (k,a,p,f)))∧Below w.heap.size w w':=by
 have HN:Hid (zaQ (k,a,p,f)=(true && decide (zaN (.num b)=(k,a,p,f)))):=by exact (by rw [zdB,e,hs]:zaQ (k,a,p,f)=(true && decide (zaN (.num b)=(k,a,p,f))))
 have HC:=zbf (k,a,p,f)
 rw [e] at HC
 have HC2:Hid (_):=HC
 have HK:Hid (_):=fun W:World=>zbp (.num b) W (fun _ _ _ e=>by cases e)
 rw [hs] at HK
 have HV:Hid (_):=fun W:World=>node_num b W
 unfold za8 zaN at HV
 simp only at HV
 have hEq:=zf2
 clear HC hs e
 unfold za8 zbn at HC2
 unfold zbn at HK
 unfold za8
 simp only at HC2 HK ⊢
 obtain ⟨W0,hW0⟩:∃ W0,w.alloc (.cells #[.int .i64 k,.int .i64 a,.string ⟨p.toArray⟩,.string ⟨f.toArray⟩] 103)=W0:=⟨_,rfl⟩
 have st:=NdAt.new w k a p f
 have hB:Below w.heap.size w W0:=by rw [←hW0];exact (Below.refl _ w).alloc (Nat.le_refl _) _
 rw [hW0] at st
 obtain ⟨D,hD0⟩:∃ D,w.heap.size=D:=⟨_,rfl⟩
 rw [hD0] at st hB
 have hD:Hid (w.heap.size=D):=hD0
 have c0:=st.c0
 have c1:=st.c1
 have c2:=st.c2
 have c3:=st.c3
 go_enter Tryz.func187,Tryz.ntmps187
 go_wp2_with fail
 refine Calls.mono (HC2.out _) ?_
 rintro e wn ⟨rfl,hbn⟩
 replace hB:=hB.trans (hbn.mono (Nat.le_trans (Nat.le_of_eq hD.out.symm) hB.size));replace st:=st.below hbn;replace c0:=st.c0;replace c1:=st.c1;replace c2:=st.c2;replace c3:=st.c3;clear hbn
 go_wp2_with fail
 replace st:=st.drew
 replace hB:=hB.drew
 go_region_held3 (fun w'=>w'.cell? ⟨D,0,none⟩=some (.int .i64 k)∧w'.cell? ⟨D,1,none⟩=some (.int .i64 a)∧w'.cell? ⟨D,2,none⟩=some (.string ⟨p.toArray⟩)∧w'.cell? ⟨D,3,none⟩=some (.string ⟨f.toArray⟩)) (go_keep) (first | (go_at_call 190;refine Calls.mono (HK.out _) ?_;rintro e wn ⟨rfl,hbn⟩;replace hB:=hB.trans (hbn.mono (Nat.le_trans (Nat.le_of_eq hD.out.symm) hB.size));replace st:=st.below hbn;replace c0:=st.c0;replace c1:=st.c1;replace c2:=st.c2;replace c3:=st.c3;clear hbn) | (go_at_call 232;refine Calls.mono (HV.out _) ?_;rintro e wn ⟨rfl,hbn⟩;replace hB:=hB.trans (hbn.mono (Nat.le_trans (Nat.le_of_eq hD.out.symm) hB.size));replace st:=st.below hbn;replace c0:=st.c0;replace c1:=st.c1;replace c2:=st.c2;replace c3:=st.c3;clear hbn))
 go_wp2
 go_ret
 refine ⟨?_,by rw [hD.out];exact hB⟩
 rw [HN.out]
 simp [zaN,@eq_comm (List UInt8) [] p,@eq_comm (List UInt8) [] f]
set_option maxHeartbeats 4000000 in
set_option maxRecDepth 100000 in
theorem ziP (k a:Int) (p f:List UInt8) (b:Int) (w:World) (e:shOf (k,a,p,f)=.num b) (hs:shOk (.num b)=false) :
 Calls Tryz.prog 187 #[za8 (k,a,p,f)] w fun e w'=>e=.returned (.bool (zaQ (k,a,p,f)))∧Below w.heap.size w w':=by
 have HN:Hid (zaQ (k,a,p,f)=(false && decide (zaN (.num b)=(k,a,p,f)))):=by exact (by rw [zdB,e,hs]:zaQ (k,a,p,f)=(false && decide (zaN (.num b)=(k,a,p,f))))
 have HC:=zbf (k,a,p,f)
 rw [e] at HC
 have HC2:Hid (_):=HC
 have HK:Hid (_):=fun W:World=>zbp (.num b) W (fun _ _ _ e=>by cases e)
 rw [hs] at HK
 clear HC hs e
 unfold za8 zbn at HC2
 unfold zbn at HK
 unfold za8
 simp only at HC2 HK ⊢
 obtain ⟨W0,hW0⟩:∃ W0,w.alloc (.cells #[.int .i64 k,.int .i64 a,.string ⟨p.toArray⟩,.string ⟨f.toArray⟩] 103)=W0:=⟨_,rfl⟩
 have st:=NdAt.new w k a p f
 have hB:Below w.heap.size w W0:=by rw [←hW0];exact (Below.refl _ w).alloc (Nat.le_refl _) _
 rw [hW0] at st
 obtain ⟨D,hD0⟩:∃ D,w.heap.size=D:=⟨_,rfl⟩
 rw [hD0] at st hB
 have hD:Hid (w.heap.size=D):=hD0
 have c0:=st.c0
 have c1:=st.c1
 have c2:=st.c2
 have c3:=st.c3
 go_enter Tryz.func187,Tryz.ntmps187
 go_wp2_with fail
 refine Calls.mono (HC2.out _) ?_
 rintro e wn ⟨rfl,hbn⟩
 replace hB:=hB.trans (hbn.mono (Nat.le_trans (Nat.le_of_eq hD.out.symm) hB.size));replace st:=st.below hbn;replace c0:=st.c0;replace c1:=st.c1;replace c2:=st.c2;replace c3:=st.c3;clear hbn
 go_wp2_with fail
 replace st:=st.drew
 replace hB:=hB.drew
 refine wp_region_held_drew (S:=(fun _=>True)) (by kernel_rfl) ?_ (fun hHeld=>?_)
 ·
  exact True.intro
 refine tkO [(0,6)] ?_
 repeat (refine tkY ?_ rfl (by rfl) ?_ ?_;rotate_left;(focus (intro wq hSw;(try dsimp only at hSw);first | (go_simp;done) | (go_simp;with_reducible rfl)));simp only [zP])
 refine tkZ ?_
 refine zR 1 rfl (fun K hK=>?_)
 go_simp
 (go_at_call 190;refine Calls.mono (HK.out _) ?_;rintro e wn ⟨rfl,hbn⟩;replace hB:=hB.trans (hbn.mono (Nat.le_trans (Nat.le_of_eq hD.out.symm) hB.size));replace st:=st.below hbn;replace c0:=st.c0;replace c1:=st.c1;replace c2:=st.c2;replace c3:=st.c3;clear hbn)
 refine hK.out _ _ ?_ (fun hHeld=>?_)
 ·
  exact True.intro
 clear hK K
 refine tkO [(2,8),(3,9),(4,10),(5,11),(6,12),(7,13),(8,2)] ?_
 repeat ((first | (refine tkY ?_ rfl (by rfl) ?_ ?_;rotate_left;(focus (intro wq hSw;(try dsimp only at hSw);first | (go_simp;done) | (go_simp;with_reducible rfl)))) | refine tkN rfl (by rfl) ?_);simp only [zP])
 refine tkZ ?_
 refine wpAnyH_done (by kernel_rfl) ?_ _
 go_wp2
 go_ret
 refine ⟨?_,by rw [hD.out];exact hB⟩
 rw [HN.out]
 rfl
set_option maxHeartbeats 4000000 in
set_option maxRecDepth 100000 in
theorem zhC (k a:Int) (p f:List UInt8) (b:Int) (w:World) (e:shOf (k,a,p,f)=.arg b) (hs:shOk (.arg b)=true) :
 Calls Tryz.prog 187 #[za8 (k,a,p,f)] w fun e w'=>e=.returned (.bool (zaQ (k,a,p,f)))∧Below w.heap.size w w':=by
 have HN:Hid (zaQ (k,a,p,f)=(true && decide (zaN (.arg b)=(k,a,p,f)))):=by exact (by rw [zdB,e,hs]:zaQ (k,a,p,f)=(true && decide (zaN (.arg b)=(k,a,p,f))))
 have HC:=zbf (k,a,p,f)
 rw [e] at HC
 have HC2:Hid (_):=HC
 have HK:Hid (_):=fun W:World=>zbp (.arg b) W (fun _ _ _ e=>by cases e)
 rw [hs] at HK
 have HV:Hid (_):=fun W:World=>node_arg b W
 unfold za8 zaN at HV
 simp only at HV
 have hEq:=zf2
 clear HC hs e
 unfold za8 zbn at HC2
 unfold zbn at HK
 unfold za8
 simp only at HC2 HK ⊢
 obtain ⟨W0,hW0⟩:∃ W0,w.alloc (.cells #[.int .i64 k,.int .i64 a,.string ⟨p.toArray⟩,.string ⟨f.toArray⟩] 103)=W0:=⟨_,rfl⟩
 have st:=NdAt.new w k a p f
 have hB:Below w.heap.size w W0:=by rw [←hW0];exact (Below.refl _ w).alloc (Nat.le_refl _) _
 rw [hW0] at st
 obtain ⟨D,hD0⟩:∃ D,w.heap.size=D:=⟨_,rfl⟩
 rw [hD0] at st hB
 have hD:Hid (w.heap.size=D):=hD0
 have c0:=st.c0
 have c1:=st.c1
 have c2:=st.c2
 have c3:=st.c3
 go_enter Tryz.func187,Tryz.ntmps187
 go_wp2_with fail
 refine Calls.mono (HC2.out _) ?_
 rintro e wn ⟨rfl,hbn⟩
 replace hB:=hB.trans (hbn.mono (Nat.le_trans (Nat.le_of_eq hD.out.symm) hB.size));replace st:=st.below hbn;replace c0:=st.c0;replace c1:=st.c1;replace c2:=st.c2;replace c3:=st.c3;clear hbn
 go_wp2_with fail
 replace st:=st.drew
 replace hB:=hB.drew
 go_region_held3 (fun w'=>w'.cell? ⟨D,0,none⟩=some (.int .i64 k)∧w'.cell? ⟨D,1,none⟩=some (.int .i64 a)∧w'.cell? ⟨D,2,none⟩=some (.string ⟨p.toArray⟩)∧w'.cell? ⟨D,3,none⟩=some (.string ⟨f.toArray⟩)) (go_keep) (first | (go_at_call 190;refine Calls.mono (HK.out _) ?_;rintro e wn ⟨rfl,hbn⟩;replace hB:=hB.trans (hbn.mono (Nat.le_trans (Nat.le_of_eq hD.out.symm) hB.size));replace st:=st.below hbn;replace c0:=st.c0;replace c1:=st.c1;replace c2:=st.c2;replace c3:=st.c3;clear hbn) | (go_at_call 233;refine Calls.mono (HV.out _) ?_;rintro e wn ⟨rfl,hbn⟩;replace hB:=hB.trans (hbn.mono (Nat.le_trans (Nat.le_of_eq hD.out.symm) hB.size));replace st:=st.below hbn;replace c0:=st.c0;replace c1:=st.c1;replace c2:=st.c2;replace c3:=st.c3;clear hbn))
 go_wp2
 go_ret
 refine ⟨?_,by rw [hD.out];exact hB⟩
 rw [HN.out]
 simp [zaN,@eq_comm (List UInt8) [] p,@eq_comm (List UInt8) [] f]
set_option maxHeartbeats 4000000 in
set_option maxRecDepth 100000 in
theorem ziQ (k a:Int) (p f:List UInt8) (b:Int) (w:World) (e:shOf (k,a,p,f)=.arg b) (hs:shOk (.arg b)=false) :
 Calls Tryz.prog 187 #[za8 (k,a,p,f)] w fun e w'=>e=.returned (.bool (zaQ (k,a,p,f)))∧Below w.heap.size w w':=by
 have HN:Hid (zaQ (k,a,p,f)=(false && decide (zaN (.arg b)=(k,a,p,f)))):=by exact (by rw [zdB,e,hs]:zaQ (k,a,p,f)=(false && decide (zaN (.arg b)=(k,a,p,f))))
 have HC:=zbf (k,a,p,f)
 rw [e] at HC
 have HC2:Hid (_):=HC
 have HK:Hid (_):=fun W:World=>zbp (.arg b) W (fun _ _ _ e=>by cases e)
 rw [hs] at HK
 clear HC hs e
 unfold za8 zbn at HC2
 unfold zbn at HK
 unfold za8
 simp only at HC2 HK ⊢
 obtain ⟨W0,hW0⟩:∃ W0,w.alloc (.cells #[.int .i64 k,.int .i64 a,.string ⟨p.toArray⟩,.string ⟨f.toArray⟩] 103)=W0:=⟨_,rfl⟩
 have st:=NdAt.new w k a p f
 have hB:Below w.heap.size w W0:=by rw [←hW0];exact (Below.refl _ w).alloc (Nat.le_refl _) _
 rw [hW0] at st
 obtain ⟨D,hD0⟩:∃ D,w.heap.size=D:=⟨_,rfl⟩
 rw [hD0] at st hB
 have hD:Hid (w.heap.size=D):=hD0
 have c0:=st.c0
 have c1:=st.c1
 have c2:=st.c2
 have c3:=st.c3
 go_enter Tryz.func187,Tryz.ntmps187
 go_wp2_with fail
 refine Calls.mono (HC2.out _) ?_
 rintro e wn ⟨rfl,hbn⟩
 replace hB:=hB.trans (hbn.mono (Nat.le_trans (Nat.le_of_eq hD.out.symm) hB.size));replace st:=st.below hbn;replace c0:=st.c0;replace c1:=st.c1;replace c2:=st.c2;replace c3:=st.c3;clear hbn
 go_wp2_with fail
 replace st:=st.drew
 replace hB:=hB.drew
 refine wp_region_held_drew (S:=(fun _=>True)) (by kernel_rfl) ?_ (fun hHeld=>?_)
 ·
  exact True.intro
 refine tkO [(0,6)] ?_
 repeat (refine tkY ?_ rfl (by rfl) ?_ ?_;rotate_left;(focus (intro wq hSw;(try dsimp only at hSw);first | (go_simp;done) | (go_simp;with_reducible rfl)));simp only [zP])
 refine tkZ ?_
 refine zR 1 rfl (fun K hK=>?_)
 go_simp
 (go_at_call 190;refine Calls.mono (HK.out _) ?_;rintro e wn ⟨rfl,hbn⟩;replace hB:=hB.trans (hbn.mono (Nat.le_trans (Nat.le_of_eq hD.out.symm) hB.size));replace st:=st.below hbn;replace c0:=st.c0;replace c1:=st.c1;replace c2:=st.c2;replace c3:=st.c3;clear hbn)
 refine hK.out _ _ ?_ (fun hHeld=>?_)
 ·
  exact True.intro
 clear hK K
 refine tkO [(2,8),(3,9),(4,10),(5,11),(6,12),(7,13),(8,2)] ?_
 repeat ((first | (refine tkY ?_ rfl (by rfl) ?_ ?_;rotate_left;(focus (intro wq hSw;(try dsimp only at hSw);first | (go_simp;done) | (go_simp;with_reducible rfl)))) | refine tkN rfl (by rfl) ?_);simp only [zP])
 refine tkZ ?_
 refine wpAnyH_done (by kernel_rfl) ?_ _
 go_wp2
 go_ret
 refine ⟨?_,by rw [hD.out];exact hB⟩
 rw [HN.out]
 rfl
set_option maxHeartbeats 4000000 in
set_option maxRecDepth 100000 in
theorem zgI (k a:Int) (p f:List UInt8) (b:Int) (w:World) (e:shOf (k,a,p,f)=.pair b) (hs:shOk (.pair b)=true) :
 Calls Tryz.prog 187 #[za8 (k,a,p,f)] w fun e w'=>e=.returned (.bool (zaQ (k,a,p,f)))∧Below w.heap.size w w':=by
 have HN:Hid (zaQ (k,a,p,f)=(true && decide (zaN (.pair b)=(k,a,p,f)))):=by exact (by rw [zdB,e,hs]:zaQ (k,a,p,f)=(true && decide (zaN (.pair b)=(k,a,p,f))))
 have HC:=zbf (k,a,p,f)
 rw [e] at HC
 have HC2:Hid (_):=HC
 have HK:Hid (_):=fun W:World=>zbp (.pair b) W (fun _ _ _ e=>by cases e)
 rw [hs] at HK
 have HV:Hid (_):=fun W:World=>zoJ b W
 unfold za8 zaN at HV
 simp only at HV
 have hEq:=zf2
 clear HC hs e
 unfold za8 zbn at HC2
 unfold zbn at HK
 unfold za8
 simp only at HC2 HK ⊢
 obtain ⟨W0,hW0⟩:∃ W0,w.alloc (.cells #[.int .i64 k,.int .i64 a,.string ⟨p.toArray⟩,.string ⟨f.toArray⟩] 103)=W0:=⟨_,rfl⟩
 have st:=NdAt.new w k a p f
 have hB:Below w.heap.size w W0:=by rw [←hW0];exact (Below.refl _ w).alloc (Nat.le_refl _) _
 rw [hW0] at st
 obtain ⟨D,hD0⟩:∃ D,w.heap.size=D:=⟨_,rfl⟩
 rw [hD0] at st hB
 have hD:Hid (w.heap.size=D):=hD0
 have c0:=st.c0
 have c1:=st.c1
 have c2:=st.c2
 have c3:=st.c3
 go_enter Tryz.func187,Tryz.ntmps187
 go_wp2_with fail
 refine Calls.mono (HC2.out _) ?_
 rintro e wn ⟨rfl,hbn⟩
 replace hB:=hB.trans (hbn.mono (Nat.le_trans (Nat.le_of_eq hD.out.symm) hB.size));replace st:=st.below hbn;replace c0:=st.c0;replace c1:=st.c1;replace c2:=st.c2;replace c3:=st.c3;clear hbn
 go_wp2_with fail
 replace st:=st.drew
 replace hB:=hB.drew
 go_region_held3 (fun w'=>w'.cell? ⟨D,0,none⟩=some (.int .i64 k)∧w'.cell? ⟨D,1,none⟩=some (.int .i64 a)∧w'.cell? ⟨D,2,none⟩=some (.string ⟨p.toArray⟩)∧w'.cell? ⟨D,3,none⟩=some (.string ⟨f.toArray⟩)) (go_keep) (first | (go_at_call 190;refine Calls.mono (HK.out _) ?_;rintro e wn ⟨rfl,hbn⟩;replace hB:=hB.trans (hbn.mono (Nat.le_trans (Nat.le_of_eq hD.out.symm) hB.size));replace st:=st.below hbn;replace c0:=st.c0;replace c1:=st.c1;replace c2:=st.c2;replace c3:=st.c3;clear hbn) | (go_at_call 234;refine Calls.mono (HV.out _) ?_;rintro e wn ⟨rfl,hbn⟩;replace hB:=hB.trans (hbn.mono (Nat.le_trans (Nat.le_of_eq hD.out.symm) hB.size));replace st:=st.below hbn;replace c0:=st.c0;replace c1:=st.c1;replace c2:=st.c2;replace c3:=st.c3;clear hbn))
 go_wp2
 go_ret
 refine ⟨?_,by rw [hD.out];exact hB⟩
 rw [HN.out]
 simp [zaN,@eq_comm (List UInt8) [] p,@eq_comm (List UInt8) [] f]
set_option maxHeartbeats 4000000 in
set_option maxRecDepth 100000 in
theorem zgJ (k a:Int) (p f:List UInt8)  (w:World) (e:shOf (k,a,p,f)=.cond) (hs:shOk (.cond)=true) :
 Calls Tryz.prog 187 #[za8 (k,a,p,f)] w fun e w'=>e=.returned (.bool (zaQ (k,a,p,f)))∧Below w.heap.size w w':=by
 have HN:Hid (zaQ (k,a,p,f)=(true && decide (zaN (.cond)=(k,a,p,f)))):=by exact (by rw [zdB,e,hs]:zaQ (k,a,p,f)=(true && decide (zaN (.cond)=(k,a,p,f))))
 have HC:=zbf (k,a,p,f)
 rw [e] at HC
 have HC2:Hid (_):=HC
 have HK:Hid (_):=fun W:World=>zbp (.cond) W (fun _ _ _ e=>by cases e)
 rw [hs] at HK
 have HV:Hid (_):=fun W:World=>zoK  W
 unfold za8 zaN at HV
 simp only at HV
 have hEq:=zf2
 clear HC hs e
 unfold za8 zbn at HC2
 unfold zbn at HK
 unfold za8
 simp only at HC2 HK ⊢
 obtain ⟨W0,hW0⟩:∃ W0,w.alloc (.cells #[.int .i64 k,.int .i64 a,.string ⟨p.toArray⟩,.string ⟨f.toArray⟩] 103)=W0:=⟨_,rfl⟩
 have st:=NdAt.new w k a p f
 have hB:Below w.heap.size w W0:=by rw [←hW0];exact (Below.refl _ w).alloc (Nat.le_refl _) _
 rw [hW0] at st
 obtain ⟨D,hD0⟩:∃ D,w.heap.size=D:=⟨_,rfl⟩
 rw [hD0] at st hB
 have hD:Hid (w.heap.size=D):=hD0
 have c0:=st.c0
 have c1:=st.c1
 have c2:=st.c2
 have c3:=st.c3
 go_enter Tryz.func187,Tryz.ntmps187
 go_wp2_with fail
 refine Calls.mono (HC2.out _) ?_
 rintro e wn ⟨rfl,hbn⟩
 replace hB:=hB.trans (hbn.mono (Nat.le_trans (Nat.le_of_eq hD.out.symm) hB.size));replace st:=st.below hbn;replace c0:=st.c0;replace c1:=st.c1;replace c2:=st.c2;replace c3:=st.c3;clear hbn
 go_wp2_with fail
 replace st:=st.drew
 replace hB:=hB.drew
 go_region_held3 (fun w'=>w'.cell? ⟨D,0,none⟩=some (.int .i64 k)∧w'.cell? ⟨D,1,none⟩=some (.int .i64 a)∧w'.cell? ⟨D,2,none⟩=some (.string ⟨p.toArray⟩)∧w'.cell? ⟨D,3,none⟩=some (.string ⟨f.toArray⟩)) (go_keep) (first | (go_at_call 190;refine Calls.mono (HK.out _) ?_;rintro e wn ⟨rfl,hbn⟩;replace hB:=hB.trans (hbn.mono (Nat.le_trans (Nat.le_of_eq hD.out.symm) hB.size));replace st:=st.below hbn;replace c0:=st.c0;replace c1:=st.c1;replace c2:=st.c2;replace c3:=st.c3;clear hbn) | (go_at_call 235;refine Calls.mono (HV.out _) ?_;rintro e wn ⟨rfl,hbn⟩;replace hB:=hB.trans (hbn.mono (Nat.le_trans (Nat.le_of_eq hD.out.symm) hB.size));replace st:=st.below hbn;replace c0:=st.c0;replace c1:=st.c1;replace c2:=st.c2;replace c3:=st.c3;clear hbn))
 go_wp2
 go_ret
 refine ⟨?_,by rw [hD.out];exact hB⟩
 rw [HN.out]
 simp [zaN,@eq_comm (List UInt8) [] p,@eq_comm (List UInt8) [] f]
set_option maxHeartbeats 4000000 in
set_option maxRecDepth 100000 in
theorem zgK (k a:Int) (p f:List UInt8) (q:List UInt8) (g:List UInt8) (b:Int) (w:World) (e:shOf (k,a,p,f)=.call q g b) (hs:shOk (.call q g b)=true) (hq:q.length≤1048576) (hg:g.length≤1048576) :
 Calls Tryz.prog 187 #[za8 (k,a,p,f)] w fun e w'=>e=.returned (.bool (zaQ (k,a,p,f)))∧Below w.heap.size w w':=by
 have HN:Hid (zaQ (k,a,p,f)=(true && decide (zaN (.call q g b)=(k,a,p,f)))):=by exact (by rw [zdB,e,hs]:zaQ (k,a,p,f)=(true && decide (zaN (.call q g b)=(k,a,p,f))))
 have HC:=zbf (k,a,p,f)
 rw [e] at HC
 have HC2:Hid (_):=HC
 have HK:Hid (_):=fun W:World=>zbp (.call q g b) W (fun _ _ _ e=>by injection e with e1 e2;subst e1;subst e2;exact ⟨hq,hg⟩)
 rw [hs] at HK
 have HV:Hid (_):=fun W:World=>zoL q g b W
 unfold za8 zaN at HV
 simp only at HV
 have hEq:=zf2
 clear HC hs e
 unfold za8 zbn at HC2
 unfold zbn at HK
 unfold za8
 simp only at HC2 HK ⊢
 obtain ⟨W0,hW0⟩:∃ W0,w.alloc (.cells #[.int .i64 k,.int .i64 a,.string ⟨p.toArray⟩,.string ⟨f.toArray⟩] 103)=W0:=⟨_,rfl⟩
 have st:=NdAt.new w k a p f
 have hB:Below w.heap.size w W0:=by rw [←hW0];exact (Below.refl _ w).alloc (Nat.le_refl _) _
 rw [hW0] at st
 obtain ⟨D,hD0⟩:∃ D,w.heap.size=D:=⟨_,rfl⟩
 rw [hD0] at st hB
 have hD:Hid (w.heap.size=D):=hD0
 have c0:=st.c0
 have c1:=st.c1
 have c2:=st.c2
 have c3:=st.c3
 go_enter Tryz.func187,Tryz.ntmps187
 go_wp2_with fail
 refine Calls.mono (HC2.out _) ?_
 rintro e wn ⟨rfl,hbn⟩
 replace hB:=hB.trans (hbn.mono (Nat.le_trans (Nat.le_of_eq hD.out.symm) hB.size));replace st:=st.below hbn;replace c0:=st.c0;replace c1:=st.c1;replace c2:=st.c2;replace c3:=st.c3;clear hbn
 go_wp2_with fail
 replace st:=st.drew
 replace hB:=hB.drew
 go_region_held3 (fun w'=>w'.cell? ⟨D,0,none⟩=some (.int .i64 k)∧w'.cell? ⟨D,1,none⟩=some (.int .i64 a)∧w'.cell? ⟨D,2,none⟩=some (.string ⟨p.toArray⟩)∧w'.cell? ⟨D,3,none⟩=some (.string ⟨f.toArray⟩)) (go_keep) (first | (go_at_call 190;refine Calls.mono (HK.out _) ?_;rintro e wn ⟨rfl,hbn⟩;replace hB:=hB.trans (hbn.mono (Nat.le_trans (Nat.le_of_eq hD.out.symm) hB.size));replace st:=st.below hbn;replace c0:=st.c0;replace c1:=st.c1;replace c2:=st.c2;replace c3:=st.c3;clear hbn) | (go_at_call 236;refine Calls.mono (HV.out _) ?_;rintro e wn ⟨rfl,hbn⟩;replace hB:=hB.trans (hbn.mono (Nat.le_trans (Nat.le_of_eq hD.out.symm) hB.size));replace st:=st.below hbn;replace c0:=st.c0;replace c1:=st.c1;replace c2:=st.c2;replace c3:=st.c3;clear hbn))
 go_wp2
 go_ret
 refine ⟨?_,by rw [hD.out];exact hB⟩
 rw [HN.out]
 simp [zaN]
set_option maxHeartbeats 4000000 in
set_option maxRecDepth 100000 in
theorem zhB (k a:Int) (p f:List UInt8) (q:List UInt8) (g:List UInt8) (b:Int) (w:World) (e:shOf (k,a,p,f)=.call q g b) (hs:shOk (.call q g b)=false) (hq:q.length≤1048576) (hg:g.length≤1048576) :
 Calls Tryz.prog 187 #[za8 (k,a,p,f)] w fun e w'=>e=.returned (.bool (zaQ (k,a,p,f)))∧Below w.heap.size w w':=by
 have HN:Hid (zaQ (k,a,p,f)=(false && decide (zaN (.call q g b)=(k,a,p,f)))):=by exact (by rw [zdB,e,hs]:zaQ (k,a,p,f)=(false && decide (zaN (.call q g b)=(k,a,p,f))))
 have HC:=zbf (k,a,p,f)
 rw [e] at HC
 have HC2:Hid (_):=HC
 have HK:Hid (_):=fun W:World=>zbp (.call q g b) W (fun _ _ _ e=>by injection e with e1 e2;subst e1;subst e2;exact ⟨hq,hg⟩)
 rw [hs] at HK
 clear HC hs e
 unfold za8 zbn at HC2
 unfold zbn at HK
 unfold za8
 simp only at HC2 HK ⊢
 obtain ⟨W0,hW0⟩:∃ W0,w.alloc (.cells #[.int .i64 k,.int .i64 a,.string ⟨p.toArray⟩,.string ⟨f.toArray⟩] 103)=W0:=⟨_,rfl⟩
 have st:=NdAt.new w k a p f
 have hB:Below w.heap.size w W0:=by rw [←hW0];exact (Below.refl _ w).alloc (Nat.le_refl _) _
 rw [hW0] at st
 obtain ⟨D,hD0⟩:∃ D,w.heap.size=D:=⟨_,rfl⟩
 rw [hD0] at st hB
 have hD:Hid (w.heap.size=D):=hD0
 have c0:=st.c0
 have c1:=st.c1
 have c2:=st.c2
 have c3:=st.c3
 go_enter Tryz.func187,Tryz.ntmps187
 go_wp2_with fail
 refine Calls.mono (HC2.out _) ?_
 rintro e wn ⟨rfl,hbn⟩
 replace hB:=hB.trans (hbn.mono (Nat.le_trans (Nat.le_of_eq hD.out.symm) hB.size));replace st:=st.below hbn;replace c0:=st.c0;replace c1:=st.c1;replace c2:=st.c2;replace c3:=st.c3;clear hbn
 go_wp2_with fail
 replace st:=st.drew
 replace hB:=hB.drew
 refine wp_region_held_drew (S:=(fun _=>True)) (by kernel_rfl) ?_ (fun hHeld=>?_)
 ·
  exact True.intro
 refine tkO [(0,6)] ?_
 repeat (refine tkY ?_ rfl (by rfl) ?_ ?_;rotate_left;(focus (intro wq hSw;(try dsimp only at hSw);first | (go_simp;done) | (go_simp;with_reducible rfl)));simp only [zP])
 refine tkZ ?_
 refine zR 1 rfl (fun K hK=>?_)
 go_simp
 (go_at_call 190;refine Calls.mono (HK.out _) ?_;rintro e wn ⟨rfl,hbn⟩;replace hB:=hB.trans (hbn.mono (Nat.le_trans (Nat.le_of_eq hD.out.symm) hB.size));replace st:=st.below hbn;replace c0:=st.c0;replace c1:=st.c1;replace c2:=st.c2;replace c3:=st.c3;clear hbn)
 refine hK.out _ _ ?_ (fun hHeld=>?_)
 ·
  exact True.intro
 clear hK K
 refine tkO [(2,8),(3,9),(4,10),(5,11),(6,12),(7,13),(8,2)] ?_
 repeat ((first | (refine tkY ?_ rfl (by rfl) ?_ ?_;rotate_left;(focus (intro wq hSw;(try dsimp only at hSw);first | (go_simp;done) | (go_simp;with_reducible rfl)))) | refine tkN rfl (by rfl) ?_);simp only [zP])
 refine tkZ ?_
 refine wpAnyH_done (by kernel_rfl) ?_ _
 go_wp2
 go_ret
 refine ⟨?_,by rw [hD.out];exact hB⟩
 rw [HN.out]
 rfl
set_option maxHeartbeats 4000000 in
set_option maxRecDepth 100000 in
theorem zk1 (k a:Int) (p f:List UInt8)  (w:World) (e:shOf (k,a,p,f)=.no) (hs:shOk (.no)=false) :
 Calls Tryz.prog 187 #[za8 (k,a,p,f)] w fun e w'=>e=.returned (.bool (zaQ (k,a,p,f)))∧Below w.heap.size w w':=by
 have HN:Hid (zaQ (k,a,p,f)=(false && decide (zaN (.no)=(k,a,p,f)))):=by exact (by rw [zdB,e,hs]:zaQ (k,a,p,f)=(false && decide (zaN (.no)=(k,a,p,f))))
 have HC:=zbf (k,a,p,f)
 rw [e] at HC
 have HC2:Hid (_):=HC
 have HK:Hid (_):=fun W:World=>zbp (.no) W (fun _ _ _ e=>by cases e)
 rw [hs] at HK
 clear HC hs e
 unfold za8 zbn at HC2
 unfold zbn at HK
 unfold za8
 simp only at HC2 HK ⊢
 obtain ⟨W0,hW0⟩:∃ W0,w.alloc (.cells #[.int .i64 k,.int .i64 a,.string ⟨p.toArray⟩,.string ⟨f.toArray⟩] 103)=W0:=⟨_,rfl⟩
 have st:=NdAt.new w k a p f
 have hB:Below w.heap.size w W0:=by rw [←hW0];exact (Below.refl _ w).alloc (Nat.le_refl _) _
 rw [hW0] at st
 obtain ⟨D,hD0⟩:∃ D,w.heap.size=D:=⟨_,rfl⟩
 rw [hD0] at st hB
 have hD:Hid (w.heap.size=D):=hD0
 have c0:=st.c0
 have c1:=st.c1
 have c2:=st.c2
 have c3:=st.c3
 go_enter Tryz.func187,Tryz.ntmps187
 go_wp2_with fail
 refine Calls.mono (HC2.out _) ?_
 rintro e wn ⟨rfl,hbn⟩
 replace hB:=hB.trans (hbn.mono (Nat.le_trans (Nat.le_of_eq hD.out.symm) hB.size));replace st:=st.below hbn;replace c0:=st.c0;replace c1:=st.c1;replace c2:=st.c2;replace c3:=st.c3;clear hbn
 go_wp2_with fail
 replace st:=st.drew
 replace hB:=hB.drew
 refine wp_region_held_drew (S:=(fun _=>True)) (by kernel_rfl) ?_ (fun hHeld=>?_)
 ·
  exact True.intro
 refine tkO [(0,6)] ?_
 repeat (refine tkY ?_ rfl (by rfl) ?_ ?_;rotate_left;(focus (intro wq hSw;(try dsimp only at hSw);first | (go_simp;done) | (go_simp;with_reducible rfl)));simp only [zP])
 refine tkZ ?_
 refine zR 1 rfl (fun K hK=>?_)
 go_simp
 (go_at_call 190;refine Calls.mono (HK.out _) ?_;rintro e wn ⟨rfl,hbn⟩;replace hB:=hB.trans (hbn.mono (Nat.le_trans (Nat.le_of_eq hD.out.symm) hB.size));replace st:=st.below hbn;replace c0:=st.c0;replace c1:=st.c1;replace c2:=st.c2;replace c3:=st.c3;clear hbn)
 refine hK.out _ _ ?_ (fun hHeld=>?_)
 ·
  exact True.intro
 clear hK K
 refine tkO [(2,8),(3,9),(4,10),(5,11),(6,12),(7,13),(8,2)] ?_
 repeat ((first | (refine tkY ?_ rfl (by rfl) ?_ ?_;rotate_left;(focus (intro wq hSw;(try dsimp only at hSw);first | (go_simp;done) | (go_simp;with_reducible rfl)))) | refine tkN rfl (by rfl) ?_);simp only [zP])
 refine tkZ ?_
 refine wpAnyH_done (by kernel_rfl) ?_ _
 go_wp2
 go_ret
 refine ⟨?_,by rw [hD.out];exact hB⟩
 rw [HN.out]
 rfl
theorem znz (n:Nd) (w:World) (_hi:IntN n) (hp:n.2.2.1.length≤1048576) (hf:n.2.2.2.length≤1048576) :
 Calls Tryz.prog 187 #[za8 n] w fun e w'=>e=.returned (.bool (zaQ n))∧Below w.heap.size w w':=by
 obtain ⟨k,a,p,f⟩:=n
 rcases zec (k,a,p,f) with ⟨_,e⟩ | ⟨_,e⟩ | ⟨_,e⟩ | ⟨_,e⟩ | ⟨_,e⟩ | ⟨_,e⟩
 ·
  rcases hs:shOk (.num a) with _ | _
  ·
   exact ziP k a p f a w e hs
  ·
   exact zhA k a p f a w e hs
 ·
  rcases hs:shOk (.arg a) with _ | _
  ·
   exact ziQ k a p f a w e hs
  ·
   exact zhC k a p f a w e hs
 ·
  exact zgI k a p f k w e rfl
 ·
  exact zgJ k a p f w e rfl
 ·
  rcases hs:shOk (.call p f a) with _ | _
  ·
   exact zhB k a p f p f a w e hs hp hf
  ·
   exact zgK k a p f p f a w e hs hp hf
 ·
  exact zk1 k a p f w e rfl
set_option maxHeartbeats 1000000 in
set_option maxRecDepth 100000 in
theorem znA (n:Nd) (w:World) (hi:IntN n) (hp:n.2.2.1.length≤1048576) (hf:n.2.2.2.length≤1048576) :
 Calls Tryz.prog 186 #[za8 n] w fun e w'=>e=.returned (.int .i64 (zcz n))∧Below w.heap.size w w':=by
 have HC:Hid (_):=fun W:World=>znz n W hi hp hf
 have HS:Hid (_):=fun W:World=>zbf n W
 have HV:Hid (zaQ n=false→zcz n=-1):=fun h=>by unfold zcz;rw [if_neg (by rw [h];simp)]
 have HV2:Hid (zaQ n=true→zcz n=zme (shOf n)):=fun h=>by unfold zcz;rw [if_pos h,kids_sh h]
 generalize zaQ n=nb at HC HV HV2
 generalize shOf n=s at HS HV2
 have HK:Hid (_):=fun W:World=>zgY s W
 obtain ⟨k,a,p,f⟩:=n
 unfold za8 at HC HS ⊢
 simp only at HC HS ⊢
 clear hi hp hf
 obtain ⟨W0,hW0⟩:∃ W0,w.alloc (.cells #[.int .i64 k,.int .i64 a,.string ⟨p.toArray⟩,.string ⟨f.toArray⟩] 103)=W0:=⟨_,rfl⟩
 have st:=NdAt.new w k a p f
 have hB:Below w.heap.size w W0:=by rw [←hW0];exact (Below.refl _ w).alloc (Nat.le_refl _) _
 rw [hW0] at st
 obtain ⟨D,hD0⟩:∃ D,w.heap.size=D:=⟨_,rfl⟩
 rw [hD0] at st hB
 have hD:Hid (w.heap.size=D):=hD0
 have c0:=st.c0
 have c1:=st.c1
 have c2:=st.c2
 have c3:=st.c3
 go_enter Tryz.func186,Tryz.ntmps186
 go_wp2_with fail
 refine Calls.mono (HC.out _) ?_
 rintro e wn ⟨rfl,hbn⟩
 replace hB:=hB.trans (hbn.mono (Nat.le_trans (Nat.le_of_eq hD.out.symm) hB.size))
 replace st:=st.below hbn
 replace c0:=st.c0
 replace c1:=st.c1
 replace c2:=st.c2
 replace c3:=st.c3
 clear hbn
 rcases nb with _ | _
 ·
  have HO:Hid (zcz (k,a,p,f)=-1):=HV.out rfl
  go_wp2
  go_ret
  exact ⟨by rw [HO.out];rfl,by rw [hD.out];exact hB⟩
 ·
  have HO:Hid (zcz (k,a,p,f)=zme s):=HV2.out rfl
  go_wp2_with fail
  refine Calls.mono (HS.out _) ?_
  rintro e wn ⟨rfl,hbn⟩
  replace hB:=hB.trans (hbn.mono (Nat.le_trans (Nat.le_of_eq hD.out.symm) hB.size))
  clear hbn st c0 c1 c2 c3
  go_wp2_with fail
  refine Calls.mono (HK.out _) ?_
  rintro e wn ⟨rfl,hbn⟩
  replace hB:=hB.trans (hbn.mono (Nat.le_trans (Nat.le_of_eq hD.out.symm) hB.size))
  go_wp2
  go_ret
  exact ⟨by rw [HO.out];rfl,by rw [hD.out];exact hB⟩
theorem kids_of (n:Nd):(zaQ n=false∧zcz n=-1)∨(zaQ n=true∧zcz n=(zcu n:Int)∧zcu n≤3):=by
 rcases h:zaQ n with _ | _
 ·
  exact Or.inl ⟨rfl,by unfold zcz;rw [if_neg (by rw [h];simp)]⟩
 ·
  obtain ⟨h1,h2⟩:=zmv h
  exact Or.inr ⟨rfl,by unfold zcz;rw [if_pos h];exact h1,h2⟩
set_option maxHeartbeats 2000000 in
set_option maxRecDepth 100000 in
theorem zpb (a:Option Addr) (len cap:Nat) (ns:List Nd) (at_:Int) (w:World) (hin:zas w a len ns) (hint:IntT ns) (hsh:zdv ns) (hlen:len≤1048576) (hat:-9223372036854775808≤at_∧at_≤9223372036854775807) :
 Calls Tryz.prog 185 #[.slice a len cap,.int .i64 at_] w fun e w'=>e=.returned (.int .i64 (endV ns at_))∧Below w.heap.size w w':=by
 obtain rfl:ns.length=len:=hin.1
 by_cases h0:at_<0
 ·
  have HE:Hid (endV ns at_=-1):=zje ns at_ (Or.inl h0)
  go_enter Tryz.func185,Tryz.ntmps185
  go_wp2
  go_ret
  exact ⟨by rw [HE.out];rfl,Below.refl _ _⟩
 ·
  obtain ⟨k0,rfl⟩:∃ k0:Nat,at_=(k0:Int):=Int.eq_ofNat_of_zero_le (by omega)
  have h0':¬(k0:Int)<0:=by omega
  have HE:Hid (zdr ns k0 1=endV ns (k0:Int)):=by
   by_cases hk:k0<ns.length
   ·
    exact zhd hk
   ·
    exact (by rw [zfH (by omega),zje ns (k0:Int) (Or.inr (by omega))]:zdr ns k0 1=endV ns (k0:Int))
  have HI:Hid (zas w a ns.length ns):=hin
  have HS:Hid (zdv ns):=hsh
  have HN0:Hid (IntT ns):=hint
  clear hin hsh hint h0
  go_enter Tryz.func185,Tryz.ntmps185
  go_wp2
  go_loopw [1,5] (fun av ov wr=>∃ k o:Nat,av=.int .i64 k∧ov=.int .i64 o∧(k≤ns.length∨(k=k0∧o=1))∧o≤1+3*k∧Hid (zdr ns k o=endV ns (k0:Int))∧Below w.heap.size w wr) (fun av _ _=>ns.length-(intOf av).toNat)
  case atStart=>exact ⟨k0,1,rfl,rfl,Or.inr ⟨rfl,rfl⟩,by omega,HE,Below.refl _ _⟩
  case round =>
   obtain ⟨k,o,rfl,rfl,hk,ho,HT,hb⟩:=hrel
   clear HE
   by_cases hoz:o=0
   ·
    subst hoz
    have HF:Hid ((k:Int)=endV ns (k0:Int)):=by exact (by rw [←HT.out,zin]:(k:Int)=endV ns (k0:Int))
    go_wp2
    go_ret
    exact ⟨by rw [←HF.out];rfl,hb⟩
   ·
    obtain ⟨o',rfl⟩:∃ o',o=o'+1:=⟨o-1,by omega⟩
    have ho1:(0:Int)<((o'+1:Nat):Int):=by omega
    by_cases hkl:(ns.length:Int)≤(k:Int)
    ·
     have HF:Hid (endV ns (k0:Int)=-1):=by exact (by rw [←HT.out,zfH (by omega)]:endV ns (k0:Int)=-1)
     clear hoz
     go_wp2
     go_ret
     exact ⟨by rw [HF.out];rfl,hb⟩
    ·
     obtain ⟨b,off,rfl,hbl,hcells⟩:=(HI.out.below hb).at (by omega)
     obtain ⟨c0,c1,c2,c3⟩:=hcells k (by omega)
     have hs:=HS.out k
     have hz:=HN0.out k
     obtain ⟨n,hn⟩:∃ n,ns.getD k nd0=n:=⟨_,rfl⟩
     rw [hn] at c0 c1 c2 c3 hs hz
     have HN:Hid (ns.getD k nd0=n):=hn
     have HC:Hid (_):=fun W:World=>znA n W hz hs.1 hs.2
     have HK:Hid (_):=kids_of n
     generalize hkn:zcz n=kn at HC HK
     obtain ⟨kd,aa,p,f⟩:=n
     unfold za8 at HC
     simp only at c0 c1 c2 c3 HC
     clear hn hcells hoz hs hz hkn
     go_wp2_with fail
     refine Calls.mono (HC.out _) ?_
     rintro e w1 ⟨rfl,hb1⟩
     have hB1:=hb.trans (hb1.mono hb.size)
     clear c0 c1 c2 c3 hb1 hb HC
     rcases HK.out with ⟨hnb,rfl⟩ | ⟨hnb,rfl,hk3⟩
     ·
      have HF:Hid (endV ns (k0:Int)=-1):=by exact (by rw [←HT.out,zky (by omega) (by rw [HN.out];exact hnb)]:endV ns (k0:Int)=-1)
      clear hnb
      go_wp2
      go_ret
      exact ⟨by rw [HF.out];rfl,hB1⟩
     ·
      have HT2:Hid (zdr ns (k+1) (o'+zcu (kd,aa,p,f))=endV ns (k0:Int)):=by
       have:=zhe (o:=o') (show k<ns.length by omega) (by rw [HN.out];exact hnb)
       rw [HN.out] at this
       exact (by rw [←this];exact HT.out:zdr ns (k+1) (o'+zcu (kd,aa,p,f))=endV ns (k0:Int))
      clear hnb
      generalize zcu (kd,aa,p,f)=q at hk3 HT2 ⊢
      have hq1:((q:Int)==-1)=false:=beq_eq_false_iff_ne.2 (by omega)
      have hkk:k≤ns.length:=by omega
      clear hk HK
      go_wp2
      go_roundw
      case rel=>exact ⟨k+1,o'+q,by go_num,by go_num,Or.inl (by omega),by omega,HT2,hB1⟩
      case measure=>simp [intOf];omega
theorem zhL (ns:List Nd) (h:¬(1≤ns.length∧ns.length≤60)):zcc ns=false:=decide_eq_false (fun g=>h g.1)
theorem zo1 (ns:List Nd) (h:1≤ns.length∧ns.length≤60):zcc ns=(endV ns 0==(ns.length:Int)):=by
 rw [Bool.eq_iff_iff,beq_iff_eq]
 unfold zcc
 rw [decide_eq_true_iff]
 exact ⟨fun g=>g.2,fun g=>⟨h,g⟩⟩
set_option maxHeartbeats 1000000 in
set_option maxRecDepth 100000 in
theorem znx (a:Option Addr) (len cap:Nat) (ns:List Nd) (w:World) (hin:zas w a len ns) (hint:IntT ns) (hsh:zdv ns) (hlen:len≤1048576) :
 Calls Tryz.prog 184 #[.slice a len cap] w fun e w'=>e=.returned (.bool (zcc ns))∧Below w.heap.size w w':=by
 obtain rfl:ns.length=len:=hin.1
 have HC:Hid (_):=zpb a ns.length cap ns 0 w hin hint hsh hlen (by omega)
 by_cases h1:(1:Int)≤(ns.length:Int)
 ·
  by_cases h2:(ns.length:Int)≤60
  ·
   have HT:Hid (zcc ns=(endV ns 0==(ns.length:Int))):=zo1 ns (by omega)
   generalize endV ns 0=e0 at HC HT
   clear hin hint hsh
   go_enter Tryz.func184,Tryz.ntmps184
   go_wp2_with fail
   refine Calls.mono HC.out ?_
   rintro e w1 ⟨rfl,hb1⟩
   go_wp2
   go_ret
   exact ⟨by rw [HT.out];rfl,hb1⟩
  ·
   have HT:Hid (zcc ns=false):=zhL ns (by omega)
   clear hin hint hsh
   go_enter Tryz.func184,Tryz.ntmps184
   go_wp2
   go_ret
   exact ⟨by rw [HT.out];rfl,Below.refl _ _⟩
 ·
  have HT:Hid (zcc ns=false):=zhL ns (by omega)
  clear hin hint hsh
  go_enter Tryz.func184,Tryz.ntmps184
  go_wp2
  go_ret
  exact ⟨by rw [HT.out];rfl,Below.refl _ _⟩
end Go.Proofs.YtdbljnddkbpanaaGreatDoor
