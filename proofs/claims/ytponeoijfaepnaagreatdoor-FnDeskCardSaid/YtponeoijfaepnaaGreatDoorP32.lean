/-
  Parts of one proof, one behind the other: TreeI2, TreeI3, ImpI.
-/
import Derived.Test.YtponeoijfaepnaaGreatDoorP31
namespace Go.Proofs.YtponeoijfaepnaaGreatDoor
open Go.RowKit
set_option maxHeartbeats 4000000
set_option maxRecDepth 100000
theorem zeR (k a k2 a2:Int) (p f p2 f2:List UInt8) (w:World):(binOp .eql 104 (.agg #[.int .i64 k,.int .i64 a,.string ⟨p.toArray⟩,.string ⟨f.toArray⟩]) (.agg #[.int .i64 k2,.int .i64 a2,.string ⟨p2.toArray⟩,.string ⟨f2.toArray⟩])).run Tryz.prog w=.ok (.bool (decide (((k,a,p,f):Nd)=(k2,a2,p2,f2)))) w:=by
 rw [run_eql_struct];simp [go_sem];by_cases h1:k=k2
 ·
  by_cases h2:a=a2
  ·
   by_cases h3:p=p2
   ·
    by_cases h4:f=f2
    ·simp [h1,h2,h3,h4]
    ·simp [h1,h2,h3,h4]
   ·simp [h1,h2,h3]
  ·simp [h1,h2]
 ·simp [h1]
structure NdAt (W:World) (D:Nat) (k a:Int) (p f:List UInt8):Prop where
 c0:W.cell? ⟨D,0,none⟩=some (.int .i64 k)
 c1:W.cell? ⟨D,1,none⟩=some (.int .i64 a)
 c2:W.cell? ⟨D,2,none⟩=some (.string ⟨p.toArray⟩)
 c3:W.cell? ⟨D,3,none⟩=some (.string ⟨f.toArray⟩)
theorem NdAt.below {W W':World} {D:Nat} {k a:Int} {p f:List UInt8} (h:NdAt W D k a p f) (hb:Below W.heap.size W W'):NdAt W' D k a p f :=
 have hl:D<W.heap.size:=World.block_lt_of_cell? W ⟨D,0,none⟩ h.c0
 ⟨(hb.cell (p:=⟨D,0,none⟩) hl).trans h.c0,(hb.cell (p:=⟨D,1,none⟩) hl).trans h.c1,(hb.cell (p:=⟨D,2,none⟩) hl).trans h.c2,(hb.cell (p:=⟨D,3,none⟩) hl).trans h.c3⟩
theorem NdAt.drew {W:World} {D:Nat} {k a:Int} {p f:List UInt8} (h:NdAt W D k a p f):NdAt W.drew D k a p f:=⟨h.c0,h.c1,h.c2,h.c3⟩
theorem NdAt.new (w:World) (k a:Int) (p f:List UInt8):NdAt (w.alloc (.cells #[.int .i64 k,.int .i64 a,.string ⟨p.toArray⟩,.string ⟨f.toArray⟩] 104)) w.heap.size k a p f:=by
 have hA:=heap_alloc_new w (.cells #[.int .i64 k,.int .i64 a,.string ⟨p.toArray⟩,.string ⟨f.toArray⟩] 104);generalize w.alloc (.cells #[.int .i64 k,.int .i64 a,.string ⟨p.toArray⟩,.string ⟨f.toArray⟩] 104)=W at hA ⊢;exact ⟨by simp [World.cell?,hA],by simp [World.cell?,hA],by simp [World.cell?,hA],by simp [World.cell?,hA]⟩
theorem zhf (k a:Int) (p f:List UInt8) (b:Int) (w:World) (e:shOf (k,a,p,f)=.num b) (hs:shOk (.num b)=true) :
 Calls Tryz.prog 206 #[za9 (k,a,p,f)] w fun e w'=>e=.returned (.bool (zaM (k,a,p,f)))∧Below w.heap.size w w':=by
 have HN:Hid (zaM (k,a,p,f)=(true && decide (zaN (.num b)=(k,a,p,f)))):=by exact (by rw [zdt,e,hs]:zaM (k,a,p,f)=(true && decide (zaN (.num b)=(k,a,p,f))))
 have HC:=zbf (k,a,p,f);rw [e] at HC;have HC2:Hid (_):=HC;have HK:Hid (_):=fun W:World=>zbr (.num b) W (fun _ _ _ e=>by cases e)
 rw [hs] at HK;have HV:Hid (_):=fun W:World=>node_num b W
 unfold za9 zaN at HV;simp only at HV;have hEq:=zeR;clear HC hs e;unfold za9 zbq at HC2;unfold zbq at HK;unfold za9;simp only at HC2 HK ⊢;obtain ⟨W0,hW0⟩:∃ W0,w.alloc (.cells #[.int .i64 k,.int .i64 a,.string ⟨p.toArray⟩,.string ⟨f.toArray⟩] 104)=W0:=⟨_,rfl⟩
 have st:=NdAt.new w k a p f;have hB:Below w.heap.size w W0:=by rw [←hW0];exact (Below.refl _ w).alloc (Nat.le_refl _) _
 rw [hW0] at st;obtain ⟨D,hD0⟩:∃ D,w.heap.size=D:=⟨_,rfl⟩
 rw [hD0] at st hB;have hD:Hid (w.heap.size=D):=hD0;have c0:=st.c0;have c1:=st.c1;have c2:=st.c2;have c3:=st.c3
 go_enter Tryz.func206,Tryz.ntmps206
 go_wp2_with fail
 refine Calls.mono (HC2.out _) ?_;rintro e wn ⟨rfl,hbn⟩;replace hB:=hB.trans (hbn.mono (Nat.le_trans (Nat.le_of_eq hD.out.symm) hB.size));replace st:=st.below hbn;replace c0:=st.c0;replace c1:=st.c1;replace c2:=st.c2;replace c3:=st.c3;clear hbn
 go_wp2_with fail
 replace st:=st.drew;replace hB:=hB.drew
 go_region_held3 (fun w'=>w'.cell? ⟨D,0,none⟩=some (.int .i64 k)∧w'.cell? ⟨D,1,none⟩=some (.int .i64 a)∧w'.cell? ⟨D,2,none⟩=some (.string ⟨p.toArray⟩)∧w'.cell? ⟨D,3,none⟩=some (.string ⟨f.toArray⟩)) (go_keep) (first | (go_at_call 209;refine Calls.mono (HK.out _) ?_;rintro e wn ⟨rfl,hbn⟩;replace hB:=hB.trans (hbn.mono (Nat.le_trans (Nat.le_of_eq hD.out.symm) hB.size));replace st:=st.below hbn;replace c0:=st.c0;replace c1:=st.c1;replace c2:=st.c2;replace c3:=st.c3;clear hbn) | (go_at_call 251;refine Calls.mono (HV.out _) ?_;rintro e wn ⟨rfl,hbn⟩;replace hB:=hB.trans (hbn.mono (Nat.le_trans (Nat.le_of_eq hD.out.symm) hB.size));replace st:=st.below hbn;replace c0:=st.c0;replace c1:=st.c1;replace c2:=st.c2;replace c3:=st.c3;clear hbn))
 go_wp2;go_ret;refine ⟨?_,by rw [hD.out];exact hB⟩;rw [HN.out];simp [zaN,@eq_comm (List UInt8) [] p,@eq_comm (List UInt8) [] f]
theorem zil (k a:Int) (p f:List UInt8) (b:Int) (w:World) (e:shOf (k,a,p,f)=.num b) (hs:shOk (.num b)=false) :
 Calls Tryz.prog 206 #[za9 (k,a,p,f)] w fun e w'=>e=.returned (.bool (zaM (k,a,p,f)))∧Below w.heap.size w w':=by
 have HN:Hid (zaM (k,a,p,f)=(false && decide (zaN (.num b)=(k,a,p,f)))):=by exact (by rw [zdt,e,hs]:zaM (k,a,p,f)=(false && decide (zaN (.num b)=(k,a,p,f))))
 have HC:=zbf (k,a,p,f);rw [e] at HC;have HC2:Hid (_):=HC;have HK:Hid (_):=fun W:World=>zbr (.num b) W (fun _ _ _ e=>by cases e)
 rw [hs] at HK;clear HC hs e;unfold za9 zbq at HC2;unfold zbq at HK;unfold za9;simp only at HC2 HK ⊢;obtain ⟨W0,hW0⟩:∃ W0,w.alloc (.cells #[.int .i64 k,.int .i64 a,.string ⟨p.toArray⟩,.string ⟨f.toArray⟩] 104)=W0:=⟨_,rfl⟩
 have st:=NdAt.new w k a p f;have hB:Below w.heap.size w W0:=by rw [←hW0];exact (Below.refl _ w).alloc (Nat.le_refl _) _
 rw [hW0] at st;obtain ⟨D,hD0⟩:∃ D,w.heap.size=D:=⟨_,rfl⟩
 rw [hD0] at st hB;have hD:Hid (w.heap.size=D):=hD0;have c0:=st.c0;have c1:=st.c1;have c2:=st.c2;have c3:=st.c3
 go_enter Tryz.func206,Tryz.ntmps206
 go_wp2_with fail
 refine Calls.mono (HC2.out _) ?_;rintro e wn ⟨rfl,hbn⟩;replace hB:=hB.trans (hbn.mono (Nat.le_trans (Nat.le_of_eq hD.out.symm) hB.size));replace st:=st.below hbn;replace c0:=st.c0;replace c1:=st.c1;replace c2:=st.c2;replace c3:=st.c3;clear hbn
 go_wp2_with fail
 replace st:=st.drew;replace hB:=hB.drew;refine wp_region_held_drew (S:=(fun _=>True)) (by kernel_rfl) ?_ (fun hHeld=>?_)
 ·exact True.intro
 refine tkO [(0,6)] ?_
 repeat (refine tkY ?_ rfl (by rfl) ?_ ?_;rotate_left;(focus (intro wq hSw;(try dsimp only at hSw);first | (go_simp;done) | (go_simp;with_reducible rfl)));simp only [zP])
 refine tkZ ?_;refine zR 1 rfl (fun K hK=>?_);go_simp
 (go_at_call 209;refine Calls.mono (HK.out _) ?_;rintro e wn ⟨rfl,hbn⟩;replace hB:=hB.trans (hbn.mono (Nat.le_trans (Nat.le_of_eq hD.out.symm) hB.size));replace st:=st.below hbn;replace c0:=st.c0;replace c1:=st.c1;replace c2:=st.c2;replace c3:=st.c3;clear hbn)
 refine hK.out _ _ ?_ (fun hHeld=>?_)
 ·exact True.intro
 clear hK K;refine tkO [(2,8),(3,9),(4,10),(5,11),(6,12),(7,13),(8,2)] ?_
 repeat ((first | (refine tkY ?_ rfl (by rfl) ?_ ?_;rotate_left;(focus (intro wq hSw;(try dsimp only at hSw);first | (go_simp;done) | (go_simp;with_reducible rfl)))) | refine tkN rfl (by rfl) ?_);simp only [zP])
 refine tkZ ?_;refine wpAnyH_done (by kernel_rfl) ?_ _;go_wp2;go_ret;refine ⟨?_,by rw [hD.out];exact hB⟩;rw [HN.out]
 rfl
theorem zhh (k a:Int) (p f:List UInt8) (b:Int) (w:World) (e:shOf (k,a,p,f)=.arg b) (hs:shOk (.arg b)=true) :
 Calls Tryz.prog 206 #[za9 (k,a,p,f)] w fun e w'=>e=.returned (.bool (zaM (k,a,p,f)))∧Below w.heap.size w w':=by
 have HN:Hid (zaM (k,a,p,f)=(true && decide (zaN (.arg b)=(k,a,p,f)))):=by exact (by rw [zdt,e,hs]:zaM (k,a,p,f)=(true && decide (zaN (.arg b)=(k,a,p,f))))
 have HC:=zbf (k,a,p,f);rw [e] at HC;have HC2:Hid (_):=HC;have HK:Hid (_):=fun W:World=>zbr (.arg b) W (fun _ _ _ e=>by cases e)
 rw [hs] at HK;have HV:Hid (_):=fun W:World=>node_arg b W
 unfold za9 zaN at HV;simp only at HV;have hEq:=zeR;clear HC hs e;unfold za9 zbq at HC2;unfold zbq at HK;unfold za9;simp only at HC2 HK ⊢;obtain ⟨W0,hW0⟩:∃ W0,w.alloc (.cells #[.int .i64 k,.int .i64 a,.string ⟨p.toArray⟩,.string ⟨f.toArray⟩] 104)=W0:=⟨_,rfl⟩
 have st:=NdAt.new w k a p f;have hB:Below w.heap.size w W0:=by rw [←hW0];exact (Below.refl _ w).alloc (Nat.le_refl _) _
 rw [hW0] at st;obtain ⟨D,hD0⟩:∃ D,w.heap.size=D:=⟨_,rfl⟩
 rw [hD0] at st hB;have hD:Hid (w.heap.size=D):=hD0;have c0:=st.c0;have c1:=st.c1;have c2:=st.c2;have c3:=st.c3
 go_enter Tryz.func206,Tryz.ntmps206
 go_wp2_with fail
 refine Calls.mono (HC2.out _) ?_;rintro e wn ⟨rfl,hbn⟩;replace hB:=hB.trans (hbn.mono (Nat.le_trans (Nat.le_of_eq hD.out.symm) hB.size));replace st:=st.below hbn;replace c0:=st.c0;replace c1:=st.c1;replace c2:=st.c2;replace c3:=st.c3;clear hbn
 go_wp2_with fail
 replace st:=st.drew;replace hB:=hB.drew
 go_region_held3 (fun w'=>w'.cell? ⟨D,0,none⟩=some (.int .i64 k)∧w'.cell? ⟨D,1,none⟩=some (.int .i64 a)∧w'.cell? ⟨D,2,none⟩=some (.string ⟨p.toArray⟩)∧w'.cell? ⟨D,3,none⟩=some (.string ⟨f.toArray⟩)) (go_keep) (first | (go_at_call 209;refine Calls.mono (HK.out _) ?_;rintro e wn ⟨rfl,hbn⟩;replace hB:=hB.trans (hbn.mono (Nat.le_trans (Nat.le_of_eq hD.out.symm) hB.size));replace st:=st.below hbn;replace c0:=st.c0;replace c1:=st.c1;replace c2:=st.c2;replace c3:=st.c3;clear hbn) | (go_at_call 252;refine Calls.mono (HV.out _) ?_;rintro e wn ⟨rfl,hbn⟩;replace hB:=hB.trans (hbn.mono (Nat.le_trans (Nat.le_of_eq hD.out.symm) hB.size));replace st:=st.below hbn;replace c0:=st.c0;replace c1:=st.c1;replace c2:=st.c2;replace c3:=st.c3;clear hbn))
 go_wp2;go_ret;refine ⟨?_,by rw [hD.out];exact hB⟩;rw [HN.out];simp [zaN,@eq_comm (List UInt8) [] p,@eq_comm (List UInt8) [] f]
theorem zim (k a:Int) (p f:List UInt8) (b:Int) (w:World) (e:shOf (k,a,p,f)=.arg b) (hs:shOk (.arg b)=false) :
 Calls Tryz.prog 206 #[za9 (k,a,p,f)] w fun e w'=>e=.returned (.bool (zaM (k,a,p,f)))∧Below w.heap.size w w':=by
 have HN:Hid (zaM (k,a,p,f)=(false && decide (zaN (.arg b)=(k,a,p,f)))):=by exact (by rw [zdt,e,hs]:zaM (k,a,p,f)=(false && decide (zaN (.arg b)=(k,a,p,f))))
 have HC:=zbf (k,a,p,f);rw [e] at HC;have HC2:Hid (_):=HC;have HK:Hid (_):=fun W:World=>zbr (.arg b) W (fun _ _ _ e=>by cases e)
 rw [hs] at HK;clear HC hs e;unfold za9 zbq at HC2;unfold zbq at HK;unfold za9;simp only at HC2 HK ⊢;obtain ⟨W0,hW0⟩:∃ W0,w.alloc (.cells #[.int .i64 k,.int .i64 a,.string ⟨p.toArray⟩,.string ⟨f.toArray⟩] 104)=W0:=⟨_,rfl⟩
 have st:=NdAt.new w k a p f;have hB:Below w.heap.size w W0:=by rw [←hW0];exact (Below.refl _ w).alloc (Nat.le_refl _) _
 rw [hW0] at st;obtain ⟨D,hD0⟩:∃ D,w.heap.size=D:=⟨_,rfl⟩
 rw [hD0] at st hB;have hD:Hid (w.heap.size=D):=hD0;have c0:=st.c0;have c1:=st.c1;have c2:=st.c2;have c3:=st.c3
 go_enter Tryz.func206,Tryz.ntmps206
 go_wp2_with fail
 refine Calls.mono (HC2.out _) ?_;rintro e wn ⟨rfl,hbn⟩;replace hB:=hB.trans (hbn.mono (Nat.le_trans (Nat.le_of_eq hD.out.symm) hB.size));replace st:=st.below hbn;replace c0:=st.c0;replace c1:=st.c1;replace c2:=st.c2;replace c3:=st.c3;clear hbn
 go_wp2_with fail
 replace st:=st.drew;replace hB:=hB.drew;refine wp_region_held_drew (S:=(fun _=>True)) (by kernel_rfl) ?_ (fun hHeld=>?_)
 ·exact True.intro
 refine tkO [(0,6)] ?_
 repeat (refine tkY ?_ rfl (by rfl) ?_ ?_;rotate_left;(focus (intro wq hSw;(try dsimp only at hSw);first | (go_simp;done) | (go_simp;with_reducible rfl)));simp only [zP])
 refine tkZ ?_;refine zR 1 rfl (fun K hK=>?_);go_simp
 (go_at_call 209;refine Calls.mono (HK.out _) ?_;rintro e wn ⟨rfl,hbn⟩;replace hB:=hB.trans (hbn.mono (Nat.le_trans (Nat.le_of_eq hD.out.symm) hB.size));replace st:=st.below hbn;replace c0:=st.c0;replace c1:=st.c1;replace c2:=st.c2;replace c3:=st.c3;clear hbn)
 refine hK.out _ _ ?_ (fun hHeld=>?_)
 ·exact True.intro
 clear hK K;refine tkO [(2,8),(3,9),(4,10),(5,11),(6,12),(7,13),(8,2)] ?_
 repeat ((first | (refine tkY ?_ rfl (by rfl) ?_ ?_;rotate_left;(focus (intro wq hSw;(try dsimp only at hSw);first | (go_simp;done) | (go_simp;with_reducible rfl)))) | refine tkN rfl (by rfl) ?_);simp only [zP])
 refine tkZ ?_;refine wpAnyH_done (by kernel_rfl) ?_ _;go_wp2;go_ret;refine ⟨?_,by rw [hD.out];exact hB⟩;rw [HN.out]
 rfl
theorem zgx (k a:Int) (p f:List UInt8) (b:Int) (w:World) (e:shOf (k,a,p,f)=.pair b) (hs:shOk (.pair b)=true) :
 Calls Tryz.prog 206 #[za9 (k,a,p,f)] w fun e w'=>e=.returned (.bool (zaM (k,a,p,f)))∧Below w.heap.size w w':=by
 have HN:Hid (zaM (k,a,p,f)=(true && decide (zaN (.pair b)=(k,a,p,f)))):=by exact (by rw [zdt,e,hs]:zaM (k,a,p,f)=(true && decide (zaN (.pair b)=(k,a,p,f))))
 have HC:=zbf (k,a,p,f);rw [e] at HC;have HC2:Hid (_):=HC;have HK:Hid (_):=fun W:World=>zbr (.pair b) W (fun _ _ _ e=>by cases e)
 rw [hs] at HK;have HV:Hid (_):=fun W:World=>zok b W
 unfold za9 zaN at HV;simp only at HV;have hEq:=zeR;clear HC hs e;unfold za9 zbq at HC2;unfold zbq at HK;unfold za9;simp only at HC2 HK ⊢;obtain ⟨W0,hW0⟩:∃ W0,w.alloc (.cells #[.int .i64 k,.int .i64 a,.string ⟨p.toArray⟩,.string ⟨f.toArray⟩] 104)=W0:=⟨_,rfl⟩
 have st:=NdAt.new w k a p f;have hB:Below w.heap.size w W0:=by rw [←hW0];exact (Below.refl _ w).alloc (Nat.le_refl _) _
 rw [hW0] at st;obtain ⟨D,hD0⟩:∃ D,w.heap.size=D:=⟨_,rfl⟩
 rw [hD0] at st hB;have hD:Hid (w.heap.size=D):=hD0;have c0:=st.c0;have c1:=st.c1;have c2:=st.c2;have c3:=st.c3
 go_enter Tryz.func206,Tryz.ntmps206
 go_wp2_with fail
 refine Calls.mono (HC2.out _) ?_;rintro e wn ⟨rfl,hbn⟩;replace hB:=hB.trans (hbn.mono (Nat.le_trans (Nat.le_of_eq hD.out.symm) hB.size));replace st:=st.below hbn;replace c0:=st.c0;replace c1:=st.c1;replace c2:=st.c2;replace c3:=st.c3;clear hbn
 go_wp2_with fail
 replace st:=st.drew;replace hB:=hB.drew
 go_region_held3 (fun w'=>w'.cell? ⟨D,0,none⟩=some (.int .i64 k)∧w'.cell? ⟨D,1,none⟩=some (.int .i64 a)∧w'.cell? ⟨D,2,none⟩=some (.string ⟨p.toArray⟩)∧w'.cell? ⟨D,3,none⟩=some (.string ⟨f.toArray⟩)) (go_keep) (first | (go_at_call 209;refine Calls.mono (HK.out _) ?_;rintro e wn ⟨rfl,hbn⟩;replace hB:=hB.trans (hbn.mono (Nat.le_trans (Nat.le_of_eq hD.out.symm) hB.size));replace st:=st.below hbn;replace c0:=st.c0;replace c1:=st.c1;replace c2:=st.c2;replace c3:=st.c3;clear hbn) | (go_at_call 253;refine Calls.mono (HV.out _) ?_;rintro e wn ⟨rfl,hbn⟩;replace hB:=hB.trans (hbn.mono (Nat.le_trans (Nat.le_of_eq hD.out.symm) hB.size));replace st:=st.below hbn;replace c0:=st.c0;replace c1:=st.c1;replace c2:=st.c2;replace c3:=st.c3;clear hbn))
 go_wp2;go_ret;refine ⟨?_,by rw [hD.out];exact hB⟩;rw [HN.out];simp [zaN,@eq_comm (List UInt8) [] p,@eq_comm (List UInt8) [] f]
theorem zgy (k a:Int) (p f:List UInt8)  (w:World) (e:shOf (k,a,p,f)=.cond) (hs:shOk (.cond)=true) :
 Calls Tryz.prog 206 #[za9 (k,a,p,f)] w fun e w'=>e=.returned (.bool (zaM (k,a,p,f)))∧Below w.heap.size w w':=by
 have HN:Hid (zaM (k,a,p,f)=(true && decide (zaN (.cond)=(k,a,p,f)))):=by exact (by rw [zdt,e,hs]:zaM (k,a,p,f)=(true && decide (zaN (.cond)=(k,a,p,f))))
 have HC:=zbf (k,a,p,f);rw [e] at HC;have HC2:Hid (_):=HC;have HK:Hid (_):=fun W:World=>zbr (.cond) W (fun _ _ _ e=>by cases e)
 rw [hs] at HK;have HV:Hid (_):=fun W:World=>zol  W
 unfold za9 zaN at HV;simp only at HV;have hEq:=zeR;clear HC hs e;unfold za9 zbq at HC2;unfold zbq at HK;unfold za9;simp only at HC2 HK ⊢;obtain ⟨W0,hW0⟩:∃ W0,w.alloc (.cells #[.int .i64 k,.int .i64 a,.string ⟨p.toArray⟩,.string ⟨f.toArray⟩] 104)=W0:=⟨_,rfl⟩
 have st:=NdAt.new w k a p f;have hB:Below w.heap.size w W0:=by rw [←hW0];exact (Below.refl _ w).alloc (Nat.le_refl _) _
 rw [hW0] at st;obtain ⟨D,hD0⟩:∃ D,w.heap.size=D:=⟨_,rfl⟩
 rw [hD0] at st hB;have hD:Hid (w.heap.size=D):=hD0;have c0:=st.c0;have c1:=st.c1;have c2:=st.c2;have c3:=st.c3
 go_enter Tryz.func206,Tryz.ntmps206
 go_wp2_with fail
 refine Calls.mono (HC2.out _) ?_;rintro e wn ⟨rfl,hbn⟩;replace hB:=hB.trans (hbn.mono (Nat.le_trans (Nat.le_of_eq hD.out.symm) hB.size));replace st:=st.below hbn;replace c0:=st.c0;replace c1:=st.c1;replace c2:=st.c2;replace c3:=st.c3;clear hbn
 go_wp2_with fail
 replace st:=st.drew;replace hB:=hB.drew
 go_region_held3 (fun w'=>w'.cell? ⟨D,0,none⟩=some (.int .i64 k)∧w'.cell? ⟨D,1,none⟩=some (.int .i64 a)∧w'.cell? ⟨D,2,none⟩=some (.string ⟨p.toArray⟩)∧w'.cell? ⟨D,3,none⟩=some (.string ⟨f.toArray⟩)) (go_keep) (first | (go_at_call 209;refine Calls.mono (HK.out _) ?_;rintro e wn ⟨rfl,hbn⟩;replace hB:=hB.trans (hbn.mono (Nat.le_trans (Nat.le_of_eq hD.out.symm) hB.size));replace st:=st.below hbn;replace c0:=st.c0;replace c1:=st.c1;replace c2:=st.c2;replace c3:=st.c3;clear hbn) | (go_at_call 254;refine Calls.mono (HV.out _) ?_;rintro e wn ⟨rfl,hbn⟩;replace hB:=hB.trans (hbn.mono (Nat.le_trans (Nat.le_of_eq hD.out.symm) hB.size));replace st:=st.below hbn;replace c0:=st.c0;replace c1:=st.c1;replace c2:=st.c2;replace c3:=st.c3;clear hbn))
 go_wp2;go_ret;refine ⟨?_,by rw [hD.out];exact hB⟩;rw [HN.out];simp [zaN,@eq_comm (List UInt8) [] p,@eq_comm (List UInt8) [] f]
theorem zgz (k a:Int) (p f:List UInt8) (q:List UInt8) (g:List UInt8) (b:Int) (w:World) (e:shOf (k,a,p,f)=.call q g b) (hs:shOk (.call q g b)=true) (hq:q.length≤1048576) (hg:g.length≤1048576) :
 Calls Tryz.prog 206 #[za9 (k,a,p,f)] w fun e w'=>e=.returned (.bool (zaM (k,a,p,f)))∧Below w.heap.size w w':=by
 have HN:Hid (zaM (k,a,p,f)=(true && decide (zaN (.call q g b)=(k,a,p,f)))):=by exact (by rw [zdt,e,hs]:zaM (k,a,p,f)=(true && decide (zaN (.call q g b)=(k,a,p,f))))
 have HC:=zbf (k,a,p,f);rw [e] at HC;have HC2:Hid (_):=HC;have HK:Hid (_):=fun W:World=>zbr (.call q g b) W (fun _ _ _ e=>by injection e with e1 e2;subst e1;subst e2;exact ⟨hq,hg⟩)
 rw [hs] at HK;have HV:Hid (_):=fun W:World=>zom q g b W
 unfold za9 zaN at HV;simp only at HV;have hEq:=zeR;clear HC hs e;unfold za9 zbq at HC2;unfold zbq at HK;unfold za9;simp only at HC2 HK ⊢;obtain ⟨W0,hW0⟩:∃ W0,w.alloc (.cells #[.int .i64 k,.int .i64 a,.string ⟨p.toArray⟩,.string ⟨f.toArray⟩] 104)=W0:=⟨_,rfl⟩
 have st:=NdAt.new w k a p f;have hB:Below w.heap.size w W0:=by rw [←hW0];exact (Below.refl _ w).alloc (Nat.le_refl _) _
 rw [hW0] at st;obtain ⟨D,hD0⟩:∃ D,w.heap.size=D:=⟨_,rfl⟩
 rw [hD0] at st hB;have hD:Hid (w.heap.size=D):=hD0;have c0:=st.c0;have c1:=st.c1;have c2:=st.c2;have c3:=st.c3
 go_enter Tryz.func206,Tryz.ntmps206
 go_wp2_with fail
 refine Calls.mono (HC2.out _) ?_;rintro e wn ⟨rfl,hbn⟩;replace hB:=hB.trans (hbn.mono (Nat.le_trans (Nat.le_of_eq hD.out.symm) hB.size));replace st:=st.below hbn;replace c0:=st.c0;replace c1:=st.c1;replace c2:=st.c2;replace c3:=st.c3;clear hbn
 go_wp2_with fail
 replace st:=st.drew;replace hB:=hB.drew
 go_region_held3 (fun w'=>w'.cell? ⟨D,0,none⟩=some (.int .i64 k)∧w'.cell? ⟨D,1,none⟩=some (.int .i64 a)∧w'.cell? ⟨D,2,none⟩=some (.string ⟨p.toArray⟩)∧w'.cell? ⟨D,3,none⟩=some (.string ⟨f.toArray⟩)) (go_keep) (first | (go_at_call 209;refine Calls.mono (HK.out _) ?_;rintro e wn ⟨rfl,hbn⟩;replace hB:=hB.trans (hbn.mono (Nat.le_trans (Nat.le_of_eq hD.out.symm) hB.size));replace st:=st.below hbn;replace c0:=st.c0;replace c1:=st.c1;replace c2:=st.c2;replace c3:=st.c3;clear hbn) | (go_at_call 255;refine Calls.mono (HV.out _) ?_;rintro e wn ⟨rfl,hbn⟩;replace hB:=hB.trans (hbn.mono (Nat.le_trans (Nat.le_of_eq hD.out.symm) hB.size));replace st:=st.below hbn;replace c0:=st.c0;replace c1:=st.c1;replace c2:=st.c2;replace c3:=st.c3;clear hbn))
 go_wp2;go_ret;refine ⟨?_,by rw [hD.out];exact hB⟩;rw [HN.out];simp [zaN]
theorem zhg (k a:Int) (p f:List UInt8) (q:List UInt8) (g:List UInt8) (b:Int) (w:World) (e:shOf (k,a,p,f)=.call q g b) (hs:shOk (.call q g b)=false) (hq:q.length≤1048576) (hg:g.length≤1048576) :
 Calls Tryz.prog 206 #[za9 (k,a,p,f)] w fun e w'=>e=.returned (.bool (zaM (k,a,p,f)))∧Below w.heap.size w w':=by
 have HN:Hid (zaM (k,a,p,f)=(false && decide (zaN (.call q g b)=(k,a,p,f)))):=by exact (by rw [zdt,e,hs]:zaM (k,a,p,f)=(false && decide (zaN (.call q g b)=(k,a,p,f))))
 have HC:=zbf (k,a,p,f);rw [e] at HC;have HC2:Hid (_):=HC;have HK:Hid (_):=fun W:World=>zbr (.call q g b) W (fun _ _ _ e=>by injection e with e1 e2;subst e1;subst e2;exact ⟨hq,hg⟩)
 rw [hs] at HK;clear HC hs e;unfold za9 zbq at HC2;unfold zbq at HK;unfold za9;simp only at HC2 HK ⊢;obtain ⟨W0,hW0⟩:∃ W0,w.alloc (.cells #[.int .i64 k,.int .i64 a,.string ⟨p.toArray⟩,.string ⟨f.toArray⟩] 104)=W0:=⟨_,rfl⟩
 have st:=NdAt.new w k a p f;have hB:Below w.heap.size w W0:=by rw [←hW0];exact (Below.refl _ w).alloc (Nat.le_refl _) _
 rw [hW0] at st;obtain ⟨D,hD0⟩:∃ D,w.heap.size=D:=⟨_,rfl⟩
 rw [hD0] at st hB;have hD:Hid (w.heap.size=D):=hD0;have c0:=st.c0;have c1:=st.c1;have c2:=st.c2;have c3:=st.c3
 go_enter Tryz.func206,Tryz.ntmps206
 go_wp2_with fail
 refine Calls.mono (HC2.out _) ?_;rintro e wn ⟨rfl,hbn⟩;replace hB:=hB.trans (hbn.mono (Nat.le_trans (Nat.le_of_eq hD.out.symm) hB.size));replace st:=st.below hbn;replace c0:=st.c0;replace c1:=st.c1;replace c2:=st.c2;replace c3:=st.c3;clear hbn
 go_wp2_with fail
 replace st:=st.drew;replace hB:=hB.drew;refine wp_region_held_drew (S:=(fun _=>True)) (by kernel_rfl) ?_ (fun hHeld=>?_)
 ·exact True.intro
 refine tkO [(0,6)] ?_
 repeat (refine tkY ?_ rfl (by rfl) ?_ ?_;rotate_left;(focus (intro wq hSw;(try dsimp only at hSw);first | (go_simp;done) | (go_simp;with_reducible rfl)));simp only [zP])
 refine tkZ ?_;refine zR 1 rfl (fun K hK=>?_);go_simp
 (go_at_call 209;refine Calls.mono (HK.out _) ?_;rintro e wn ⟨rfl,hbn⟩;replace hB:=hB.trans (hbn.mono (Nat.le_trans (Nat.le_of_eq hD.out.symm) hB.size));replace st:=st.below hbn;replace c0:=st.c0;replace c1:=st.c1;replace c2:=st.c2;replace c3:=st.c3;clear hbn)
 refine hK.out _ _ ?_ (fun hHeld=>?_)
 ·exact True.intro
 clear hK K;refine tkO [(2,8),(3,9),(4,10),(5,11),(6,12),(7,13),(8,2)] ?_
 repeat ((first | (refine tkY ?_ rfl (by rfl) ?_ ?_;rotate_left;(focus (intro wq hSw;(try dsimp only at hSw);first | (go_simp;done) | (go_simp;with_reducible rfl)))) | refine tkN rfl (by rfl) ?_);simp only [zP])
 refine tkZ ?_;refine wpAnyH_done (by kernel_rfl) ?_ _;go_wp2;go_ret;refine ⟨?_,by rw [hD.out];exact hB⟩;rw [HN.out]
 rfl
theorem zjt (k a:Int) (p f:List UInt8)  (w:World) (e:shOf (k,a,p,f)=.no) (hs:shOk (.no)=false) :
 Calls Tryz.prog 206 #[za9 (k,a,p,f)] w fun e w'=>e=.returned (.bool (zaM (k,a,p,f)))∧Below w.heap.size w w':=by
 have HN:Hid (zaM (k,a,p,f)=(false && decide (zaN (.no)=(k,a,p,f)))):=by exact (by rw [zdt,e,hs]:zaM (k,a,p,f)=(false && decide (zaN (.no)=(k,a,p,f))))
 have HC:=zbf (k,a,p,f);rw [e] at HC;have HC2:Hid (_):=HC;have HK:Hid (_):=fun W:World=>zbr (.no) W (fun _ _ _ e=>by cases e)
 rw [hs] at HK;clear HC hs e;unfold za9 zbq at HC2;unfold zbq at HK;unfold za9;simp only at HC2 HK ⊢;obtain ⟨W0,hW0⟩:∃ W0,w.alloc (.cells #[.int .i64 k,.int .i64 a,.string ⟨p.toArray⟩,.string ⟨f.toArray⟩] 104)=W0:=⟨_,rfl⟩
 have st:=NdAt.new w k a p f;have hB:Below w.heap.size w W0:=by rw [←hW0];exact (Below.refl _ w).alloc (Nat.le_refl _) _
 rw [hW0] at st;obtain ⟨D,hD0⟩:∃ D,w.heap.size=D:=⟨_,rfl⟩
 rw [hD0] at st hB;have hD:Hid (w.heap.size=D):=hD0;have c0:=st.c0;have c1:=st.c1;have c2:=st.c2;have c3:=st.c3
 go_enter Tryz.func206,Tryz.ntmps206
 go_wp2_with fail
 refine Calls.mono (HC2.out _) ?_;rintro e wn ⟨rfl,hbn⟩;replace hB:=hB.trans (hbn.mono (Nat.le_trans (Nat.le_of_eq hD.out.symm) hB.size));replace st:=st.below hbn;replace c0:=st.c0;replace c1:=st.c1;replace c2:=st.c2;replace c3:=st.c3;clear hbn
 go_wp2_with fail
 replace st:=st.drew;replace hB:=hB.drew;refine wp_region_held_drew (S:=(fun _=>True)) (by kernel_rfl) ?_ (fun hHeld=>?_)
 ·exact True.intro
 refine tkO [(0,6)] ?_
 repeat (refine tkY ?_ rfl (by rfl) ?_ ?_;rotate_left;(focus (intro wq hSw;(try dsimp only at hSw);first | (go_simp;done) | (go_simp;with_reducible rfl)));simp only [zP])
 refine tkZ ?_;refine zR 1 rfl (fun K hK=>?_);go_simp
 (go_at_call 209;refine Calls.mono (HK.out _) ?_;rintro e wn ⟨rfl,hbn⟩;replace hB:=hB.trans (hbn.mono (Nat.le_trans (Nat.le_of_eq hD.out.symm) hB.size));replace st:=st.below hbn;replace c0:=st.c0;replace c1:=st.c1;replace c2:=st.c2;replace c3:=st.c3;clear hbn)
 refine hK.out _ _ ?_ (fun hHeld=>?_)
 ·exact True.intro
 clear hK K;refine tkO [(2,8),(3,9),(4,10),(5,11),(6,12),(7,13),(8,2)] ?_
 repeat ((first | (refine tkY ?_ rfl (by rfl) ?_ ?_;rotate_left;(focus (intro wq hSw;(try dsimp only at hSw);first | (go_simp;done) | (go_simp;with_reducible rfl)))) | refine tkN rfl (by rfl) ?_);simp only [zP])
 refine tkZ ?_;refine wpAnyH_done (by kernel_rfl) ?_ _;go_wp2;go_ret;refine ⟨?_,by rw [hD.out];exact hB⟩;rw [HN.out]
 rfl
theorem zn5 (n:Nd) (w:World) (_hi:IntN n) (hp:n.2.2.1.length≤1048576) (hf:n.2.2.2.length≤1048576) :
 Calls Tryz.prog 206 #[za9 n] w fun e w'=>e=.returned (.bool (zaM n))∧Below w.heap.size w w':=by
 obtain ⟨k,a,p,f⟩:=n;rcases zdY (k,a,p,f) with ⟨_,e⟩ | ⟨_,e⟩ | ⟨_,e⟩ | ⟨_,e⟩ | ⟨_,e⟩ | ⟨_,e⟩
 ·
  rcases hs:shOk (.num a) with _ | _
  ·exact zil k a p f a w e hs
  ·exact zhf k a p f a w e hs
 ·
  rcases hs:shOk (.arg a) with _ | _
  ·exact zim k a p f a w e hs
  ·exact zhh k a p f a w e hs
 ·exact zgx k a p f k w e rfl
 ·exact zgy k a p f w e rfl
 ·
  rcases hs:shOk (.call p f a) with _ | _
  ·exact zhg k a p f p f a w e hs hp hf
  ·exact zgz k a p f p f a w e hs hp hf
 ·exact zjt k a p f w e rfl
theorem zn6 (n:Nd) (w:World) (hi:IntN n) (hp:n.2.2.1.length≤1048576) (hf:n.2.2.2.length≤1048576) :
 Calls Tryz.prog 205 #[za9 n] w fun e w'=>e=.returned (.int .i64 (zcs n))∧Below w.heap.size w w':=by
 have HC:Hid (_):=fun W:World=>zn5 n W hi hp hf
 have HS:Hid (_):=fun W:World=>zbf n W
 have HV:Hid (zaM n=false→zcs n=-1):=fun h=>by unfold zcs;rw [if_neg (by rw [h];simp)]
 have HV2:Hid (zaM n=true→zcs n=zlG (shOf n)):=fun h=>by unfold zcs;rw [if_pos h,kids_sh h]
 generalize zaM n=nb at HC HV HV2;generalize shOf n=s at HS HV2;have HK:Hid (_):=fun W:World=>zgK s W
 obtain ⟨k,a,p,f⟩:=n;unfold za9 at HC HS ⊢;simp only at HC HS ⊢;clear hi hp hf;obtain ⟨W0,hW0⟩:∃ W0,w.alloc (.cells #[.int .i64 k,.int .i64 a,.string ⟨p.toArray⟩,.string ⟨f.toArray⟩] 104)=W0:=⟨_,rfl⟩
 have st:=NdAt.new w k a p f;have hB:Below w.heap.size w W0:=by rw [←hW0];exact (Below.refl _ w).alloc (Nat.le_refl _) _
 rw [hW0] at st;obtain ⟨D,hD0⟩:∃ D,w.heap.size=D:=⟨_,rfl⟩
 rw [hD0] at st hB;have hD:Hid (w.heap.size=D):=hD0;have c0:=st.c0;have c1:=st.c1;have c2:=st.c2;have c3:=st.c3
 go_enter Tryz.func205,Tryz.ntmps205
 go_wp2_with fail
 refine Calls.mono (HC.out _) ?_;rintro e wn ⟨rfl,hbn⟩;replace hB:=hB.trans (hbn.mono (Nat.le_trans (Nat.le_of_eq hD.out.symm) hB.size));replace st:=st.below hbn;replace c0:=st.c0;replace c1:=st.c1;replace c2:=st.c2;replace c3:=st.c3;clear hbn;rcases nb with _ | _
 ·have HO:Hid (zcs (k,a,p,f)=-1):=HV.out rfl;go_wp2;go_ret;exact ⟨by rw [HO.out];rfl,by rw [hD.out];exact hB⟩
 ·
  have HO:Hid (zcs (k,a,p,f)=zlG s):=HV2.out rfl;go_wp2_with fail
  refine Calls.mono (HS.out _) ?_;rintro e wn ⟨rfl,hbn⟩;replace hB:=hB.trans (hbn.mono (Nat.le_trans (Nat.le_of_eq hD.out.symm) hB.size));clear hbn st c0 c1 c2 c3;go_wp2_with fail
  refine Calls.mono (HK.out _) ?_;rintro e wn ⟨rfl,hbn⟩;replace hB:=hB.trans (hbn.mono (Nat.le_trans (Nat.le_of_eq hD.out.symm) hB.size));go_wp2;go_ret;exact ⟨by rw [HO.out];rfl,by rw [hD.out];exact hB⟩
theorem kids_of (n:Nd):(zaM n=false∧zcs n=-1)∨(zaM n=true∧zcs n=(zct n:Int)∧zct n≤3):=by
 rcases h:zaM n with _ | _
 ·exact Or.inl ⟨rfl,by unfold zcs;rw [if_neg (by rw [h];simp)]⟩
 ·obtain ⟨h1,h2⟩:=zlX h;exact Or.inr ⟨rfl,by unfold zcs;rw [if_pos h];exact h1,h2⟩
theorem zoK (a:Option Addr) (len cap:Nat) (ns:List Nd) (at_:Int) (w:World) (hin:zay w a len ns) (hint:IntT ns) (hsh:zdo ns) (hlen:len≤1048576) (hat:-9223372036854775808≤at_∧at_≤9223372036854775807) :
 Calls Tryz.prog 204 #[.slice a len cap,.int .i64 at_] w fun e w'=>e=.returned (.int .i64 (endV ns at_))∧Below w.heap.size w w':=by
 obtain rfl:ns.length=len:=hin.1;by_cases h0:at_<0
 ·
  have HE:Hid (endV ns at_=-1):=ziH ns at_ (Or.inl h0)
  go_enter Tryz.func204,Tryz.ntmps204
  go_wp2;go_ret;exact ⟨by rw [HE.out];rfl,Below.refl _ _⟩
 ·
  obtain ⟨k0,rfl⟩:∃ k0:Nat,at_=(k0:Int):=Int.eq_ofNat_of_zero_le (by omega)
  have h0':¬(k0:Int)<0:=by omega
  have HE:Hid (zdk ns k0 1=endV ns (k0:Int)):=by
   by_cases hk:k0<ns.length
   ·exact zgU hk
   ·exact (by rw [zfB (by omega),ziH ns (k0:Int) (Or.inr (by omega))]:zdk ns k0 1=endV ns (k0:Int))
  have HI:Hid (zay w a ns.length ns):=hin;have HS:Hid (zdo ns):=hsh;have HN0:Hid (IntT ns):=hint;clear hin hsh hint h0
  go_enter Tryz.func204,Tryz.ntmps204
  go_wp2
  go_loopw [1,5] (fun av ov wr=>∃ k o:Nat,av=.int .i64 k∧ov=.int .i64 o∧(k≤ns.length∨(k=k0∧o=1))∧o≤1+3*k∧Hid (zdk ns k o=endV ns (k0:Int))∧Below w.heap.size w wr) (fun av _ _=>ns.length-(intOf av).toNat)
  case atStart=>exact ⟨k0,1,rfl,rfl,Or.inr ⟨rfl,rfl⟩,by omega,HE,Below.refl _ _⟩
  case round =>
   obtain ⟨k,o,rfl,rfl,hk,ho,HT,hb⟩:=hrel;clear HE;by_cases hoz:o=0
   ·
    subst hoz;have HF:Hid ((k:Int)=endV ns (k0:Int)):=by exact (by rw [←HT.out,zhU]:(k:Int)=endV ns (k0:Int))
    go_wp2;go_ret;exact ⟨by rw [←HF.out];rfl,hb⟩
   ·
    obtain ⟨o',rfl⟩:∃ o',o=o'+1:=⟨o-1,by omega⟩
    have ho1:(0:Int)<((o'+1:Nat):Int):=by omega
    by_cases hkl:(ns.length:Int)≤(k:Int)
    ·
     have HF:Hid (endV ns (k0:Int)=-1):=by exact (by rw [←HT.out,zfB (by omega)]:endV ns (k0:Int)=-1)
     clear hoz;go_wp2;go_ret;exact ⟨by rw [HF.out];rfl,hb⟩
    ·
     obtain ⟨b,off,rfl,hbl,hcells⟩:=(HI.out.below hb).at (by omega);obtain ⟨c0,c1,c2,c3⟩:=hcells k (by omega);have hs:=HS.out k;have hz:=HN0.out k;obtain ⟨n,hn⟩:∃ n,ns.getD k nd0=n:=⟨_,rfl⟩
     rw [hn] at c0 c1 c2 c3 hs hz;have HN:Hid (ns.getD k nd0=n):=hn;have HC:Hid (_):=fun W:World=>zn6 n W hz hs.1 hs.2
     have HK:Hid (_):=kids_of n;generalize hkn:zcs n=kn at HC HK;obtain ⟨kd,aa,p,f⟩:=n;unfold za9 at HC;simp only at c0 c1 c2 c3 HC;clear hn hcells hoz hs hz hkn;go_wp2_with fail
     refine Calls.mono (HC.out _) ?_;rintro e w1 ⟨rfl,hb1⟩;have hB1:=hb.trans (hb1.mono hb.size);clear c0 c1 c2 c3 hb1 hb HC;rcases HK.out with ⟨hnb,rfl⟩ | ⟨hnb,rfl,hk3⟩
     ·
      have HF:Hid (endV ns (k0:Int)=-1):=by exact (by rw [←HT.out,zjX (by omega) (by rw [HN.out];exact hnb)]:endV ns (k0:Int)=-1)
      clear hnb;go_wp2;go_ret;exact ⟨by rw [HF.out];rfl,hB1⟩
     ·
      have HT2:Hid (zdk ns (k+1) (o'+zct (kd,aa,p,f))=endV ns (k0:Int)):=by have:=zgV (o:=o') (show k<ns.length by omega) (by rw [HN.out];exact hnb);rw [HN.out] at this;exact (by rw [←this];exact HT.out:zdk ns (k+1) (o'+zct (kd,aa,p,f))=endV ns (k0:Int))
      clear hnb;generalize zct (kd,aa,p,f)=q at hk3 HT2 ⊢;have hq1:((q:Int)==-1)=false:=beq_eq_false_iff_ne.2 (by omega);have hkk:k≤ns.length:=by omega
      clear hk HK;go_wp2;go_roundw
      case rel=>exact ⟨k+1,o'+q,by go_num,by go_num,Or.inl (by omega),by omega,HT2,hB1⟩
      case measure=>simp [intOf];omega
theorem zhq (ns:List Nd) (h:¬(1≤ns.length∧ns.length≤60)):zch ns=false:=decide_eq_false (fun g=>h g.1)
theorem znz (ns:List Nd) (h:1≤ns.length∧ns.length≤60):zch ns=(endV ns 0==(ns.length:Int)):=by
 rw [Bool.eq_iff_iff,beq_iff_eq];unfold zch;rw [decide_eq_true_iff];exact ⟨fun g=>g.2,fun g=>⟨h,g⟩⟩
theorem zn3 (a:Option Addr) (len cap:Nat) (ns:List Nd) (w:World) (hin:zay w a len ns) (hint:IntT ns) (hsh:zdo ns) (hlen:len≤1048576) :
 Calls Tryz.prog 203 #[.slice a len cap] w fun e w'=>e=.returned (.bool (zch ns))∧Below w.heap.size w w':=by
 obtain rfl:ns.length=len:=hin.1;have HC:Hid (_):=zoK a ns.length cap ns 0 w hin hint hsh hlen (by omega);by_cases h1:(1:Int)≤(ns.length:Int)
 ·
  by_cases h2:(ns.length:Int)≤60
  ·
   have HT:Hid (zch ns=(endV ns 0==(ns.length:Int))):=znz ns (by omega);generalize endV ns 0=e0 at HC HT;clear hin hint hsh
   go_enter Tryz.func203,Tryz.ntmps203
   go_wp2_with fail
   refine Calls.mono HC.out ?_;rintro e w1 ⟨rfl,hb1⟩;go_wp2;go_ret;exact ⟨by rw [HT.out];rfl,hb1⟩
  ·
   have HT:Hid (zch ns=false):=zhq ns (by omega);clear hin hint hsh
   go_enter Tryz.func203,Tryz.ntmps203
   go_wp2;go_ret;exact ⟨by rw [HT.out];rfl,Below.refl _ _⟩
 ·
  have HT:Hid (zch ns=false):=zhq ns (by omega);clear hin hint hsh
  go_enter Tryz.func203,Tryz.ntmps203
  go_wp2;go_ret;exact ⟨by rw [HT.out];rfl,Below.refl _ _⟩
def zdb (ts:List (List UInt8)):Bool:=decide (∀ i,i<ts.length→zaE (ts.getD i [])=true) && zfl ts
theorem zis (ts:List (List UInt8)):zaG ts=(decide (ts.length≤6) && zdb ts):=by
 unfold zaG zdb;cases decide (∀ i,i<ts.length→zaE (ts.getD i [])=true)<;>cases decide (ts.length≤6)<;>cases zfl ts<;>rfl
structure NrSt (ts:List (List UInt8)) (k:Nat) (z:List UInt8):Prop where
 names:∀ i,i<k→zaE (ts.getD i [])=true
 rise:∀ i,i+1<k→leT (ts.getD (i+1) []) (ts.getD i [])=false
 last:(k=0∧z=[])∨(0<k∧z=ts.getD (k-1) [])
theorem NrSt.noName {ts:List (List UInt8)} {k:Nat} (hk:k<ts.length) (hn:zaE (ts.getD k [])=false):zdb ts=false:=by
 unfold zdb;rw [decide_eq_false (fun g=>by rw [g k hk] at hn;cases hn)]
 rfl
theorem zoy {x:List UInt8} (h:zaE x=true):leT x []=false:=by
 have h1:=(zcl h).1.1;cases x with
 | nil=>simp at h1
 | cons c r=>simp [leT,Op.bytesLess]
theorem NrSt.noRise {ts:List (List UInt8)} {k:Nat} {z:List UInt8} (h:NrSt ts k z) (hk:k<ts.length) (hn:zaE (ts.getD k [])=true) (hl:leT (ts.getD k []) z=true):zdb ts=false:=by
 rcases h.last with ⟨rfl,rfl⟩ | ⟨h0,rfl⟩
 ·rw [zoy hn] at hl;cases hl
 ·unfold zdb;rw [zlL (j:=k-1) (by omega) (by rw [show k-1+1=k by omega];exact hl),Bool.and_false]
theorem NrSt.step {ts:List (List UInt8)} {k:Nat} {z:List UInt8} (h:NrSt ts k z) (hn:zaE (ts.getD k [])=true) (hl:leT (ts.getD k []) z=false):NrSt ts (k+1) (ts.getD k []):=by
 refine ⟨fun i hi=>?_,fun i hi=>?_,Or.inr ⟨by omega,by rw [Nat.add_sub_cancel]⟩⟩
 ·
  rcases Nat.lt_or_ge i k with g | g
  ·exact h.names i g
  ·
   obtain rfl:i=k:=by omega
   exact hn
 ·
  rcases Nat.lt_or_ge (i+1) k with g | g
  ·exact h.rise i g
  ·
   obtain rfl:k=i+1:=by omega
   rcases h.last with ⟨e,_⟩ | ⟨_,rfl⟩
   ·omega
   ·rw [Nat.add_sub_cancel] at hl;exact hl
theorem NrSt.all {ts:List (List UInt8)} {z:List UInt8} (h:NrSt ts ts.length z):zdb ts=true:=by
 unfold zdb;rw [decide_eq_true h.names,zjd (j:=ts.length-1) (by omega) (fun i hi=>h.rise i (by omega))]
 rfl
theorem zix (a:Option Addr) (len cap:Nat) (ts:List (List UInt8)) (w:World) (hin:za7 w a len ts) (hlen:len≤1048576) (hs:∀ i,(ts.getD i []).length≤1048576) :
 Calls Tryz.prog 199 #[.slice a len cap] w fun e w'=>e=.returned (.bool (zdb ts))∧w'=w:=by
 obtain rfl:ts.length=len:=hin.1;have HI:Hid (za7 w a ts.length ts):=hin;have HS:Hid (∀ i,(ts.getD i []).length≤1048576):=hs;clear hin hs
 go_enter Tryz.func199,Tryz.ntmps199
 go_wp2
 go_loopw [3,8] (fun lv iv wr=>∃ k:Nat,iv=.int .i64 (k:Int)∧k≤ts.length∧(∃ z:List UInt8,lv=.string ⟨z.toArray⟩∧Hid (NrSt ts k z))∧wr=w) (fun _ iv _=>ts.length-(intOf iv).toNat)
 case atStart=>exact ⟨0,rfl,by omega,⟨[],rfl,(⟨fun i hi=>by omega,fun i hi=>by omega,Or.inl ⟨rfl,rfl⟩⟩:NrSt ts 0 [])⟩,rfl⟩
 case round =>
  obtain ⟨k,rfl,hk,⟨z,rfl,HZ⟩,rfl⟩:=hrel;by_cases hlt:(k:Int)<(ts.length:Int)
  ·
   have hk2:k<ts.length:=by omega
   obtain ⟨b,off,rfl,hbl,c0⟩:=HI.out.2 k hk2;have hxl:=HS.out k;obtain ⟨x,hx⟩:∃ x,ts.getD k []=x:=⟨_,rfl⟩
   rw [hx] at c0 hxl;have hC:Hid (_):=zbV x wr hxl;rcases hnb:zaE x with _ | _
   ·
    have HR:Hid (zdb ts=false):=NrSt.noName hk2 (by rw [hx];exact hnb);rw [hnb] at hC;clear hx hnb HZ
    go_wp2_with (go_at_call 73;refine Calls.mono hC.out ?_;rintro e w1 ⟨rfl,rfl⟩)
    go_ret;exact ⟨by rw [HR.out];rfl,rfl⟩
   ·
    rcases hle:leT x z with _ | _
    ·
     have HZ2:Hid (NrSt ts (k+1) x):=by have h:=HZ.out.step (by rw [hx];exact hnb) (by rw [hx];exact hle);rw [hx] at h;exact h
     rw [hnb] at hC;unfold leT at hle;clear hx hnb HZ
     go_wp2_with (go_at_call 73;refine Calls.mono hC.out ?_;rintro e w1 ⟨rfl,rfl⟩)
     go_roundw
     case rel=>exact ⟨k+1,by go_num,by omega,⟨x,rfl,HZ2⟩,trivial⟩
     case measure=>simp [intOf];omega
    ·
     have HR:Hid (zdb ts=false):=HZ.out.noRise hk2 (by rw [hx];exact hnb) (by rw [hx];exact hle);rw [hnb] at hC;unfold leT at hle;clear hx hnb HZ
     go_wp2_with (go_at_call 73;refine Calls.mono hC.out ?_;rintro e w1 ⟨rfl,rfl⟩)
     go_ret;exact ⟨by rw [HR.out];rfl,rfl⟩
  ·
   obtain rfl:k=ts.length:=by omega
   have HR:Hid (zdb ts=true):=HZ.out.all;go_wp2;go_ret;exact ⟨by rw [HR.out];rfl,rfl⟩
theorem ziy (a:Option Addr) (len cap:Nat) (ts:List (List UInt8)) (w:World) (hin:za7 w a len ts) (hlen:len≤1048576) (hs:∀ i,(ts.getD i []).length≤1048576) :
 Calls Tryz.prog 193 #[.slice a len cap] w fun e w'=>e=.returned (.bool (zaG ts))∧w'=w:=by
 have hC:Hid (_):=zix a len cap ts w hin hlen hs;obtain rfl:ts.length=len:=hin.1;have HR:Hid (zaG ts=(decide (ts.length≤6) && zdb ts)):=zis ts;clear hin hs
 go_enter Tryz.func193,Tryz.ntmps193
 by_cases h6:(ts.length:Int)≤6
 ·
  have HD:Hid (decide (ts.length≤6)=true):=decide_eq_true (by omega)
  go_wp2_with (go_at_call 199;refine Calls.mono hC.out ?_;rintro e w1 ⟨rfl,rfl⟩)
  go_ret;exact ⟨by rw [HR.out,HD.out];rfl,rfl⟩
 ·have HD:Hid (decide (ts.length≤6)=false):=decide_eq_false (by omega);go_wp2;go_ret;exact ⟨by rw [HR.out,HD.out];rfl,rfl⟩
end Go.Proofs.YtponeoijfaepnaaGreatDoor
