/-
  Parts of one proof, one behind the other: TreeI.
-/
import Derived.Test.YtdbljnddkbpanaaGreatDoorP35
import Derived.Test.YtdbljnddkbpanaaGreatDoorP14
import Derived.Test.YtdbljnddkbpanaaGreatDoorP12
import Derived.Test.YtdbljnddkbpanaaGreatDoorP33
namespace Go.Proofs.YtdbljnddkbpanaaGreatDoor
open Go.RowKit
def zbn:Sh→Value
 | .num a=>.iface 238 (.agg #[.int .i64 a])
 | .arg a=>.iface 240 (.agg #[.int .i64 a])
 | .pair k=>.iface 242 (.agg #[.int .i64 k])
 | .cond=>.iface 244 (.agg #[])
 | .call p f a=>.iface 246 (.agg #[.string ⟨p.toArray⟩,.string ⟨f.toArray⟩,.int .i64 a])
 | .no=>.iface 247 (.agg #[])
theorem zis (v:Value) (w:World):(Instr.typeAssert (.iface 238 v) 233 238 true).run Tryz.prog w=.ok (.tuple #[v,.bool true]) w:=by kernel_rfl
theorem zit (v:Value) (w:World):(Instr.typeAssert (.iface 238 v) 233 240 true).run Tryz.prog w=.ok (.tuple #[.agg #[.int .i64 0],.bool false]) w:=by kernel_rfl
theorem zho (v:Value) (w:World):(Instr.typeAssert (.iface 238 v) 233 242 true).run Tryz.prog w=.ok (.tuple #[.agg #[.int .i64 0],.bool false]) w:=by kernel_rfl
theorem zhp (v:Value) (w:World):(Instr.typeAssert (.iface 238 v) 233 244 true).run Tryz.prog w=.ok (.tuple #[.agg #[],.bool false]) w:=by kernel_rfl
theorem zhq (v:Value) (w:World):(Instr.typeAssert (.iface 238 v) 233 246 true).run Tryz.prog w=.ok (.tuple #[.agg #[.string ByteArray.empty,.string ByteArray.empty,.int .i64 0],.bool false]) w:=by kernel_rfl
theorem zix (v:Value) (w:World):(Instr.typeAssert (.iface 240 v) 233 238 true).run Tryz.prog w=.ok (.tuple #[.agg #[.int .i64 0],.bool false]) w:=by kernel_rfl
theorem ziy (v:Value) (w:World):(Instr.typeAssert (.iface 240 v) 233 240 true).run Tryz.prog w=.ok (.tuple #[v,.bool true]) w:=by kernel_rfl
theorem zhv (v:Value) (w:World):(Instr.typeAssert (.iface 240 v) 233 242 true).run Tryz.prog w=.ok (.tuple #[.agg #[.int .i64 0],.bool false]) w:=by kernel_rfl
theorem zhw (v:Value) (w:World):(Instr.typeAssert (.iface 240 v) 233 244 true).run Tryz.prog w=.ok (.tuple #[.agg #[],.bool false]) w:=by kernel_rfl
theorem zhx (v:Value) (w:World):(Instr.typeAssert (.iface 240 v) 233 246 true).run Tryz.prog w=.ok (.tuple #[.agg #[.string ByteArray.empty,.string ByteArray.empty,.int .i64 0],.bool false]) w:=by kernel_rfl
theorem zhm (v:Value) (w:World):(Instr.typeAssert (.iface 242 v) 233 238 true).run Tryz.prog w=.ok (.tuple #[.agg #[.int .i64 0],.bool false]) w:=by kernel_rfl
theorem zhn (v:Value) (w:World):(Instr.typeAssert (.iface 242 v) 233 240 true).run Tryz.prog w=.ok (.tuple #[.agg #[.int .i64 0],.bool false]) w:=by kernel_rfl
theorem zg2 (v:Value) (w:World):(Instr.typeAssert (.iface 242 v) 233 242 true).run Tryz.prog w=.ok (.tuple #[v,.bool true]) w:=by kernel_rfl
theorem zg3 (v:Value) (w:World):(Instr.typeAssert (.iface 242 v) 233 244 true).run Tryz.prog w=.ok (.tuple #[.agg #[],.bool false]) w:=by kernel_rfl
theorem zg4 (v:Value) (w:World):(Instr.typeAssert (.iface 242 v) 233 246 true).run Tryz.prog w=.ok (.tuple #[.agg #[.string ByteArray.empty,.string ByteArray.empty,.int .i64 0],.bool false]) w:=by kernel_rfl
theorem zhr (v:Value) (w:World):(Instr.typeAssert (.iface 244 v) 233 238 true).run Tryz.prog w=.ok (.tuple #[.agg #[.int .i64 0],.bool false]) w:=by kernel_rfl
theorem zhs (v:Value) (w:World):(Instr.typeAssert (.iface 244 v) 233 240 true).run Tryz.prog w=.ok (.tuple #[.agg #[.int .i64 0],.bool false]) w:=by kernel_rfl
theorem zg5 (v:Value) (w:World):(Instr.typeAssert (.iface 244 v) 233 242 true).run Tryz.prog w=.ok (.tuple #[.agg #[.int .i64 0],.bool false]) w:=by kernel_rfl
theorem zg6 (v:Value) (w:World):(Instr.typeAssert (.iface 244 v) 233 244 true).run Tryz.prog w=.ok (.tuple #[v,.bool true]) w:=by kernel_rfl
theorem zg7 (v:Value) (w:World):(Instr.typeAssert (.iface 244 v) 233 246 true).run Tryz.prog w=.ok (.tuple #[.agg #[.string ByteArray.empty,.string ByteArray.empty,.int .i64 0],.bool false]) w:=by kernel_rfl
theorem zht (v:Value) (w:World):(Instr.typeAssert (.iface 246 v) 233 238 true).run Tryz.prog w=.ok (.tuple #[.agg #[.int .i64 0],.bool false]) w:=by kernel_rfl
theorem zhu (v:Value) (w:World):(Instr.typeAssert (.iface 246 v) 233 240 true).run Tryz.prog w=.ok (.tuple #[.agg #[.int .i64 0],.bool false]) w:=by kernel_rfl
theorem zg8 (v:Value) (w:World):(Instr.typeAssert (.iface 246 v) 233 242 true).run Tryz.prog w=.ok (.tuple #[.agg #[.int .i64 0],.bool false]) w:=by kernel_rfl
theorem zg9 (v:Value) (w:World):(Instr.typeAssert (.iface 246 v) 233 244 true).run Tryz.prog w=.ok (.tuple #[.agg #[],.bool false]) w:=by kernel_rfl
theorem zga (v:Value) (w:World):(Instr.typeAssert (.iface 246 v) 233 246 true).run Tryz.prog w=.ok (.tuple #[v,.bool true]) w:=by kernel_rfl
theorem zkN (v:Value) (w:World):(Instr.typeAssert (.iface 247 v) 233 238 true).run Tryz.prog w=.ok (.tuple #[.agg #[.int .i64 0],.bool false]) w:=by kernel_rfl
theorem zkO (v:Value) (w:World):(Instr.typeAssert (.iface 247 v) 233 240 true).run Tryz.prog w=.ok (.tuple #[.agg #[.int .i64 0],.bool false]) w:=by kernel_rfl
theorem ziu (v:Value) (w:World):(Instr.typeAssert (.iface 247 v) 233 242 true).run Tryz.prog w=.ok (.tuple #[.agg #[.int .i64 0],.bool false]) w:=by kernel_rfl
theorem ziv (v:Value) (w:World):(Instr.typeAssert (.iface 247 v) 233 244 true).run Tryz.prog w=.ok (.tuple #[.agg #[],.bool false]) w:=by kernel_rfl
theorem ziw (v:Value) (w:World):(Instr.typeAssert (.iface 247 v) 233 246 true).run Tryz.prog w=.ok (.tuple #[.agg #[.string ByteArray.empty,.string ByteArray.empty,.int .i64 0],.bool false]) w:=by kernel_rfl
set_option maxHeartbeats 2000000 in
set_option maxRecDepth 100000 in
theorem zbf (n:Nd) (w:World):Calls Tryz.prog 189 #[za8 n] w fun e w'=>e=.returned (zbn (shOf n))∧Below w.heap.size w w':=by
 obtain ⟨k,a,p,f⟩:=n
 rcases zec (k,a,p,f) with ⟨h,e⟩ | ⟨h,e⟩ | ⟨h,e⟩ | ⟨h,e⟩ | ⟨h,e⟩ | ⟨h,e⟩
 ·
  rw [e];simp only at h;subst h;clear e
  unfold za8 zbn;simp only
  go_enter Tryz.func189,Tryz.ntmps189
  go_wp2
  go_ret
  exact ⟨rfl,(Below.refl _ w).alloc (Nat.le_refl _) _⟩
 ·
  rw [e];simp only at h;subst h;clear e
  unfold za8 zbn;simp only
  go_enter Tryz.func189,Tryz.ntmps189
  go_wp2
  go_ret
  exact ⟨rfl,(Below.refl _ w).alloc (Nat.le_refl _) _⟩
 ·
  rw [e];simp only at h;clear e
  rcases (show k=3∨k=4∨k=5∨k=6 by omega) with rfl | rfl | rfl | rfl
  all_goals
   unfold za8 zbn;simp only
   go_enter Tryz.func189,Tryz.ntmps189
   go_wp2
   go_ret
   exact ⟨rfl,(Below.refl _ w).alloc (Nat.le_refl _) _⟩
 ·
  rw [e];simp only at h;subst h;clear e
  unfold za8 zbn;simp only
  go_enter Tryz.func189,Tryz.ntmps189
  go_wp2
  go_ret
  exact ⟨rfl,(Below.refl _ w).alloc (Nat.le_refl _) _⟩
 ·
  rw [e];simp only at h;subst h;clear e
  unfold za8 zbn;simp only
  go_enter Tryz.func189,Tryz.ntmps189
  go_wp2
  go_ret
  exact ⟨rfl,(Below.refl _ w).alloc (Nat.le_refl _) _⟩
 ·
  rw [e];simp only at h;clear e
  have d1:(k==1)=false:=beq_eq_false_iff_ne.2 (by omega)
  have d2:(k==2)=false:=beq_eq_false_iff_ne.2 (by omega)
  have d3:(k==3)=false:=beq_eq_false_iff_ne.2 (by omega)
  have d4:(k==4)=false:=beq_eq_false_iff_ne.2 (by omega)
  have d5:(k==5)=false:=beq_eq_false_iff_ne.2 (by omega)
  have d6:(k==6)=false:=beq_eq_false_iff_ne.2 (by omega)
  have d7:(k==7)=false:=beq_eq_false_iff_ne.2 (by omega)
  have d8:(k==8)=false:=beq_eq_false_iff_ne.2 (by omega)
  clear h
  unfold za8 zbn;simp only
  go_enter Tryz.func189,Tryz.ntmps189
  go_wp2
  go_ret
  exact ⟨rfl,(Below.refl _ w).alloc (Nat.le_refl _) _⟩
set_option maxHeartbeats 2000000 in
set_option maxRecDepth 100000 in
theorem zgY (s:Sh) (w:World):Calls Tryz.prog 188 #[zbn s] w fun e w'=>e=.returned (.int .i64 (zme s))∧Below w.heap.size w w':=by
 cases s with
 | num a =>
  unfold zbn;simp only
  have q0:=zis
  have q1:=zit
  have q2:=zho
  have q3:=zhp
  have q4:=zhq
  go_enter Tryz.func188,Tryz.ntmps188
  go_wp2
  go_ret
  exact ⟨rfl,Below.refl _ w⟩
 | arg a =>
  unfold zbn;simp only
  have q0:=zix
  have q1:=ziy
  have q2:=zhv
  have q3:=zhw
  have q4:=zhx
  go_enter Tryz.func188,Tryz.ntmps188
  go_wp2
  go_ret
  exact ⟨rfl,Below.refl _ w⟩
 | pair k =>
  unfold zbn;simp only
  have q0:=zhm
  have q1:=zhn
  have q2:=zg2
  have q3:=zg3
  have q4:=zg4
  go_enter Tryz.func188,Tryz.ntmps188
  go_wp2
  go_ret
  exact ⟨rfl,(Below.refl _ w).alloc (Nat.le_refl _) _⟩
 | cond =>
  unfold zbn;simp only
  have q0:=zhr
  have q1:=zhs
  have q2:=zg5
  have q3:=zg6
  have q4:=zg7
  go_enter Tryz.func188,Tryz.ntmps188
  go_wp2
  go_ret
  exact ⟨rfl,(Below.refl _ w).alloc (Nat.le_refl _) _⟩
 | call p f a =>
  unfold zbn;simp only
  have q0:=zht
  have q1:=zhu
  have q2:=zg8
  have q3:=zg9
  have q4:=zga
  go_enter Tryz.func188,Tryz.ntmps188
  go_wp2
  go_ret
  exact ⟨rfl,(Below.refl _ w).alloc (Nat.le_refl _) _⟩
 | no =>
  unfold zbn;simp only
  have q0:=zkN
  have q1:=zkO
  have q2:=ziu
  have q3:=ziv
  have q4:=ziw
  go_enter Tryz.func188,Tryz.ntmps188
  go_wp2
  go_ret
  exact ⟨rfl,Below.refl _ w⟩
set_option maxHeartbeats 4000000 in
set_option maxRecDepth 100000 in
theorem zbp (s:Sh) (w:World) (hl:∀ p f a,s=.call p f a→p.length≤1048576∧f.length≤1048576):Calls Tryz.prog 190 #[zbn s] w fun e w'=>e=.returned (.bool (shOk s))∧Below w.heap.size w w':=by
 cases s with
 | num a =>
  unfold zbn;simp only
  have q0:=zis
  have q1:=zit
  have q2:=zho
  have q3:=zhp
  have q4:=zhq
  go_enter Tryz.func190,Tryz.ntmps190
  go_wp2_with fail
  refine (zlr _ _).mono ?_
  rintro e w1 ⟨rfl,rfl⟩
  go_wp2
  go_ret
  exact ⟨rfl,(Below.refl _ w).alloc (Nat.le_refl _) _⟩
 | arg a =>
  unfold zbn;simp only
  have q0:=zix
  have q1:=ziy
  have q2:=zhv
  have q3:=zhw
  have q4:=zhx
  have HO:Hid (shOk (.arg a)=inB a 0 2):=by exact (rfl:shOk (.arg a)=inB a 0 2)
  by_cases h1:0≤a
  ·
   by_cases h2:a≤2
   ·
    have HB:Hid (inB a 0 2=true):=zdG _ _ _ h1 h2
    go_enter Tryz.func190,Tryz.ntmps190
    go_wp2
    go_ret
    exact ⟨by rw [HO.out,HB.out];rfl,(Below.refl _ w).alloc (Nat.le_refl _) _⟩
   ·
    have HB:Hid (inB a 0 2=false):=zcv _ _ _ (by omega)
    go_enter Tryz.func190,Tryz.ntmps190
    go_wp2
    go_ret
    exact ⟨by rw [HO.out,HB.out];rfl,(Below.refl _ w).alloc (Nat.le_refl _) _⟩
  ·
   have HB:Hid (inB a 0 2=false):=zcv _ _ _ (by omega)
   go_enter Tryz.func190,Tryz.ntmps190
   go_wp2
   go_ret
   exact ⟨by rw [HO.out,HB.out];rfl,(Below.refl _ w).alloc (Nat.le_refl _) _⟩
 | pair k =>
  unfold zbn;simp only
  have q0:=zhm
  have q1:=zhn
  have q2:=zg2
  have q3:=zg3
  have q4:=zg4
  go_enter Tryz.func190,Tryz.ntmps190
  go_wp2
  go_ret
  exact ⟨rfl,Below.refl _ w⟩
 | cond =>
  unfold zbn;simp only
  have q0:=zhr
  have q1:=zhs
  have q2:=zg5
  have q3:=zg6
  have q4:=zg7
  go_enter Tryz.func190,Tryz.ntmps190
  go_wp2
  go_ret
  exact ⟨rfl,Below.refl _ w⟩
 | call p f a =>
  unfold zbn;simp only
  have q0:=zht
  have q1:=zhu
  have q2:=zg8
  have q3:=zg9
  have q4:=zga
  obtain ⟨hp,hf⟩:=hl p f a rfl
  have HO:Hid (shOk (.call p f a)=(inB a 0 3 && (zaF p && zaF f))):=by exact (rfl:shOk (.call p f a)=(inB a 0 3 && (zaF p && zaF f)))
  by_cases h1:0≤a
  ·
   by_cases h2:a≤3
   ·
    have HB:Hid (inB a 0 3=true):=zdG _ _ _ h1 h2
    rcases hn:zaF p with _ | _
    ·
     have HN:Hid (zaF p=false):=hn
     clear hn
     go_enter Tryz.func190,Tryz.ntmps190
     go_wp2_with fail
     refine (zbW p _ hp).mono ?_
     rintro e w1 ⟨rfl,rfl⟩
     rw [HN.out]
     go_wp2
     go_ret
     exact ⟨by rw [HO.out,HB.out,HN.out];rfl,(Below.refl _ w).alloc (Nat.le_refl _) _⟩
    ·
     have HN:Hid (zaF p=true):=hn
     clear hn
     go_enter Tryz.func190,Tryz.ntmps190
     go_wp2_with fail
     refine (zbW p _ hp).mono ?_
     rintro e w1 ⟨rfl,rfl⟩
     rw [HN.out]
     go_wp2_with fail
     refine (zbW f _ hf).mono ?_
     rintro e w1 ⟨rfl,rfl⟩
     go_wp2
     go_ret
     exact ⟨by rw [HO.out,HB.out,HN.out];rfl,(Below.refl _ w).alloc (Nat.le_refl _) _⟩
   ·
    have HB:Hid (inB a 0 3=false):=zcv _ _ _ (by omega)
    go_enter Tryz.func190,Tryz.ntmps190
    go_wp2
    go_ret
    exact ⟨by rw [HO.out,HB.out];rfl,(Below.refl _ w).alloc (Nat.le_refl _) _⟩
  ·
   have HB:Hid (inB a 0 3=false):=zcv _ _ _ (by omega)
   go_enter Tryz.func190,Tryz.ntmps190
   go_wp2
   go_ret
   exact ⟨by rw [HO.out,HB.out];rfl,(Below.refl _ w).alloc (Nat.le_refl _) _⟩
 | no =>
  unfold zbn;simp only
  have q0:=zkN
  have q1:=zkO
  have q2:=ziu
  have q3:=ziv
  have q4:=ziw
  go_enter Tryz.func190,Tryz.ntmps190
  go_wp2
  go_ret
  exact ⟨rfl,Below.refl _ w⟩
set_option maxHeartbeats 1000000 in
set_option maxRecDepth 100000 in
theorem node_num (a:Int) (w:World):Calls Tryz.prog 232 #[.agg #[.int .i64 a]] w fun e w'=>e=.returned (za8 (zaN (.num a)))∧Below w.heap.size w w':=by
 go_enter Tryz.func232,Tryz.ntmps232
 go_wp2
 refine bodyPost_ret (v:=.agg #[.int .i64 1,.int .i64 a,.string ⟨#[]⟩,.string ⟨#[]⟩]) (by simp [results,Tryz.results232,go_sem]) rfl ?_
 exact ⟨rfl,((Below.refl _ w).alloc (Nat.le_refl _) _).alloc (by simp) _⟩
set_option maxHeartbeats 1000000 in
set_option maxRecDepth 100000 in
theorem node_arg (a:Int) (w:World):Calls Tryz.prog 233 #[.agg #[.int .i64 a]] w fun e w'=>e=.returned (za8 (zaN (.arg a)))∧Below w.heap.size w w':=by
 go_enter Tryz.func233,Tryz.ntmps233
 go_wp2
 refine bodyPost_ret (v:=.agg #[.int .i64 2,.int .i64 a,.string ⟨#[]⟩,.string ⟨#[]⟩]) (by simp [results,Tryz.results233,go_sem]) rfl ?_
 exact ⟨rfl,((Below.refl _ w).alloc (Nat.le_refl _) _).alloc (by simp) _⟩
set_option maxHeartbeats 1000000 in
set_option maxRecDepth 100000 in
theorem zoJ (k:Int) (w:World):Calls Tryz.prog 234 #[.agg #[.int .i64 k]] w fun e w'=>e=.returned (za8 (zaN (.pair k)))∧Below w.heap.size w w':=by
 go_enter Tryz.func234,Tryz.ntmps234
 go_wp2
 refine bodyPost_ret (v:=.agg #[.int .i64 k,.int .i64 0,.string ⟨#[]⟩,.string ⟨#[]⟩]) (by simp [results,Tryz.results234,go_sem]) rfl ?_
 exact ⟨rfl,((Below.refl _ w).alloc (Nat.le_refl _) _).alloc (by simp) _⟩
set_option maxHeartbeats 1000000 in
set_option maxRecDepth 100000 in
theorem zoK  (w:World):Calls Tryz.prog 235 #[.agg #[]] w fun e w'=>e=.returned (za8 (zaN (.cond)))∧Below w.heap.size w w':=by
 go_enter Tryz.func235,Tryz.ntmps235
 go_wp2
 refine bodyPost_ret (v:=.agg #[.int .i64 7,.int .i64 0,.string ⟨#[]⟩,.string ⟨#[]⟩]) (by simp [results,Tryz.results235,go_sem]) rfl ?_
 exact ⟨rfl,((Below.refl _ w).alloc (Nat.le_refl _) _).alloc (by simp) _⟩
set_option maxHeartbeats 1000000 in
set_option maxRecDepth 100000 in
theorem zoL (p:List UInt8) (f:List UInt8) (a:Int) (w:World):Calls Tryz.prog 236 #[.agg #[.string ⟨p.toArray⟩,.string ⟨f.toArray⟩,.int .i64 a]] w fun e w'=>e=.returned (za8 (zaN (.call p f a)))∧Below w.heap.size w w':=by
 go_enter Tryz.func236,Tryz.ntmps236
 go_wp2
 refine bodyPost_ret (v:=.agg #[.int .i64 8,.int .i64 a,.string ⟨p.toArray⟩,.string ⟨f.toArray⟩]) (by simp [results,Tryz.results236,go_sem]) rfl ?_
 exact ⟨rfl,((Below.refl _ w).alloc (Nat.le_refl _) _).alloc (by simp) _⟩
end Go.Proofs.YtdbljnddkbpanaaGreatDoor
