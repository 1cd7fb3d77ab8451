/-
  Parts of one proof, one behind the other: OrdJ, FltK, FltL.
-/
import Derived.Test.YtdbljnddkbpanaaGreatDoorP42
import Derived.Test.YtdbljnddkbpanaaGreatDoorP41
import Derived.Test.YtdbljnddkbpanaaGreatDoorP23
namespace Go.Proofs.YtdbljnddkbpanaaGreatDoor
open Go.RowKit
theorem g_len8 {ps:List Pk} {out:List Nat} {f:Nat} (g:Kf8 ps out f):out.length+1≤8:=by
 have h1:=(g.or.step (zac g.pj).1.nodup g.nx).len
 have h2:=(zac g.pj).2.1.2
 simp [zaM] at h1
 omega
set_option maxHeartbeats 8000000 in
set_option maxRecDepth 100000 in
theorem zdo (a:Option Addr) (len cap:Nat) (ps:List Pk) (w:World) (h:zal w a len cap ps) (hpj:zaL ps=true) :
 Calls Tryz.prog 105 #[.slice a len cap] w fun e w'=>∃ v,e=.returned v∧∃ out,w'.ownsRow w.heap.size 3 1 v out.length (natV out)∧zaM ps out=zax ps∧(∀ x∈out,x<len)∧out.length≤8∧Below w.heap.size w w':=by
 obtain rfl:ps.length=len:=h.hlen
 have hn8:ps.length≤8:=(zac hpj).2.1.2
 have HI:Hid (zal w a ps.length cap ps):=h
 have HP:Hid (zaL ps=true):=hpj
 clear h hpj
 obtain ⟨i0,hi,hz0,hz1,hz2⟩:=info_parts info3
 have hmk:∀ W:World,(Instr.makeSlice 134 (.int .i64 (ps.length:Int)) (.int .i64 (ps.length:Int))).run Tryz.prog W=.ok (.slice (some ⟨W.heap.size,0,none⟩) ps.length ps.length) (W.alloc (.cells (madeCells (Value.int .i64 0).cells ps.length) 3)):=fun W=>by
  have h:=run_make (P:=Tryz.prog) W 134 3 i0 (.int .i64 0) Tryz.underlying134 hi hz0 .i64 .i64 (ps.length:Int) (ps.length:Int) (by omega) (by omega) (by rw [hz2];omega) (by omega)
  rw [hz1] at h
  simpa using h
 clear hi hz0 hz1 hz2
 have HS0:Hid (_):=zoq w ps.length (by omega)
 have HB0:Hid (Below w.heap.size w (((w.alloc (.cells (madeCells (Value.int .i64 0).cells ps.length) 3)).alloc (.cells #[] 3)).alloc (.cells #[.slice (some ⟨w.heap.size+1,0,none⟩) 0 0] 169))):=(((Below.refl _ _).alloc (Nat.le_refl _) _).alloc (by simp) _).alloc (by simp;omega) _
 have HK0:Hid (Ks8 ps 0 (List.replicate ps.length 0) []):=Ks8.zero ps List.length_replicate
 obtain ⟨nb,hnb⟩:∃ nb,w.heap.size+1+1=nb:=⟨_,rfl⟩
 rw [show w.heap.size+2=w.heap.size+1+1 from rfl,hnb] at HS0
 go_enter Tryz.func105,Tryz.ntmps105
 go_wp2
 go_loopw [17] (fun iv wr=>∃ (k:Nat) (hv:Value) (ws hl:List Nat),iv=.int .i64 (k:Int)∧k≤ps.length∧Hid (Po8 wr w.heap.size w.heap.size nb ps.length hv (.slice none 0 0) ws hl [])∧Hid (Ks8 ps k ws hl)∧Hid (Below w.heap.size w wr)) (fun iv _=>ps.length-(intOf iv).toNat)
 case atStart=>exact ⟨0,_,_,_,rfl,by omega,HS0,HK0,HB0⟩
 case round =>
  obtain ⟨k,hv,ws,hl,rfl,hk,HS,HK,HB⟩:=hrel
  clear HS0 HB0 HK0 hmk
  by_cases hlt:(k:Int)<(ps.length:Int)
  ·
   have hk2:k<ps.length:=by omega
   have HPo:Hid (_):=ze1 a ps.length cap ps k wr (HI.out.below HB.out) hk2
   obtain ⟨m,hm⟩:∃ m,wt8 ps [] k=m:=⟨_,rfl⟩
   have hlm:(plc ps (zbc ps k)).length=m:=by rw [←wt8_nil];exact hm
   have hhl:=HK.out.hlen (by omega)
   go_wp2_with fail
   refine Calls.mono HPo.out ?_
   rintro e w1 ⟨v1,rfl,ho1,hb1⟩
   rw [hlm] at ho1
   obtain ⟨pa,pc,rfl,_⟩:=zbu ho1 hlm
   have s1:=HS.out.below hb1
   have hB1:Below w.heap.size w w1:=HB.out.trans (hb1.mono HB.out.size)
   obtain ⟨s2,hB2⟩:=s1.setw hB1.size k m
   have c1:=zbS s1.ow s1.wl k hk2
   have f1:=s1.ow.frozenAt k
   have c2:=zbS s2.ow s2.wl k hk2
   rw [zcJ (by rw [s1.wl];exact hk2),if_pos rfl] at c2
   obtain ⟨W2,hW2⟩:∃ W2,w1.setCell ⟨w.heap.size,k,none⟩ (.int .i64 (m:Int))=W2:=⟨_,rfl⟩
   rw [hW2] at s2 hB2 c2
   have HS2:Hid (Po8 W2 w.heap.size w.heap.size nb ps.length hv (.slice none 0 0) (ws.set k m) hl []):=s2
   have HB2:Hid (Below w.heap.size w W2):=hB1.trans hB2
   have HM:Hid (wt8 ps [] k=m):=hm
   clear HPo ho1 hb1 s1 hB1 s2 hB2 hlm hm HS HB
   by_cases hm0:m=0
   ·
    subst hm0
    have hW3:w1.setCell ⟨w.heap.size,k,none⟩ (.int .i64 0)=W2:=hW2
    have c3:W2.cell? ⟨w.heap.size,k,none⟩=some (.int .i64 0):=c2
    go_wp2_with fail
    refine (zmB w.heap.size nb hv hl k W2 HS2.out.hp HS2.out.hn (by omega)).mono ?_
    rintro e w3 ⟨rfl,v3,l3,h3,hn3,hp3,hw3,hat3⟩
    obtain ⟨s3,hB3⟩:=HS2.out.push HB2.out.size h3 hn3 hw3 hat3
    have HS3:Hid (Po8 w3 w.heap.size w.heap.size nb ps.length v3 (.slice none 0 0) (ws.set k 0) l3 []):=s3
    have HB3:Hid (Below w.heap.size w w3):=HB2.out.trans hB3
    have HK3:Hid (Ks8 ps (k+1) (ws.set k 0) l3):=by
     have:=HK.out.push hk2 HM.out hp3
     rw [HM.out] at this
     exact this
    clear h3 hn3 hp3 hw3 hat3 s3 hB3
    go_wp2
    go_roundw
    case rel=>exact ⟨k+1,v3,_,l3,by go_num,by omega,HS3,HK3,HB3⟩
    case measure=>simp [intOf];omega
   ·
    have hmz:¬(m:Int)=0:=by omega
    have HK3:Hid (Ks8 ps (k+1) (ws.set k m) hl):=by
     have:=HK.out.pass hk2 (by rw [HM.out];exact hm0)
     rw [HM.out] at this
     exact this
    go_wp2
    go_roundw
    case rel=>exact ⟨k+1,hv,_,hl,by go_num,by omega,HS2,HK3,HB2⟩
    case measure=>simp [intOf];omega
  ·
   obtain rfl:k=ps.length:=by omega
   obtain ⟨V,hV⟩:∃ V,V=wr:=⟨_,rfl⟩
   subst hV
   have HA0:Hid (Ka8 ps [] ws hl):=HK.out.start
   have HS0:Hid (Po8 (V.alloc (.cells #[] 3)) w.heap.size w.heap.size nb ps.length hv (.slice (some ⟨V.heap.size,0,none⟩) 0 0) ws hl []):=HS.out.newo HB.out.size
   have HB0:Hid (Below w.heap.size w (V.alloc (.cells #[] 3))):=HB.out.alloc HB.out.size _
   clear HK HS HB
   go_wp2
   go_loopw [6] (fun ov wr=>∃ (m:Nat) (oa:Option Addr) (oc:Nat) (hv:Value) (ws hl out:List Nat),ov=.slice oa m oc∧m≤8∧Hid (out.length=m)∧Hid (Po8 wr w.heap.size w.heap.size nb ps.length hv (.slice oa m oc) ws hl out)∧Hid (Ka8 ps out ws hl)∧Hid (Below w.heap.size w wr)) (fun ov _=>100-lenS8 ov)
   case atStart=>exact ⟨0,_,0,hv,ws,hl,[],rfl,by omega,rfl,HS0,HA0,HB0⟩
   case round =>
    obtain ⟨m,oa,oc,hv,ws,hl,out,rfl,hm8,HLo,HS,HA,HB⟩:=hrel
    clear HS0 HA0 HB0
    obtain ⟨Z,hZ⟩:∃ Z,Z=wr:=⟨_,rfl⟩
    subst hZ
    obtain ⟨q,hq⟩:∃ q,hl.length=q:=⟨_,rfl⟩
    obtain ⟨ha,hc,rfl,_⟩:=zbu (HS.out.hp.rown hq) hq
    have c0:=HS.out.hp.cell
    rcases Nat.eq_zero_or_pos q with hq0 | hq0
    ·
     subst hq0
     have hnil:hl=[]:=List.eq_nil_of_length_eq_zero hq
     subst hnil
     have HE:Hid (zaM ps out=zax ps∧(∀ x∈out,x<ps.length)):=⟨HA.out.done,HA.out.lt⟩
     have HO:Hid (Z.ownsRow w.heap.size 3 1 (.slice oa m oc) out.length (natV out)):=HS.out.oo
     clear hq
     go_wp2_with (go_at_call 136;refine (upLen _ _ _ _).mono ?_;rintro e w2 ⟨rfl,hw2⟩;obtain rfl:=hw2.symm)
     go_ret
     exact ⟨_,rfl,out,HO.out,HE.out.1,HE.out.2,by rw [HLo.out];exact hm8,HB.out⟩
    ·
     obtain ⟨q,rfl⟩:∃ p,q=p+1:=⟨q-1,by omega⟩
     obtain ⟨g,hc2,hge⟩:=zaw (HS.out.hp.rown hq) (by omega)
     injection hge with e1 _ e3
     subst e1
     subst e3
     have hhl:=HA.out.hlen
     have HT:Hid (_):=ziY w.heap.size nb g q hc hl Z HS.out.hp hq HS.out.hn (by omega)
     have hqz:(0:Int)<(q:Int)+1:=by omega
     obtain ⟨f,hf⟩:∃ f,hl.getD 0 0=f:=⟨_,rfl⟩
     rw [hf] at HT
     clear hq hf
     go_wp2_with (go_at_call 136;refine (upLen _ _ _ _).mono ?_;rintro e w2 ⟨rfl,hw2⟩;obtain rfl:=hw2.symm)
     refine Calls.mono HT.out ?_
     rintro e w1 ⟨rfl,l1,h1,hn1,_,hp1,hmin1,hw1⟩
     obtain ⟨s1,hB1⟩:=HS.out.push HB.out.size h1 hn1 (hw1.mono (fun k e=>e.imp id (fun e=>by rw [e];rfl))) (fun k e=>Or.inl e)
     obtain ⟨kf,kb⟩:=HA.out.take HP.out hp1 hmin1
     have hBw1:=HB.out.trans hB1
     obtain ⟨g',c',Y,hr,s2,hB2⟩:=s1.app hBw1.size (by rw [HLo.out];omega) f
     rw [HLo.out] at hr s2
     have HF:Hid (Kf8 ps out f):=kf
     have HKb0:Hid (Kb8 ps out f 0 ws l1):=kb
     have HSb0:Hid (Po8 Y w.heap.size w.heap.size nb ps.length (.slice (some ⟨g,0,none⟩) q hc) (.slice (some ⟨g',0,none⟩) (m+1) c') ws l1 (out++[f])):=s2
     have HBb0:Hid (Below w.heap.size w Y):=hBw1.trans hB2
     have hm7:m+1≤8:=by
      have h1:=(g_len8 kf)
      rw [HLo.out] at h1
      omega
     have hfl:=kf.fl
     clear HT h1 hn1 hp1 hmin1 hw1 s1 hB1 kf kb hBw1 s2 hB2 HS HA HB c0 hhl
     go_wp2_with (at_builtin;refine za0 rfl (.tmp 46) (.tmp 48) 134 rfl _ _ _ rfl rfl hr ?_;clear hr)
     go_loopw [52] (fun iv wx=>∃ (k:Nat) (hv:Value) (ws hl:List Nat),iv=.int .i64 (k:Int)∧k≤ps.length∧Hid (Po8 wx w.heap.size w.heap.size nb ps.length hv (.slice (some ⟨g',0,none⟩) (m+1) c') ws hl (out++[f]))∧Hid (Kb8 ps out f k ws hl)∧Hid (Below w.heap.size w wx)) (fun iv _=>ps.length-(intOf iv).toNat)
     case atStart=>exact ⟨0,_,ws,l1,rfl,by omega,HSb0,HKb0,HBb0⟩
     case round =>
      obtain ⟨k,hv,ws,hl,rfl,hk,HS,HK,HB⟩:=hrel
      clear HSb0 HKb0 HBb0
      by_cases hlt:(k:Int)<(ps.length:Int)
      ·
       have hk2:k<ps.length:=by omega
       have hok:=HI.out.below HB.out
       obtain ⟨b,off,rfl,hbl,c0,ia,il,ic,fa,fl,fc,c1,c2,hpk⟩:=hok.each k hk2
       obtain ⟨b',off',he,hbl',cf,_⟩:=hok.each f hfl
       simp only [Option.some.injEq,Addr.mk.injEq,and_true] at he
       obtain ⟨rfl,rfl⟩:=he
       have hil:=hpk.il
       have hti:za5 wr ia il (zbc ps k):=hpk.i
       obtain ⟨x,hx⟩:∃ x,(ps.getD k pk0).1=x:=⟨_,rfl⟩
       obtain ⟨y,hy⟩:∃ y,(ps.getD f pk0).1=y:=⟨_,rfl⟩
       rw [hx] at c0
       rw [hy] at cf
       have HY:Hid (nmAt ps f=y):=hy
       obtain ⟨bx,hbx⟩:=Box3.new wr (.string ⟨x.toArray⟩) (.slice ia il ic) (.slice fa fl fc) 75
       obtain ⟨X,hX⟩:∃ X,wr.alloc (.cells #[.string ⟨x.toArray⟩,.slice ia il ic,.slice fa fl fc] 75)=X:=⟨_,rfl⟩
       rw [hX] at bx hbx
       have d0:=bx.c0
       have d1:=bx.c1
       have d2:=bx.c2
       have df:X.cell? ⟨b,off+f*3,none⟩=some (.string ⟨y.toArray⟩):=(hbx.cell (p:=⟨b,off+f*3,none⟩) hbl').trans cf
       have HTi:Hid (za5 X ia il (zbc ps k)):=hti.below hbx
       have HSX:Hid (Po8 X w.heap.size w.heap.size nb ps.length hv (.slice (some ⟨g',0,none⟩) (m+1) c') ws hl (out++[f])):=HS.out.below hbx
       have HBX:Hid (Below w.heap.size w X):=HB.out.trans (hbx.mono HB.out.size)
       have hfz:(f:Int)<(ps.length:Int):=by omega
       have hhl:=HK.out.hlen
       have HC:Hid (∀ W,za5 W ia il (zbc ps k)→Calls Tryz.prog 78 #[.slice ia il ic,.string ⟨y.toArray⟩] W fun e w'=>e=.returned (.bool (decide (y∈zbc ps k)))∧w'=W):=fun W hW=>zeO ia il ic (zbc ps k) y W hW hil
       clear hok bx hbx hpk hti hx hy HS HB cf
       by_cases hin:y∈zbc ps k
       ·
        rw [decide_eq_true hin] at HC
        obtain ⟨hd0,hd6,hd7⟩:=HK.out.less HF.out hk2 (by rw [HY.out];exact hin)
        obtain ⟨d,hd⟩:∃ d,ws.getD k 0=d+1:=⟨ws.getD k 0-1,by omega⟩
        have HKd:Hid (d≠0→Kb8 ps out f (k+1) (ws.set k d) hl):=fun h=>by
         have:=HK.out.down HF.out hk2 (by rw [HY.out];exact hin) (by rw [hd];simpa using h)
         rw [hd] at this
         exact this
        have HKp:Hid (d=0→∀ hl2:List Nat,hl2.Perm (k :: hl)→Kb8 ps out f (k+1) (ws.set k d) hl2):=fun h hl2 hp=>by
         have:=HK.out.push HF.out hk2 (by rw [HY.out];exact hin) (by rw [hd];simpa using h) hp
         rw [hd] at this
         exact this
        have HD:Hid (ws.getD k 0=d+1):=hd
        have hdb:d≤5:=by omega
        clear hin hd0 hd6 hd7 hd HK
        go_wp2_with fail
        go_quiet (first | (go_at_call 78;refine Calls.quiet_of_same (HC.out _ (HTi.out.below ⟨rfl,rfl,rfl,Nat.le_refl _,fun _ _=>rfl⟩))))
        generalize hX5:X.drewN _=X5
        have hb5:Below X.heap.size X X5:=by rw [←hX5];exact ⟨rfl,rfl,rfl,Nat.le_refl _,fun _ _=>rfl⟩
        have s5:=HSX.out.below hb5
        have hB5:Below w.heap.size w X5:=HBX.out.trans (hb5.mono HBX.out.size)
        obtain ⟨s6,hB6⟩:=s5.setw hB5.size k d
        have e1:=zbS s5.ow s5.wl k hk2
        rw [HD.out] at e1
        have f1:=s5.ow.frozenAt k
        have e2:=zbS s6.ow s6.wl k hk2
        rw [zcJ (by rw [s5.wl];exact hk2),if_pos rfl] at e2
        obtain ⟨W6,hW6⟩:∃ W6,X5.setCell ⟨w.heap.size,k,none⟩ (.int .i64 (d:Int))=W6:=⟨_,rfl⟩
        rw [hW6] at s6 hB6 e2
        have HS6:Hid (Po8 W6 w.heap.size w.heap.size nb ps.length hv (.slice (some ⟨g',0,none⟩) (m+1) c') (ws.set k d) hl (out++[f])):=s6
        have HB6:Hid (Below w.heap.size w W6):=hB5.trans hB6
        clear c0 c1 c2 hX5 hb5 s5 hB5 s6 hB6 d0 d1 d2 df HC HSX HBX HD
        by_cases hd0:d=0
        ·
         subst hd0
         have hW7:X5.setCell ⟨w.heap.size,k,none⟩ (.int .i64 0)=W6:=hW6
         have e3:W6.cell? ⟨w.heap.size,k,none⟩=some (.int .i64 0):=e2
         have e4:X5.cell? ⟨w.heap.size,k,none⟩=some (.int .i64 1):=e1
         go_wp2_with fail
         refine (zmB w.heap.size nb hv hl k W6 HS6.out.hp HS6.out.hn (by omega)).mono ?_
         rintro e w7 ⟨rfl,v7,l7,h7,hn7,hp7,hw7,hat7⟩
         obtain ⟨s7,hB7⟩:=HS6.out.push HB6.out.size h7 hn7 hw7 hat7
         have HS7:Hid (Po8 w7 w.heap.size w.heap.size nb ps.length v7 (.slice (some ⟨g',0,none⟩) (m+1) c') (ws.set k 0) l7 (out++[f])):=s7
         have HB7:Hid (Below w.heap.size w w7):=HB6.out.trans hB7
         have HK7:Hid (Kb8 ps out f (k+1) (ws.set k 0) l7):=HKp.out (by simp) l7 hp7
         clear h7 hn7 hp7 hw7 hat7 s7 hB7
         go_wp2
         go_roundw
         case rel=>exact ⟨k+1,v7,_,l7,by go_num,by omega,HS7,HK7,HB7⟩
         case measure=>simp [intOf];omega
        ·
         have hdz:¬(d:Int)=0:=by omega
         have HK7:Hid (Kb8 ps out f (k+1) (ws.set k d) hl):=HKd.out hd0
         go_wp2
         go_roundw
         case rel=>exact ⟨k+1,hv,_,hl,by go_num,by omega,HS6,HK7,HB6⟩
         case measure=>simp [intOf];omega
       ·
        rw [decide_eq_false hin] at HC
        have HK2:Hid (Kb8 ps out f (k+1) ws hl):=HK.out.skip HF.out hk2 (by rw [HY.out];exact hin)
        clear hin HK
        go_wp2_with fail
        go_quiet (first | (go_at_call 78;refine Calls.quiet_of_same (HC.out _ (HTi.out.below ⟨rfl,rfl,rfl,Nat.le_refl _,fun _ _=>rfl⟩))))
        generalize hX5:X.drewN _=X5
        have hb5:Below X.heap.size X X5:=by rw [←hX5];exact ⟨rfl,rfl,rfl,Nat.le_refl _,fun _ _=>rfl⟩
        have HS5:Hid (Po8 X5 w.heap.size w.heap.size nb ps.length hv (.slice (some ⟨g',0,none⟩) (m+1) c') ws hl (out++[f])):=HSX.out.below hb5
        have HB5:Hid (Below w.heap.size w X5):=HBX.out.trans (hb5.mono HBX.out.size)
        clear c0 c1 c2 hX5 hb5 d0 d1 d2 df HC HSX HBX
        go_wp2
        go_roundw
        case rel=>exact ⟨k+1,hv,ws,hl,by go_num,by omega,HS5,HK2,HB5⟩
        case measure=>simp [intOf];omega
      ·
       obtain rfl:k=ps.length:=by omega
       have HA2:Hid (Ka8 ps (out++[f]) ws hl):=HK.out.out HF.out
       have HL2:Hid ((out++[f]).length=m+1):=by exact (by rw [List.length_append,List.length_singleton,HLo.out]:(out++[f]).length=m+1)
       go_wp2
       go_roundw
       case rel=>exact ⟨m+1,_,c',hv,ws,hl,out++[f],rfl,by omega,HL2,HS,HA2,HB⟩
       case measure=>simp [lenS8];omega
theorem zmt (l:List Nat):∀ u∈natV l,u.oneCell'=true:=fun u hu=>by
 obtain ⟨x,_,rfl⟩:=List.mem_map.1 hu
 rfl
set_option maxHeartbeats 1000000 in
set_option maxRecDepth 100000 in
theorem zpH (B:Nat) (v:Value) (l:List Nat) (w:World) (h:w.ownsRow B 3 1 v l.length (natV l)) (hlen:l.length≤1000) :
 Calls Tryz.prog 152 #[v] w fun e w'=>∃ v',e=.returned v'∧w'.ownsRow w.heap.size 3 1 v' l.length (natV l)∧Below w.heap.size w w':=by
 obtain ⟨i0,hi,hz0,hz1,hz2⟩:=info_parts info3
 have hsrc:=ziL h (zmt l)
 rcases zb4 h with ⟨rfl,h0,_⟩ | ⟨g,cap,rfl⟩
 ·
  obtain rfl:l=[]:=List.eq_nil_of_length_eq_zero h0
  have HO:Hid (w.ownsRow w.heap.size 3 1 (.slice none 0 0) 0 (natV [])):=World.ownsRow_nil w _ _ _
  have heq:∀ V:World,(binOp .eql 134 (.slice none 0 0) (.slice none 0 0)).run Tryz.prog V=.ok (.bool true) V:=fun V=>Lib.run_eql_slice_nil V _ _ none 0 0 0 0 Tryz.underlying134
  clear h hsrc h0
  go_enter Tryz.func152,Tryz.ntmps152
  go_wp2
  go_ret
  exact ⟨_,rfl,HO.out,Below.refl _ _⟩
 ·
  have hbA:Below w.heap.size w (w.alloc (.cells #[] 3)):=(Below.refl _ _).alloc (Nat.le_refl _) _
  have hown0:=(World.ownsRow_lit (base:=w.heap.size) (e:=3) (size:=1) w #[] 0 (Nat.le_refl _) (by decide) rfl)
  have hsrc2:=ziL (za6 h hbA) (zmt l)
  obtain ⟨v',w',hrun,hown',hg,_⟩:=zaE (P:=Tryz.prog) (w.alloc (.cells #[] 3)) w.heap.size 134 134 3 i0 _ 1 8 Tryz.underlying134 hi hz0 hz1 hz2 rfl (by decide) _ _ _ hown0 (.slice (some ⟨g,0,none⟩) l.length cap) l.length (natV l) hsrc2 (by unfold maxLen;omega) (by omega) (by simp)
  have hb:Below w.heap.size w w':=hbA.grown hg hbA.size (fun q e=>by simp [Value.ownBlock] at e;omega)
  have HO:Hid (w'.ownsRow w.heap.size 3 1 v' l.length (natV l)):=by
   simp only [Nat.zero_add] at hown'
   exact (by simpa using hown':w'.ownsRow w.heap.size 3 1 v' l.length (natV l))
  have heq:∀ V:World,(binOp .eql 134 (.slice (some ⟨g,0,none⟩) l.length cap) (.slice none 0 0)).run Tryz.prog V=.ok (.bool false) V:=fun V=>Lib.run_eql_slice_nil V _ _ (some ⟨g,0,none⟩) l.length cap 0 0 Tryz.underlying134
  clear hown' hg hown0 hbA h hsrc hsrc2
  go_enter Tryz.func152,Tryz.ntmps152
  go_wp2_with (at_builtin;refine za0 rfl (.tmp 5) (.tmp 6) 134 rfl _ _ _ rfl rfl hrun ?_;clear hrun)
  go_ret
  exact ⟨v',rfl,HO.out,hb⟩
set_option maxHeartbeats 4000000 in
set_option maxRecDepth 100000 in
theorem zkf (B:Nat) (v:Value) (l:List Nat) (many:Nat) (w:World) (h:w.ownsRow B 3 1 v l.length (natV l)) (hlen:l.length≤8) (hmany:many≤8) :
 Calls Tryz.prog 125 #[v,.int .i64 (many:Int)] w fun e w'=>∃ v',e=.returned v'∧w'.ownsRow w.heap.size 3 1 v' (all9 l many).length (natV (all9 l many))∧Below w.heap.size w w':=by
 have HCl:Hid (_):=zpH B v l w h (by omega)
 obtain ⟨a,c,rfl,hin⟩:=zbu h rfl
 have HIn:Hid (ze8 w a l.length l):=hin
 have h9:all9 l 0=l:=by simp [all9]
 clear h hin
 go_enter Tryz.func125,Tryz.ntmps125
 go_wp2_with fail
 refine Calls.mono HCl.out ?_
 rintro e w1 ⟨v1,rfl,ho1,hb1⟩
 obtain ⟨pa,pc,rfl,-⟩:=zbu ho1 rfl
 have HO0:Hid (w1.ownsRow w.heap.size 3 1 (.slice pa l.length pc) l.length (natV (all9 l 0))):=by exact (by rw [h9];exact ho1:w1.ownsRow w.heap.size 3 1 (.slice pa l.length pc) l.length (natV (all9 l 0)))
 have HL0:Hid ((all9 l 0).length=l.length):=by exact (by rw [h9]:(all9 l 0).length=l.length)
 have HB0:Hid (Below w.heap.size w w1):=hb1
 clear HCl ho1 hb1 h9
 go_wp2
 go_loopw [5,10] (fun pv iv wr=>∃ (k m:Nat) (pa:Option Addr) (pc:Nat),pv=.slice pa m pc∧iv=.int .i64 (k:Int)∧k≤many∧m≤16∧Hid ((all9 l k).length=m)∧Hid (wr.ownsRow w.heap.size 3 1 (.slice pa m pc) m (natV (all9 l k)))∧Hid (Below w.heap.size w wr)) (fun _ iv _=>many-(intOf iv).toNat)
 case atStart=>exact ⟨0,l.length,_,_,rfl,rfl,by omega,by omega,HL0,HO0,HB0⟩
 case round =>
  obtain ⟨k,m,pa,pc,rfl,rfl,hk,hm16,HL,HO,HB⟩:=hrel
  clear HO0 HL0 HB0
  by_cases hlt:(k:Int)<(many:Int)
  ·
   have hC:=zeP a l.length c l k wr (HIn.out.below HB.out) (by omega)
   have hsucc:=zpX l k
   have hlen9:=zmQ l (k+1)
   by_cases hkl:k∈l
   ·
    rw [decide_eq_true hkl] at hC
    rw [if_pos hkl] at hsucc
    have HO2:Hid (wr.ownsRow w.heap.size 3 1 (.slice pa m pc) m (natV (all9 l (k+1)))):=by exact (by rw [hsucc];exact HO.out:wr.ownsRow w.heap.size 3 1 (.slice pa m pc) m (natV (all9 l (k+1))))
    have HL2:Hid ((all9 l (k+1)).length=m):=by exact (by rw [hsucc];exact HL.out:(all9 l (k+1)).length=m)
    have HC:Hid (_):=hC
    clear hsucc hkl hlen9 hC HO HL
    go_wp2_with fail
    refine Calls.mono HC.out ?_
    rintro e w2 ⟨rfl,hw2⟩
    obtain rfl:=hw2.symm
    go_wp2
    go_roundw
    case rel=>exact ⟨k+1,m,pa,pc,rfl,by go_num,by omega,by omega,HL2,HO2,HB⟩
    case measure=>simp [intOf];omega
   ·
    rw [decide_eq_false hkl] at hC
    rw [if_neg hkl] at hsucc
    have HL2:Hid ((all9 l (k+1)).length=m+1):=by exact (by rw [hsucc,List.length_append,HL.out];rfl:(all9 l (k+1)).length=m+1)
    have hm1:m+1≤16:=by rw [HL2.out] at hlen9;omega
    obtain ⟨v',Y,hr,ho,hg,_⟩:=zeY 134 Tryz.underlying134 k HO.out HB.out.size (by omega)
    obtain ⟨g',c',rfl⟩:=zaw ho (by omega)
    rw [←hsucc] at ho
    have HOY:Hid (Y.ownsRow w.heap.size 3 1 (.slice (some ⟨g',0,none⟩) (m+1) c') (m+1) (natV (all9 l (k+1)))):=ho
    have HBY:Hid (Below w.heap.size w Y):=HB.out.grown hg HB.out.size (fun q e=>(HO.out.lt q e).1)
    have HC:Hid (_):=hC
    clear hsucc hkl hlen9 hC ho hg
    go_wp2_with fail
    refine Calls.mono HC.out ?_
    rintro e w2 ⟨rfl,hw2⟩
    obtain rfl:=hw2.symm
    go_wp2_with (at_builtin;refine za0 rfl (.tmp 17) (.tmp 19) 134 rfl _ _ _ rfl rfl hr ?_;clear hr)
    go_roundw
    case rel=>exact ⟨k+1,m+1,_,c',rfl,by go_num,by omega,by omega,HL2,HOY,HBY⟩
    case measure=>simp [intOf];omega
  ·
   obtain rfl:k=many:=by omega
   go_wp2
   go_ret
   exact ⟨_,rfl,by rw [HL.out];exact HO.out,HB.out⟩
set_option maxHeartbeats 4000000 in
set_option maxRecDepth 100000 in
theorem zlD (a:Option Addr) (len cap:Nat) (ps:List Pk) (w:World) (h:zal w a len cap ps) :
 Calls Tryz.prog 127 #[.slice a len cap] w fun e w'=>∃ mb:Bool,e=.returned (.bool mb)∧((mb=true∧zcs ps=(0,[],[]))∨(mb=false∧zcs ps=(5,za7,za7)))∧Below w.heap.size w w':=by
 obtain rfl:ps.length=len:=h.hlen
 have HP:Hid (_):=zcU a ps.length cap ps za7 w h.in h.small
 obtain ⟨M9v,hM9⟩:∃ m,zcs ps=m:=⟨_,rfl⟩
 have HM:Hid (M9v=if 0≤at8 ps za7∧0≤atV (pkOf ps za7).2.2 za7∧((pkOf ps za7).2.2.getD (atV (pkOf ps za7).2.2 za7).toNat fn0).2.1=1 then (0,[],[]) else (5,za7,za7)):=hM9.symm
 rw [hM9]
 have hsm:=h.small
 clear hM9
 have hmt:(⟨za7.toArray⟩:ByteArray)=⟨#[109,97,105,110]⟩:=rfl
 rcases zdt ps za7 with ⟨ea,_⟩ | ⟨f,hf,ea,_,_⟩
 ·
  have HR:Hid (M9v=(5,za7,za7)):=HM.out.trans (if_neg (fun e=>by have:=e.1;omega))
  rw [ea,hmt] at HP
  clear HM ea h
  go_enter Tryz.func127,Tryz.ntmps127
  go_wp2_with fail
  refine Calls.mono HP.out ?_
  rintro e w1 ⟨rfl,hb1⟩
  go_wp2
  go_ret
  exact ⟨_,rfl,Or.inr ⟨rfl,HR.out⟩,hb1⟩
 ·
  have hpkO:pkOf ps za7=ps.getD f pk0:=by unfold pkOf;rw [ea,Int.toNat_natCast]
  rw [hpkO] at HM
  rw [ea,hmt] at HP
  have hfn:((f:Int)==-1)=false:=beq_eq_false_iff_ne.2 (by omega)
  have hf2:(f:Int)<(ps.length:Int):=by omega
  have HI:Hid (zal w a ps.length cap ps):=h
  clear h hpkO
  go_enter Tryz.func127,Tryz.ntmps127
  go_wp2_with fail
  refine Calls.mono HP.out ?_
  rintro e w1 ⟨rfl,hb1⟩
  have hok:=HI.out.below hb1
  obtain ⟨b,off,rfl,hbl,c0,ia,il,ic,fa,fl,fc,c1,c2,hpk⟩:=hok.each f hf
  have hflb:=hpk.fl
  have hPl:=zcV fa fl fc (ps.getD f pk0).2.2 za7 w1 hpk.f hpk.fl
  have hin:=hpk.f
  obtain ⟨fs,hfs⟩:∃ fs,(ps.getD f pk0).2.2=fs:=⟨_,rfl⟩
  rw [hfs] at hPl hin HM
  clear hpk hfs c0 c1 hok HP
  rcases zir fs za7 with e7 | ⟨q,hq,e7,_⟩
  ·
   have HR:Hid (M9v=(5,za7,za7)):=HM.out.trans (if_neg (fun e=>by have:=e.2.1;omega))
   rw [e7,hmt] at hPl
   have HPl:Hid (_):=hPl
   clear HM e7 hPl
   go_wp2_with fail
   refine Calls.mono HPl.out ?_
   rintro e w2 ⟨rfl,hb2⟩
   have HB2:Hid (Below w.heap.size w w2):=hb1.trans (hb2.mono hb1.size)
   clear hb1 hb2
   go_wp2
   go_ret
   exact ⟨_,rfl,Or.inr ⟨rfl,HR.out⟩,HB2.out⟩
  ·
   rw [e7,hmt] at hPl
   have HPl:Hid (_):=hPl
   have hqn:((q:Int) !=-1)=true:=by rw [bne_iff_ne];omega
   have hql:fs.length=fl:=hin.1
   have hq2:(q:Int)<(fl:Int):=by omega
   obtain ⟨b2,o2,rfl,hb2l,r0,r1,_⟩:=hin.2 q (by omega)
   rw [e7,Int.toNat_natCast] at HM
   obtain ⟨ag,hag⟩:∃ ag,(fs.getD q fn0).2.1=ag:=⟨_,rfl⟩
   rw [hag] at r1 HM
   clear e7 hPl hag hin r0
   go_wp2_with fail
   refine Calls.mono HPl.out ?_
   rintro e w2 ⟨rfl,hb2⟩
   have HB2:Hid (Below w.heap.size w w2):=hb1.trans (hb2.mono hb1.size)
   have s2:=(hb2.cell (p:=⟨b,off+f*3+2,none⟩) hbl).trans c2
   have s1:=(hb2.cell (p:=⟨b2,o2+q*3+1,none⟩) hb2l).trans r1
   clear hb1 hb2 c2 r1
   by_cases hA:ag=1
   ·
    subst hA
    have HR:Hid (M9v=(0,[],[])):=HM.out.trans (if_pos ⟨by omega,by omega,rfl⟩)
    clear HM
    go_wp2
    go_ret
    exact ⟨_,rfl,Or.inl ⟨rfl,HR.out⟩,HB2.out⟩
   ·
    have hAb:(ag==1)=false:=beq_eq_false_iff_ne.2 hA
    have HR:Hid (M9v=(5,za7,za7)):=HM.out.trans (if_neg (fun e=>hA e.2.2))
    clear HM
    go_wp2
    go_ret
    exact ⟨_,rfl,Or.inr ⟨rfl,HR.out⟩,HB2.out⟩
def PrIs (er:Nat→Addr) (v:Value) (F:Flt):Prop:=(F=(0,[],[])∧v=.nilIface)∨(F=(6,[],[])∧v=.iface 248 (.pointer (some (er 0)))) ∨
 ∃ c p g k,F=(c,p,g)∧ziz c k∧v=.iface 131 (.agg #[.string ⟨p.toArray⟩,.string ⟨g.toArray⟩,.iface 248 (.pointer (some (er k)))])
theorem flt_step {ps:List Pk} (hpj:zaL ps=true) {al:List Nat} (hall:zaM ps al=ord9 ps) (hlt:∀ x∈al,x<ps.length) (dn:Nat) {j:Nat} (hj:j<al.length) :
 zc7 ps dn ((ord9 ps).drop j) j=match pk9 ps dn j (ps.getD (al.getD j 0) pk0) with
  | some f=>some f
  | none=>zc7 ps dn ((ord9 ps).drop (j+1)) (j+1):=by
 have hl:j<(ord9 ps).length:=by rw [←hall];simpa [zaM] using hj
 rw [zil hl]
 have e1:(ord9 ps).getD j []=nmAt ps (al.getD j 0):=by rw [←hall];simp [zaM,List.getD,hj]
 rw [e1,zox (zac hpj).1.nodup (hlt _ (zcj hj))]
 generalize pk9 ps dn j (ps.getD (al.getD j 0) pk0)=o
 cases o<;>rfl
set_option maxHeartbeats 8000000 in
set_option maxRecDepth 100000 in
theorem zgd (a:Option Addr) (len cap:Nat) (ps:List Pk) (er:Nat→Addr) (w:World) (hE:Err8 w er) (h:zal w a len cap ps) :
 Calls Tryz.prog 100 #[.slice a len cap] w fun e w'=>∃ v,e=.returned v∧PrIs er v (zaY ps)∧Below w.heap.size w w':=by
 obtain rfl:ps.length=len:=h.hlen
 obtain ⟨F9v,hF9⟩:∃ f,zaY ps=f:=⟨_,rfl⟩
 have HF:Hid (F9v=if zaL ps=true then zaZ ps else (6,[],[])):=hF9.symm
 have HPj:Hid (_):=zfc a ps.length cap ps w h
 have hsm:=h.small
 rw [hF9]
 clear hF9
 rcases hpj:zaL ps with _ | _
 ·
  have HR:Hid (F9v=(6,[],[])):=HF.out.trans (if_neg (by rw [hpj];decide))
  rw [hpj] at HPj
  have HEr:Hid (Err8 w er):=hE
  clear HF hpj h hE
  go_enter Tryz.func100,Tryz.ntmps100
  go_wp2_with fail
  refine Calls.mono HPj.out ?_
  rintro e w1 ⟨rfl,hb1⟩
  have g0:=(HEr.out.below hb1).four.told
  unfold zb2 at g0
  go_wp2
  go_ret
  exact ⟨_,rfl,Or.inr (Or.inl ⟨HR.out,rfl⟩),hb1⟩
 ·
  have HF2:Hid (F9v=zaZ ps):=HF.out.trans (if_pos hpj)
  have hn8:ps.length≤8:=(zac hpj).2.1.2
  have HOr:Hid (∀ Z,zal Z a ps.length cap ps→_):=fun Z hz=>zdo a ps.length cap ps Z hz hpj
  have HMn:Hid (∀ Z,zal Z a ps.length cap ps→_):=fun Z hz=>zlD a ps.length cap ps Z hz
  have HPw:Hid (∀ (Z:World) (f:Nat) (lo:Bool) (dn i:Nat),lo=decide (dn≤i)→Err8 Z er→zal Z a ps.length cap ps→f<ps.length→_):=fun Z f lo dn i h1 h2 h3 h4=>zge a ps.length cap ps f lo dn i h1 er Z h2 h3 h4
  have HSt:Hid (∀ (al:List Nat),zaM ps al=ord9 ps→(∀ x∈al,x<ps.length)→∀ (dn j:Nat),j<al.length→_):=fun al h1 h2 dn j h3=>flt_step hpj h1 h2 dn h3
  have HNm:Hid (∀ out,zaM ps out=zax ps→(∀ x∈out,x<ps.length)→zaM ps (all9 out ps.length)=ord9 ps):=fun out h1 h2=>znR hpj h1 h2
  have HI:Hid (zal w a ps.length cap ps):=h
  have HEr:Hid (Err8 w er):=hE
  rw [hpj] at HPj
  clear HF hpj h hE
  go_enter Tryz.func100,Tryz.ntmps100
  go_wp2_with fail
  refine Calls.mono HPj.out ?_
  rintro e w1 ⟨rfl,hb1⟩
  have HB1:Hid (Below w.heap.size w w1):=hb1
  clear hb1 HPj
  go_wp2_with fail
  refine Calls.mono (HOr.out _ (HI.out.below HB1.out)) ?_
  rintro e w2 ⟨v2,rfl,out,ho2,hnm,hlt,hl8,hb2⟩
  have HB2:Hid (Below w.heap.size w w2):=HB1.out.trans (hb2.mono HB1.out.size)
  have HWl:Hid (_):=zkf w1.heap.size v2 out ps.length w2 ho2 hl8 hn8
  obtain ⟨oa,oc,rfl,-⟩:=zbu ho2 rfl
  have HLt:Hid (∀ x∈all9 out ps.length,x<ps.length):=all9_lt hlt
  have HNa:Hid (zaM ps (all9 out ps.length)=ord9 ps):=HNm.out out hnm hlt
  have hdn:(zax ps).length=out.length:=by rw [←hnm];simp [zaM]
  have HF3:Hid (F9v=match zc7 ps out.length ((ord9 ps).drop 0) 0 with | some f=>f | none=>zcs ps):=by
   exact (by rw [HF2.out];unfold zaZ;rw [hdn];rfl:F9v=match zc7 ps out.length ((ord9 ps).drop 0) 0 with | some f=>f | none=>zcs ps)
  have HStp:Hid (∀ j,j<(all9 out ps.length).length→_):=fun j hj=>HSt.out (all9 out ps.length) HNa.out HLt.out out.length j hj
  have hal:=zmQ out ps.length
  have HAl:Hid (zaM ps (all9 out ps.length)=ord9 ps):=HNa
  obtain ⟨al,hale⟩:∃ al,all9 out ps.length=al:=⟨_,rfl⟩
  rw [hale] at HWl HLt HStp hal HAl
  clear hnm hlt ho2 hb2 HOr HSt HNm HF2 hdn HNa hale HB1
  go_wp2_with fail
  refine Calls.mono HWl.out ?_
  rintro e V ⟨v3,rfl,ho3,hb3⟩
  obtain ⟨pa,pc,rfl,hin⟩:=zbu ho3 rfl
  have HZ:Hid (∀ Z,Below V.heap.size V Z→ze8 Z pa al.length al∧Err8 Z er∧zal Z a ps.length cap ps∧Below w.heap.size w Z):=fun Z hz =>
   have hb:=HB2.out.trans (hb3.mono HB2.out.size)
   have hbz:=hb.trans (hz.mono hb.size)
   ⟨hin.below hz,HEr.out.below hbz,HI.out.below hbz,hbz⟩
  have HB:Hid (Below V.heap.size V V):=Below.refl _ _
  clear ho3 hb3 hin HWl HI HEr HB2
  go_wp2
  go_loopw [18] (fun iv wr=>∃ j:Nat,iv=.int .i64 (j:Int)∧j≤al.length∧Hid (F9v=match zc7 ps out.length ((ord9 ps).drop j) j with | some f=>f | none=>zcs ps)∧Hid (Below V.heap.size V wr)) (fun iv _=>al.length-(intOf iv).toNat)
  case atStart=>exact ⟨0,rfl,by omega,HF3,HB⟩
  case round =>
   obtain ⟨j,rfl,hj,HA,HBr⟩:=hrel
   clear HF3 HB
   obtain ⟨hin,hEr,hokr,hbw⟩:=HZ.out wr HBr.out
   by_cases hlt:(j:Int)<(al.length:Int)
   ·
    have hj2:j<al.length:=by omega
    obtain ⟨bt,ot,rfl,hbt,k0⟩:=hin.2 j hj2
    have hfx:=HLt.out _ (zcj hj2)
    have hst:=HStp.out j hj2
    obtain ⟨f,hf⟩:∃ f,al.getD j 0=f:=⟨_,rfl⟩
    rw [hf] at k0 hfx hst
    have HC:Hid (_):=HPw.out wr f (decide (out.length≤j)) out.length j rfl hEr hokr hfx
    obtain ⟨o9,ho9⟩:∃ o,pk9 ps out.length j (ps.getD f pk0)=o:=⟨_,rfl⟩
    rw [ho9] at HC hst
    have HSj:Hid (_):=hst
    clear hin hEr hokr hbw hf ho9 hst hfx
    go_wp2_with fail
    refine Calls.mono HC.out ?_
    rintro e w4 ⟨v4,rfl,hv,hb4⟩
    have HB4:Hid (Below V.heap.size V w4):=HBr.out.trans (hb4.mono HBr.out.size)
    clear hb4 HC HBr k0
    rcases hv with ⟨rfl,rfl⟩ | ⟨c,p,g,ck,rfl,hck,rfl⟩
    ·
     have HA2:Hid (F9v=match zc7 ps out.length ((ord9 ps).drop (j+1)) (j+1) with | some f=>f | none=>zcs ps):=by
      exact (by rw [HA.out,HSj.out]:F9v=match zc7 ps out.length ((ord9 ps).drop (j+1)) (j+1) with | some f=>f | none=>zcs ps)
     clear HA HSj
     go_wp2
     go_roundw
     case rel=>exact ⟨j+1,by go_num,by omega,HA2,HB4⟩
     case measure=>simp [intOf];omega
    ·
     have HR:Hid (F9v=(c,p,g)):=by exact (by rw [HA.out,HSj.out]:F9v=(c,p,g))
     have HK:Hid (ziz c ck):=hck
     have HBW:Hid (Below w.heap.size w w4):=(HZ.out w4 HB4.out).2.2.2
     clear HA HSj hck
     go_wp2
     go_ret
     exact ⟨_,rfl,Or.inr (Or.inr ⟨c,p,g,ck,HR.out,HK.out,rfl⟩),HBW.out⟩
   ·
    have hlo:(ord9 ps).length=al.length:=by rw [←HAl.out];simp [zaM]
    have HMa:Hid (F9v=zcs ps):=by
     exact (by rw [HA.out,List.drop_of_length_le (by omega)];rfl:F9v=zcs ps)
    have HC:Hid (_):=HMn.out wr hokr
    clear HA hlo hin hEr hokr hbw
    go_wp2_with fail
    refine Calls.mono HC.out ?_
    rintro e w4 ⟨mb,rfl,hmb,hb4⟩
    have HB4:Hid (Below V.heap.size V w4):=HBr.out.trans (hb4.mono HBr.out.size)
    have HBW:Hid (Below w.heap.size w w4):=(HZ.out w4 HB4.out).2.2.2
    have gm:=(HZ.out w4 HB4.out).2.1.main
    unfold zb2 at gm
    clear hb4 HC
    rcases hmb with ⟨rfl,hm9⟩ | ⟨rfl,hm9⟩
    ·
     have HR:Hid (F9v=(0,[],[])):=HMa.out.trans hm9
     clear HMa hm9
     go_wp2
     go_ret
     exact ⟨_,rfl,Or.inl ⟨HR.out,rfl⟩,HBW.out⟩
    ·
     have HR:Hid (F9v=(5,za7,za7)):=HMa.out.trans hm9
     clear HMa hm9
     go_wp2
     go_ret
     exact ⟨_,rfl,Or.inr (Or.inr ⟨5,za7,za7,7,HR.out,Or.inr (Or.inr (Or.inr (Or.inr ⟨rfl,rfl⟩))),rfl⟩),HBW.out⟩
end Go.Proofs.YtdbljnddkbpanaaGreatDoor
