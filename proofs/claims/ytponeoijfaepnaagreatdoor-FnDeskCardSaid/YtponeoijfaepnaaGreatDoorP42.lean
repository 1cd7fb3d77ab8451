/-
  Parts of one proof, one behind the other: LawDk.
-/
import Derived.Test.YtponeoijfaepnaaGreatDoorP41
import Derived.Test.YtponeoijfaepnaaGreatDoorP40
import Derived.Test.YtponeoijfaepnaaGreatDoorP25
namespace Go.Proofs.YtponeoijfaepnaaGreatDoor
open Go.RowKit
set_option maxHeartbeats 32000000
set_option maxRecDepth 100000
theorem ziI (w:World) (a:Option Addr) (len cap:Nat) (hl:len≤4096) (hc:Code w w.heap.size a len) :
 Calls Tryz.prog 11 #[.slice a len cap] w fun e w'=>∃ v,e=.returned v∧Drawn8 w w' v:=by
 go_enter Tryz.func11,Tryz.ntmps11
 go_wp2_with fail
 refine (zhn w a len cap hl hc).mono ?_;rintro e w2 ⟨v,rfl,la,n,lc,ps,rfl,hn,hok,hB2⟩;have HOK:Hid (zab w2 la n lc ps):=hok;clear hok;go_wp2_with fail
 go_ret;exact ⟨_,rfl,la,n,lc,ps,rfl,hn,HOK.out,hB2⟩
def tailOf:Nat→Go.Code→Go.Code
 | 0,c=>c
 | n+1,.seq _ b=>tailOf n b
 | _,c=>c
noncomputable def zgg (n:Nat):Go.Code:=tailOf n (Tryz.f3.body.getD .skip)
theorem deskD1 {w V:World} {a la da xa aa ya ta za va:Option Addr} {len cap ln lc dc dn xc xn ac an yc yn tc tn zc zn vc vn P3 P5 P7 P11 P13 P15 P18:Nat} {er:Nat→Addr} {kk xk tk te tk2 yk tq dep dnw xep xnw aep anw yep ynw tep tnw zep znw vep vnw:Int} {zk vk:Bool} {ps:List Pk} {dts xts ats yts tts zts vts:List Ta} {djr xjr ajr yjr tjr zjr vjr:List UInt8} {u1 u2 u20 u21 u22 u23 u24 u25 u26 u27 u28 u29 u30 u31 u32 u33 u34 u35 u36 u37 u38 u39 u40 u41 u42 u43 u44 u45 u46 u47 u48 u49 u50 u51 u52 u53 u54 u55 u56 u57 u58 u59 u60 u61 u62 u63 u64 u65 u66 u67 u68 u69 u70 u71 u72 u73 u74 u75 u76 u77 u78 u79 u80 u81 u82 u83 u84 u85 u86 u87 u88 u89 u90 u91 u92 u93 u94 u95 u96 u97 u98 u99 u100 u101 u102 u103 u104 u105 u106 u107 u108 u109 u110 u111 u112 u113 u114 u115 u116 u117 u118 u119 u120 u121 u122 u123 u124 u125 u126 u127 u128 u129 u130 u131 u132 u133 u134 u135 u136 u137 u138 u139 u140 u141 u142 u143 u144 u145 u146 u147 u148 u149 u150 u151 u152 u153 u154 u155 u156 u157 u158 u159 u160 u161 u162 u163 u164 u165 u166 u167 u168 u169 u170 u171 u172 u173 u174 u175 u176 u177 u178 u179 u180 u181 u182 u183 u184 u185 u186 u187 u188 u189 u190 u191 u192 u193 u194 u195 u196 u197 u198 u199 u200 u201 u202 u203 u204 u205 u206 u207 u208 u209 u210 u211 u212 u213 u214 u215 u216 u217 u218 u219 u220 u221 u222 u223 u224 u225 u226 u227 u228 u229 u230 u231 u232 u233 u234 u235 u236 u237 u238 u239 u240 u241 u242 u243 u244 u245 u246 u247 u248 u249 u250 u251 u252 u253 u254 u255 u256 u257 u258 u259 u260 u261 u262 u263 u264 u265 u266 u267 u268 u269 u270 u271 u272 u273 u274 u275 u276 u277 u278 u279 u280 u281 u282 u283 u284 u285 u286 u287 u288 u289:Value} (HSd:Hid (za1 dts∧dn≤9∧djr.length≤1508∧dts.length=dn)) (HSx:Hid (za1 xts∧xn≤9∧xjr.length≤60000∧xts.length=xn)) (HQ1:Hid (zpq (dts,dep,dnw,djr) kk ((xts,xep,xnw,xjr),xk))) (HK0:Hid (∀ Z,Below V.heap.size V Z→Below w.heap.size w Z∧Err8 Z er∧zb0 Z∧RoD Z P3 da dc dn dts dep dnw djr∧RoD Z P5 xa xc xn xts xep xnw xjr∧RoD Z P7 aa ac an ats aep anw ajr∧RoD Z P11 ya yc yn yts yep ynw yjr∧RoD Z P13 ta tc tn tts tep tnw tjr∧RoD Z P15 za zc zn zts zep znw zjr∧zab Z la ln lc ps∧RoD Z P18 va vc vn vts vep vnw vjr)) :
 Code.wp Tryz.prog (zgg 15) (bodyPost Tryz.prog Tryz.f3 fun e w'=>e=.returned (.bool true)∧Below w.heap.size w w') ⟨#[.slice a len cap,u1,u2,.pointer (some ⟨P3,0,none⟩),.int .i64 kk,.pointer (some ⟨P5,0,none⟩),.int .i64 xk,.pointer (some ⟨P7,0,none⟩),.int .i64 tk,.int .i64 te,.int .i64 tk2,.pointer (some ⟨P11,0,none⟩),.int .i64 yk,.pointer (some ⟨P13,0,none⟩),.int .i64 tq,.pointer (some ⟨P15,0,none⟩),.bool zk,.slice la ln lc,.pointer (some ⟨P18,0,none⟩),.bool vk,u20,u21,u22,u23,u24,u25,u26,u27,u28,u29,u30,u31,u32,u33,u34,u35,u36,u37,u38,u39,u40,u41,u42,u43,u44,u45,u46,u47,u48,u49,u50,u51,u52,u53,u54,u55,u56,u57,u58,u59,u60,u61,u62,u63,u64,u65,u66,u67,u68,u69,u70,u71,u72,u73,u74,u75,u76,u77,u78,u79,u80,u81,u82,u83,u84,u85,u86,u87,u88,u89,u90,u91,u92,u93,u94,u95,u96,u97,u98,u99,u100,u101,u102,u103,u104,u105,u106,u107,u108,u109,u110,u111,u112,u113,u114,u115,u116,u117,u118,u119,u120,u121,u122,u123,u124,u125,u126,u127,u128,u129,u130,u131,u132,u133,u134,u135,u136,u137,u138,u139,u140,u141,u142,u143,u144,u145,u146,u147,u148,u149,u150,u151,u152,u153,u154,u155,u156,u157,u158,u159,u160,u161,u162,u163,u164,u165,u166,u167,u168,u169,u170,u171,u172,u173,u174,u175,u176,u177,u178,u179,u180,u181,u182,u183,u184,u185,u186,u187,u188,u189,u190,u191,u192,u193,u194,u195,u196,u197,u198,u199,u200,u201,u202,u203,u204,u205,u206,u207,u208,u209,u210,u211,u212,u213,u214,u215,u216,u217,u218,u219,u220,u221,u222,u223,u224,u225,u226,u227,u228,u229,u230,u231,u232,u233,u234,u235,u236,u237,u238,u239,u240,u241,u242,u243,u244,u245,u246,u247,u248,u249,u250,u251,u252,u253,u254,u255,u256,u257,u258,u259,u260,u261,u262,u263,u264,u265,u266,u267,u268,u269,u270,u271,u272,u273,u274,u275,u276,u277,u278,u279,u280,u281,u282,u283,u284,u285,u286,u287,u288,u289],[]⟩ V:=by
 conv=>arg 2;whnf
 have hbb:∀ b:Bool,(b !=b)=false:=by simp
 have hii:∀ n:Int,(n !=n)=false:=by simp
 obtain ⟨db,hdb⟩:∃ b,zac (dts,dep,dnw,djr)=b:=⟨_,rfl⟩
 have HDB:Hid (zac (dts,dep,dnw,djr)=db):=hdb;clear hdb;obtain ⟨_,_,_,sd,_,_,_,_,_,_,_⟩:=HK0.out V (Below.refl _ _);have Sd:Hid (RoD V P3 da dc dn dts dep dnw djr):=sd;clear sd;have d0:=Sd.out.b4.c0;have d1:=Sd.out.b4.c1;have d2:=Sd.out.b4.c2;have d3:=Sd.out.b4.c3;have HDk:Hid (_):=zbW da dn dc dts dep dnw djr V Sd.out.ok.in HSd.out.1 (by have:=HSd.out.2.1;omega);rw [HDB.out] at HDk;go_wp2_with fail
 refine Calls.mono HDk.out ?_;rintro e W34 ⟨rfl,hb⟩
 have HK1:Hid (∀ Z,Below W34.heap.size W34 Z→Below w.heap.size w Z∧Err8 Z er∧zb0 Z∧RoD Z P3 da dc dn dts dep dnw djr∧RoD Z P5 xa xc xn xts xep xnw xjr∧RoD Z P7 aa ac an ats aep anw ajr∧RoD Z P11 ya yc yn yts yep ynw yjr∧RoD Z P13 ta tc tn tts tep tnw tjr∧RoD Z P15 za zc zn zts zep znw zjr∧zab Z la ln lc ps∧RoD Z P18 va vc vn vts vep vnw vjr):=fun Z hz=>by
  obtain ⟨f0,f1,f2,f3,f4,f5,f6,f7,f8,f9,f10⟩:=HK0.out Z (hb.trans (hz.mono hb.size));exact ⟨f0,f1,f2,f3,f4,f5,f6,f7,f8,f9,f10⟩
 clear HK0;clear hb;clear Sd d0 d1 d2 d3;clear HDk;rcases db with _ | _
 ·
  skip
  obtain ⟨_,_,_,_,sx,_,_,_,_,_,_⟩:=HK1.out W34 (Below.refl _ _);have Sx:Hid (RoD W34 P5 xa xc xn xts xep xnw xjr):=sx;clear sx;have x0:=Sx.out.b4.c0;have x1:=Sx.out.b4.c1;have x2:=Sx.out.b4.c2;have x3:=Sx.out.b4.c3;obtain ⟨fb,_,_,_,_,_,_,_,_,_,_⟩:=HK1.out W34 (Below.refl _ _);have he:=HQ1.out.no HDB.out;injection he with he e5;injection he with e1 he;injection he with e2 he;injection he with e3 e4;subst e1 e2 e3 e4 e5;obtain rfl:xn=0:=HSx.out.2.2.2.symm;have HLz:Hid (_):=zcM xa none 0 xc 0 [] 0 0 [] W34 Sx.out.ok.in ⟨rfl,fun j hj=>absurd hj (Nat.not_lt_zero j)⟩ (by omega) (fun j=>by simp [ta0]);have HB:Hid (Below w.heap.size w W34):=fb;clear fb;go_wp2_with fail
  refine Calls.mono HLz.out ?_;rintro e W35 ⟨rfl,hb⟩;go_wp2;go_ret;exact ⟨rfl,HB.out.trans (hb.mono HB.out.size)⟩
 by_cases hk0:xk<0
 ·
  skip
  have he:=HQ1.out.same HDB.out hk0;simp only at he;injection he with e1 he;injection he with e2 he;injection he with e3 e4;subst e1 e2 e3 e4;have hnn:xn=dn:=by have h1:=HSx.out.2.2.2;have h2:=HSd.out.2.2.2;omega
  subst hnn;obtain ⟨fb,_,_,sd,sx,_,_,_,_,_,_⟩:=HK1.out W34 (Below.refl _ _);have d0:=sd.b4.c0;have d1:=sd.b4.c1;have d2:=sd.b4.c2;have d3:=sd.b4.c3;have x0:=sx.b4.c0;have x1:=sx.b4.c1;have x2:=sx.b4.c2;have x3:=sx.b4.c3;have HB:Hid (Below w.heap.size w W34):=fb;have HLz:Hid (_):=zcM xa da xn xc dc xts xep xnw xjr W34 sx.ok.in sd.ok.in (by have:=HSx.out.2.1;omega) HSx.out.1;clear fb sd sx;go_wp2_with fail
  refine Calls.mono HLz.out ?_;rintro e W35 ⟨rfl,hb⟩;go_wp2;go_ret;exact ⟨rfl,HB.out.trans (hb.mono HB.out.size)⟩
 obtain ⟨k,rfl⟩:∃ k:Nat,xk=(k:Int):=⟨xk.toNat,by omega⟩
 have HL:Hid (_):=HQ1.out.yes HDB.out k rfl;have hkd:k<dn:=by have h1:=HL.out.lt;have h2:=HSd.out.2.2.2;simp only at h1;omega
 have hd9:dn≤9:=HSd.out.2.1;have HW0:Hid (Below W34.heap.size W34 W34):=Below.refl _ _;have hns:=(HSd.out.1 k).2;obtain ⟨ns,hnsd⟩:∃ l,(dts.getD k ta0).2.1=l:=⟨_,rfl⟩
 have HNd:Hid (∀ q,q<ns.length→0≤ns.getD q 0∧ns.getD q 0<(dts.length:Int)∧(dts.getD (ns.getD q 0).toNat ta0).2.2.1=2):=by rw [←hnsd];exact HL.out.need
 rw [hnsd] at hns;have HNs:Hid ((dts.getD k ta0).2.1=ns):=hnsd;clear hnsd hk0;have HKl:Hid (_):=HK1.out;have HQd:Hid (∀ Z,Below W34.heap.size W34 Z→RoD Z P3 da dc dn dts dep dnw djr):=fun Z hz=>(HKl.out Z hz).2.2.2.1
 have HQx:Hid (∀ Z,Below W34.heap.size W34 Z→RoD Z P5 xa xc xn xts xep xnw xjr):=fun Z hz=>(HKl.out Z hz).2.2.2.2.1
 have HQb:Hid (∀ Z,Below W34.heap.size W34 Z→Below w.heap.size w Z):=fun Z hz=>(HKl.out Z hz).1
 clear HKl;go_wp2_with fail
 go_loopw [30] (fun iv wr=>∃ i:Nat,iv=.int .i64 (i:Int)∧i≤ns.length∧Hid (Below W34.heap.size W34 wr)) (fun iv _=>ns.length-(intOf iv).toNat)
 case atStart=>exact ⟨0,rfl,Nat.zero_le _,HW0⟩
 case round =>
  obtain ⟨i,rfl,hi,HW⟩:=hrel;obtain ⟨V,hV⟩:∃ X,X=wr:=⟨_,rfl⟩
  subst hV;clear HW0;have sd:=HQd.out V HW.out;have d0:=sd.b4.c0;obtain ⟨bb,bo,rfl,hbl,_,⟨na,nc,c1,hna⟩,_⟩:=sd.ok.in.2 k hkd;rw [HNs.out] at c1 hna;by_cases hlt:(i:Int)<(ns.length:Int)
  ·
   obtain ⟨h0,h1,h2⟩:=HNd.out i (by omega);have hdl:=HSd.out.2.2.2;obtain ⟨j,hj⟩:∃ j:Nat,ns.getD i 0=(j:Int):=Int.eq_ofNat_of_zero_le h0
   rw [hj] at h1 h2;rw [Int.toNat_natCast] at h2;have hjd:j<dn:=by omega
   obtain ⟨b2,o2,e2,_,_,_,c2,_⟩:=sd.ok.in.2 j hjd;injection e2 with e2;injection e2 with e3 e4 _;subst e3 e4;rw [h2] at c2;obtain ⟨nb,no,rfl,_,n0⟩:=hna i (by omega);rw [hj] at n0;clear sd h0 h1 h2 hj hna;go_wp2
   go_region
   all_goals (try go_wp2)
   go_roundw
   case rel=>exact ⟨i+1,by go_num,by omega,(HW.out.trans ⟨rfl,rfl,rfl,Nat.le_refl _,fun _ _=>rfl⟩:Below W34.heap.size W34 V.drew)⟩
   case measure=>simp [intOf];omega
  ·
   clear sd hna;have sx:=HQx.out V HW.out;have hxk:k<xn:=by have h1:=HL.out.len;have h2:=HSx.out.2.2.2;have h3:=HSd.out.2.2.2;simp only at h1;omega
   have HDk:Hid (_):=zbw xa xn xc xts xep xnw xjr V sx.ok.in sx.cap HSx.out.1 (by have:=HSx.out.2.1;omega);rw [show zac (xts,xep,xnw,xjr)=true from HL.out.ok] at HDk;have x0:=sx.b4.c0;have x1:=sx.b4.c1;have x2:=sx.b4.c2;have x3:=sx.b4.c3;clear sx;go_wp2_with fail
   refine Calls.mono HDk.out ?_;rintro e V2 ⟨rfl,hb⟩;have HW2:Hid (Below W34.heap.size W34 V2):=HW.out.trans (hb.mono HW.out.size);clear d0 c1 x0 x1 x2 x3 hb HDk;have sd:=HQd.out V2 HW2.out;have sx:=HQx.out V2 HW2.out;have d0:=sd.b4.c0;have d3:=sd.b4.c3;have x0:=sx.b4.c0;have x3:=sx.b4.c3;obtain ⟨b2,o2,e2,_,_,_,d2,_⟩:=sd.ok.in.2 k hkd;injection e2 with e2;injection e2 with e3 e4 _;subst e3 e4;obtain ⟨xb,xo,rfl,_,_,_,c2,c3,_⟩:=sx.ok.in.2 k hxk;have h1:=HL.out.st;have h2:=HL.out.st';have h3:=HL.out.wk;have h4:=HL.out.jr;simp only at h1 h2 h3 h4;rw [h2] at c2;rw [h3] at c3;subst h4;generalize (dts.getD k ta0).2.2.1=sd2 at d2 h1;have hsd:(sd2 !=2)=true:=bne_iff_ne.2 h1;have hkk:(kk==kk)=true:=by simp
   have hll:∀ l:List UInt8,(l==l)=true:=by simp
   clear sd sx h2 h3;go_wp2;go_ret;exact ⟨rfl,HQb.out V2 HW2.out⟩
theorem deskE1 {w V:World} {a la da xa aa ya ta za va:Option Addr} {len cap ln lc dc dn xc xn ac an yc yn tc tn zc zn vc vn P3 P5 P7 P11 P13 P15 P18:Nat} {er:Nat→Addr} {kk xk tk te tk2 yk tq dep dnw xep xnw aep anw yep ynw tep tnw zep znw vep vnw:Int} {zk vk:Bool} {ps:List Pk} {dts xts ats yts tts zts vts:List Ta} {djr xjr ajr yjr tjr zjr vjr:List UInt8} {u1 u2 u20 u21 u22 u23 u24 u25 u26 u27 u28 u29 u30 u31 u32 u33 u34 u35 u36 u37 u38 u39 u40 u41 u42 u43 u44 u45 u46 u47 u48 u49 u50 u51 u52 u53 u54 u55 u56 u57 u58 u59 u60 u61 u62 u63 u64 u65 u66 u67 u68 u69 u70 u71 u72 u73 u74 u75 u76 u77 u78 u79 u80 u81 u82 u83 u84 u85 u86 u87 u88 u89 u90 u91 u92 u93 u94 u95 u96 u97 u98 u99 u100 u101 u102 u103 u104 u105 u106 u107 u108 u109 u110 u111 u112 u113 u114 u115 u116 u117 u118 u119 u120 u121 u122 u123 u124 u125 u126 u127 u128 u129 u130 u131 u132 u133 u134 u135 u136 u137 u138 u139 u140 u141 u142 u143 u144 u145 u146 u147 u148 u149 u150 u151 u152 u153 u154 u155 u156 u157 u158 u159 u160 u161 u162 u163 u164 u165 u166 u167 u168 u169 u170 u171 u172 u173 u174 u175 u176 u177 u178 u179 u180 u181 u182 u183 u184 u185 u186 u187 u188 u189 u190 u191 u192 u193 u194 u195 u196 u197 u198 u199 u200 u201 u202 u203 u204 u205 u206 u207 u208 u209 u210 u211 u212 u213 u214 u215 u216 u217 u218 u219 u220 u221 u222 u223 u224 u225 u226 u227 u228 u229 u230 u231 u232 u233 u234 u235 u236 u237 u238 u239 u240 u241 u242 u243 u244 u245 u246 u247 u248 u249 u250 u251 u252 u253 u254 u255 u256 u257 u258 u259 u260 u261 u262 u263 u264 u265 u266 u267 u268 u269 u270 u271 u272 u273 u274 u275 u276 u277 u278 u279 u280 u281 u282 u283 u284 u285 u286 u287 u288 u289:Value} (HSd:Hid (za1 dts∧dn≤9∧djr.length≤1508∧dts.length=dn)) (HSa:Hid (za1 ats∧an≤9∧ajr.length≤1508∧ats.length=an)) (HSx:Hid (za1 xts∧xn≤9∧xjr.length≤60000∧xts.length=xn)) (HSy:Hid (za1 yts∧yn≤9∧yjr.length≤60000∧yts.length=yn)) (HKb:Hid ((-9223372036854775808≤tk∧tk≤9223372036854775807)∧(-9223372036854775808≤tk2∧tk2≤9223372036854775807))) (HQ1:Hid (zpq (dts,dep,dnw,djr) kk ((xts,xep,xnw,xjr),xk))) (HQ2:Hid (RetQ (ats,aep,anw,ajr) tk te tk2 ((yts,yep,ynw,yjr),yk))) (HK0:Hid (∀ Z,Below V.heap.size V Z→Below w.heap.size w Z∧Err8 Z er∧zb0 Z∧RoD Z P3 da dc dn dts dep dnw djr∧RoD Z P5 xa xc xn xts xep xnw xjr∧RoD Z P7 aa ac an ats aep anw ajr∧RoD Z P11 ya yc yn yts yep ynw yjr∧RoD Z P13 ta tc tn tts tep tnw tjr∧RoD Z P15 za zc zn zts zep znw zjr∧zab Z la ln lc ps∧RoD Z P18 va vc vn vts vep vnw vjr)) :
 Code.wp Tryz.prog (zgg 14) (bodyPost Tryz.prog Tryz.f3 fun e w'=>e=.returned (.bool true)∧Below w.heap.size w w') ⟨#[.slice a len cap,u1,u2,.pointer (some ⟨P3,0,none⟩),.int .i64 kk,.pointer (some ⟨P5,0,none⟩),.int .i64 xk,.pointer (some ⟨P7,0,none⟩),.int .i64 tk,.int .i64 te,.int .i64 tk2,.pointer (some ⟨P11,0,none⟩),.int .i64 yk,.pointer (some ⟨P13,0,none⟩),.int .i64 tq,.pointer (some ⟨P15,0,none⟩),.bool zk,.slice la ln lc,.pointer (some ⟨P18,0,none⟩),.bool vk,u20,u21,u22,u23,u24,u25,u26,u27,u28,u29,u30,u31,u32,u33,u34,u35,u36,u37,u38,u39,u40,u41,u42,u43,u44,u45,u46,u47,u48,u49,u50,u51,u52,u53,u54,u55,u56,u57,u58,u59,u60,u61,u62,u63,u64,u65,u66,u67,u68,u69,u70,u71,u72,u73,u74,u75,u76,u77,u78,u79,u80,u81,u82,u83,u84,u85,u86,u87,u88,u89,u90,u91,u92,u93,u94,u95,u96,u97,u98,u99,u100,u101,u102,u103,u104,u105,u106,u107,u108,u109,u110,u111,u112,u113,u114,u115,u116,u117,u118,u119,u120,u121,u122,u123,u124,u125,u126,u127,u128,u129,u130,u131,u132,u133,u134,u135,u136,u137,u138,u139,u140,u141,u142,u143,u144,u145,u146,u147,u148,u149,u150,u151,u152,u153,u154,u155,u156,u157,u158,u159,u160,u161,u162,u163,u164,u165,u166,u167,u168,u169,u170,u171,u172,u173,u174,u175,u176,u177,u178,u179,u180,u181,u182,u183,u184,u185,u186,u187,u188,u189,u190,u191,u192,u193,u194,u195,u196,u197,u198,u199,u200,u201,u202,u203,u204,u205,u206,u207,u208,u209,u210,u211,u212,u213,u214,u215,u216,u217,u218,u219,u220,u221,u222,u223,u224,u225,u226,u227,u228,u229,u230,u231,u232,u233,u234,u235,u236,u237,u238,u239,u240,u241,u242,u243,u244,u245,u246,u247,u248,u249,u250,u251,u252,u253,u254,u255,u256,u257,u258,u259,u260,u261,u262,u263,u264,u265,u266,u267,u268,u269,u270,u271,u272,u273,u274,u275,u276,u277,u278,u279,u280,u281,u282,u283,u284,u285,u286,u287,u288,u289],[]⟩ V:=by
 conv=>arg 2;whnf
 have hbb:∀ b:Bool,(b !=b)=false:=by simp
 have hii:∀ n:Int,(n !=n)=false:=by simp
 obtain ⟨_,_,_,_,_,_,sy,_,_,_,_⟩:=HK0.out V (Below.refl _ _);have Sy:Hid (RoD V P11 ya yc yn yts yep ynw yjr):=sy;clear sy;have y0:=Sy.out.b4.c0;have y1:=Sy.out.b4.c1;have y2:=Sy.out.b4.c2;have y3:=Sy.out.b4.c3;obtain ⟨_,_,_,_,_,sa,_,_,_,_,_⟩:=HK0.out V (Below.refl _ _);have Sa:Hid (RoD V P7 aa ac an ats aep anw ajr):=sa;clear sa;have a0:=Sa.out.b4.c0;have a1:=Sa.out.b4.c1;have a2:=Sa.out.b4.c2;have a3:=Sa.out.b4.c3;obtain ⟨_,_,sp,_,_,_,_,_,_,_,_⟩:=HK0.out V (Below.refl _ _);have HPw:Hid (zb0 V):=sp;clear sp
 go_upto_if 178 with (fail)
 go_cut [] from 31 (fun wx=>Hid (Below V.heap.size V wx))
 case first =>
  by_cases hj:yk=0
  ·
   subst hj;obtain ⟨g1,g2,g3,g4,g5⟩:=HQ2.out.yes rfl;simp only at g1 g3 g4 g5;have HG4:Hid (_):=g4;clear g4;have HIm:Hid (_):=zfP ya yn yc yts yep ynw yjr tk te tk2 V Sy.out.ok HSy.out.1 (by have:=HSy.out.2.1;omega) (by have:=HSy.out.2.2.1;omega) Sy.out.cap HPw.out HKb.out.1.1 HKb.out.1.2 HKb.out.2.1 HKb.out.2.2;generalize zag (yts,yep,ynw,yjr) tk te tk2=R at HIm g5;obtain ⟨⟨gts,gep,gnw,gjr⟩,gk⟩:=R;simp only at g5;subst g5;obtain ⟨gn,hgn⟩:∃ n,gts.length=n:=⟨_,rfl⟩
   unfold zbQ at HIm;simp only [hgn] at HIm;go_wp2_with fail
   refine Calls.mono HIm.out ?_;rintro e W31 ⟨_,rfl,ga,gc,gxs,rfl,_,_,_,hb⟩;obtain ⟨P31,Z31,X31,hP31,hZ31,Z310,Z311,Z312,Z313,Z31f,hX31,b4X31,hbX31⟩:=boxD W31 (.slice ga gn gc) (.int .i64 gep) (.int .i64 gnw) (.string ⟨gjr.toArray⟩);have hb2:Below V.heap.size V X31:=hb.trans (hbX31.mono hb.size);have Sw:Hid (RoD X31 P11 ya yc yn yts yep ynw yjr):=Sy.out.below hb2;have HDk:Hid (_):=zbw ya yn yc yts yep ynw yjr X31 Sw.out.ok.in Sw.out.cap HSy.out.1 (by have:=HSy.out.2.1;omega);rw [g1] at HDk;clear y0 y1 y2 y3 a0 a1 a2 a3 hb hbX31 b4X31 HIm hgn;have y0:=Sw.out.b4.c0;have y1:=Sw.out.b4.c1;have y2:=Sw.out.b4.c2;have y3:=Sw.out.b4.c3;go_wp2_with fail
   refine Calls.mono HDk.out ?_;rintro e W32 ⟨rfl,hb3⟩;clear hP31 hZ31 hX31 Z310 Z311 Z312 Z313 Z31f;have sw:=Sw.out.below hb3;clear y0 y1 y2 y3 HDk;have y0:=sw.b4.c0;obtain ⟨i,rfl⟩:∃ i:Nat,tk=(i:Int):=Int.eq_ofNat_of_zero_le g2
   have hyl:=HSy.out.2.2.2;have hy9:=HSy.out.2.1;have hi:i<yn:=by omega
   obtain ⟨yb,yo,rfl,_,_,_,_,_,_,c5⟩:=sw.ok.in.2 i hi;have g4:=HG4.out;rw [Int.toNat_natCast] at g4;rw [g4] at c5;clear sw g1 g3 g4 hyl HG4;go_wp2_with fail
   go_meet
   case rel=>exact hb2.trans (hb3.mono hb2.size)
  ·
   have hj2:(yk==0)=false:=beq_eq_false_iff_ne.2 hj;have HDk:Hid (_):=zbW aa an ac ats aep anw ajr V Sa.out.ok.in HSa.out.1 (by have:=HSa.out.2.1;omega);have hsm:=HQ2.out.same;rcases hab:zac (ats,aep,anw,ajr) with _ | _
   ·
    rw [hab] at HDk;clear hsm;go_wp2_with fail
    refine Calls.mono HDk.out ?_;rintro e W31 ⟨rfl,hb⟩;go_wp2_with fail
    go_meet
    case rel=>exact hb
   ·
    rw [hab] at HDk;have he:=hsm hab hj;simp only at he;injection he with e1 he;injection he with e2 he;injection he with e3 e4;subst e1 e2 e3 e4;have hnn:yn=an:=by have h1:=HSy.out.2.2.2;have h2:=HSa.out.2.2.2;omega
    subst hnn;clear hsm;go_wp2_with fail
    refine Calls.mono HDk.out ?_;rintro e W31 ⟨rfl,hb⟩;clear y0 y1 y2 y3 a0 a1 a2 a3 HDk;have Sw:Hid (RoD W31 P11 ya yc yn yts yep ynw yjr):=Sy.out.below hb;have Sv:Hid (RoD W31 P7 aa ac yn yts yep ynw yjr):=Sa.out.below hb;have y0:=Sw.out.b4.c0;have y1:=Sw.out.b4.c1;have y2:=Sw.out.b4.c2;have y3:=Sw.out.b4.c3;have a0:=Sv.out.b4.c0;have a1:=Sv.out.b4.c1;have a2:=Sv.out.b4.c2;have a3:=Sv.out.b4.c3;have HLk:Hid (_):=zcM ya aa yn yc ac yts yep ynw yjr W31 Sw.out.ok.in Sv.out.ok.in (by have:=HSy.out.2.1;omega) HSy.out.1;go_wp2_with fail
    refine Calls.mono HLk.out ?_;rintro e W32 ⟨rfl,hb2⟩;go_wp2_with fail
    go_meet
    case rel=>exact hb.trans (hb2.mono hb.size)
 case rest =>
  clear Sy y0 y1 y2 y3;clear Sa a0 a1 a2 a3;clear HPw;have HB:=hcut;obtain ⟨W33,hW⟩:∃ W,wc=W:=⟨_,rfl⟩
  rw [hW] at HB ⊢;clear hW hcut;have hb:=HB.out;clear HB
  have HK1:Hid (∀ Z,Below W33.heap.size W33 Z→Below w.heap.size w Z∧Err8 Z er∧zb0 Z∧RoD Z P3 da dc dn dts dep dnw djr∧RoD Z P5 xa xc xn xts xep xnw xjr∧RoD Z P7 aa ac an ats aep anw ajr∧RoD Z P11 ya yc yn yts yep ynw yjr∧RoD Z P13 ta tc tn tts tep tnw tjr∧RoD Z P15 za zc zn zts zep znw zjr∧zab Z la ln lc ps∧RoD Z P18 va vc vn vts vep vnw vjr):=fun Z hz=>by
   obtain ⟨f0,f1,f2,f3,f4,f5,f6,f7,f8,f9,f10⟩:=HK0.out Z (hb.trans (hz.mono hb.size));exact ⟨f0,f1,f2,f3,f4,f5,f6,f7,f8,f9,f10⟩
  clear HK0;clear hb;refine (‹∀ (a:Act) (w:World),Code.wp Tryz.prog _ _ a w→_›) _ _ ?_;exact deskD1 HSd HSx HQ1 HK1
theorem deskC1 {w V:World} {a la da xa aa ya ta za va:Option Addr} {len cap ln lc dc dn xc xn ac an yc yn tc tn zc zn vc vn P3 P5 P7 P11 P13 P15 P18:Nat} {er:Nat→Addr} {kk xk tk te tk2 yk tq dep dnw xep xnw aep anw yep ynw tep tnw zep znw vep vnw:Int} {zk vk:Bool} {ps:List Pk} {dts xts ats yts tts zts vts:List Ta} {djr xjr ajr yjr tjr zjr vjr:List UInt8} {u1 u2 u20 u21 u22 u23 u24 u25 u26 u27 u28 u29 u30 u31 u32 u33 u34 u35 u36 u37 u38 u39 u40 u41 u42 u43 u44 u45 u46 u47 u48 u49 u50 u51 u52 u53 u54 u55 u56 u57 u58 u59 u60 u61 u62 u63 u64 u65 u66 u67 u68 u69 u70 u71 u72 u73 u74 u75 u76 u77 u78 u79 u80 u81 u82 u83 u84 u85 u86 u87 u88 u89 u90 u91 u92 u93 u94 u95 u96 u97 u98 u99 u100 u101 u102 u103 u104 u105 u106 u107 u108 u109 u110 u111 u112 u113 u114 u115 u116 u117 u118 u119 u120 u121 u122 u123 u124 u125 u126 u127 u128 u129 u130 u131 u132 u133 u134 u135 u136 u137 u138 u139 u140 u141 u142 u143 u144 u145 u146 u147 u148 u149 u150 u151 u152 u153 u154 u155 u156 u157 u158 u159 u160 u161 u162 u163 u164 u165 u166 u167 u168 u169 u170 u171 u172 u173 u174 u175 u176 u177 u178 u179 u180 u181 u182 u183 u184 u185 u186 u187 u188 u189 u190 u191 u192 u193 u194 u195 u196 u197 u198 u199 u200 u201 u202 u203 u204 u205 u206 u207 u208 u209 u210 u211 u212 u213 u214 u215 u216 u217 u218 u219 u220 u221 u222 u223 u224 u225 u226 u227 u228 u229 u230 u231 u232 u233 u234 u235 u236 u237 u238 u239 u240 u241 u242 u243 u244 u245 u246 u247 u248 u249 u250 u251 u252 u253 u254 u255 u256 u257 u258 u259 u260 u261 u262 u263 u264 u265 u266 u267 u268 u269 u270 u271 u272 u273 u274 u275 u276 u277 u278 u279 u280 u281 u282 u283 u284 u285 u286 u287 u288 u289:Value} (HSd:Hid (za1 dts∧dn≤9∧djr.length≤1508∧dts.length=dn)) (HSa:Hid (za1 ats∧an≤9∧ajr.length≤1508∧ats.length=an)) (HSx:Hid (za1 xts∧xn≤9∧xjr.length≤60000∧xts.length=xn)) (HSy:Hid (za1 yts∧yn≤9∧yjr.length≤60000∧yts.length=yn)) (HSv:Hid (za1 vts∧vn≤9∧True∧vts.length=vn)) (HKb:Hid ((-9223372036854775808≤tk∧tk≤9223372036854775807)∧(-9223372036854775808≤tk2∧tk2≤9223372036854775807))) (HL4:Hid (ln≤4)) (HQ1:Hid (zpq (dts,dep,dnw,djr) kk ((xts,xep,xnw,xjr),xk))) (HQ2:Hid (RetQ (ats,aep,anw,ajr) tk te tk2 ((yts,yep,ynw,yjr),yk))) (HQ4:Hid (NewQ ((vts,vep,vnw,vjr),vk))) (HR4:Hid (newV ps=((vts,vep,vnw,vjr),vk))) (HK0:Hid (∀ Z,Below V.heap.size V Z→Below w.heap.size w Z∧Err8 Z er∧zb0 Z∧RoD Z P3 da dc dn dts dep dnw djr∧RoD Z P5 xa xc xn xts xep xnw xjr∧RoD Z P7 aa ac an ats aep anw ajr∧RoD Z P11 ya yc yn yts yep ynw yjr∧RoD Z P13 ta tc tn tts tep tnw tjr∧RoD Z P15 za zc zn zts zep znw zjr∧zab Z la ln lc ps∧RoD Z P18 va vc vn vts vep vnw vjr)) :
 Code.wp Tryz.prog (zgg 13) (bodyPost Tryz.prog Tryz.f3 fun e w'=>e=.returned (.bool true)∧Below w.heap.size w w') ⟨#[.slice a len cap,u1,u2,.pointer (some ⟨P3,0,none⟩),.int .i64 kk,.pointer (some ⟨P5,0,none⟩),.int .i64 xk,.pointer (some ⟨P7,0,none⟩),.int .i64 tk,.int .i64 te,.int .i64 tk2,.pointer (some ⟨P11,0,none⟩),.int .i64 yk,.pointer (some ⟨P13,0,none⟩),.int .i64 tq,.pointer (some ⟨P15,0,none⟩),.bool zk,.slice la ln lc,.pointer (some ⟨P18,0,none⟩),.bool vk,u20,u21,u22,u23,u24,u25,u26,u27,u28,u29,u30,u31,u32,u33,u34,u35,u36,u37,u38,u39,u40,u41,u42,u43,u44,u45,u46,u47,u48,u49,u50,u51,u52,u53,u54,u55,u56,u57,u58,u59,u60,u61,u62,u63,u64,u65,u66,u67,u68,u69,u70,u71,u72,u73,u74,u75,u76,u77,u78,u79,u80,u81,u82,u83,u84,u85,u86,u87,u88,u89,u90,u91,u92,u93,u94,u95,u96,u97,u98,u99,u100,u101,u102,u103,u104,u105,u106,u107,u108,u109,u110,u111,u112,u113,u114,u115,u116,u117,u118,u119,u120,u121,u122,u123,u124,u125,u126,u127,u128,u129,u130,u131,u132,u133,u134,u135,u136,u137,u138,u139,u140,u141,u142,u143,u144,u145,u146,u147,u148,u149,u150,u151,u152,u153,u154,u155,u156,u157,u158,u159,u160,u161,u162,u163,u164,u165,u166,u167,u168,u169,u170,u171,u172,u173,u174,u175,u176,u177,u178,u179,u180,u181,u182,u183,u184,u185,u186,u187,u188,u189,u190,u191,u192,u193,u194,u195,u196,u197,u198,u199,u200,u201,u202,u203,u204,u205,u206,u207,u208,u209,u210,u211,u212,u213,u214,u215,u216,u217,u218,u219,u220,u221,u222,u223,u224,u225,u226,u227,u228,u229,u230,u231,u232,u233,u234,u235,u236,u237,u238,u239,u240,u241,u242,u243,u244,u245,u246,u247,u248,u249,u250,u251,u252,u253,u254,u255,u256,u257,u258,u259,u260,u261,u262,u263,u264,u265,u266,u267,u268,u269,u270,u271,u272,u273,u274,u275,u276,u277,u278,u279,u280,u281,u282,u283,u284,u285,u286,u287,u288,u289],[]⟩ V:=by
 conv=>arg 2;whnf
 have hbb:∀ b:Bool,(b !=b)=false:=by simp
 have hii:∀ n:Int,(n !=n)=false:=by simp
 have HSp4:Hid (_):=fun (Z:World) (hz:zab Z la ln lc ps)=>zel la ln lc ps Z hz.in (by have:=HL4.out;omega) hz.short
 rw [HR4.out] at HSp4;unfold zbQ at HSp4;simp only [HSv.out.2.2.2] at HSp4;obtain ⟨_,_,_,_,_,_,_,_,_,sq,_⟩:=HK0.out V (Below.refl _ _);go_wp2_with fail
 refine Calls.mono (HSp4.out _ sq) ?_;rintro e W26 ⟨_,rfl,ua,uc,uxs,rfl,hx,ho,_,hb⟩;obtain ⟨P26,Z26,X26,hP26,hZ26,Z260,Z261,Z262,Z263,Z26f,hX26,b4X26,hbX26⟩:=boxD W26 (.slice ua vn uc) (.int .i64 vep) (.int .i64 vnw) (.string ⟨vjr.toArray⟩);have hst:Below V.heap.size V X26:=hb.trans (hbX26.mono hb.size);have HU:Hid (RoD X26 P26 ua uc vn vts vep vnw vjr):=RoD.new ho hx HSv.out.2.2.2 hbX26 b4X26
 have HK1:Hid (∀ Z,Below X26.heap.size X26 Z→Below w.heap.size w Z∧Err8 Z er∧zb0 Z∧RoD Z P3 da dc dn dts dep dnw djr∧RoD Z P5 xa xc xn xts xep xnw xjr∧RoD Z P7 aa ac an ats aep anw ajr∧RoD Z P11 ya yc yn yts yep ynw yjr∧RoD Z P13 ta tc tn tts tep tnw tjr∧RoD Z P15 za zc zn zts zep znw zjr∧zab Z la ln lc ps∧RoD Z P18 va vc vn vts vep vnw vjr):=fun Z hz=>by
  obtain ⟨f0,f1,f2,f3,f4,f5,f6,f7,f8,f9,f10⟩:=HK0.out Z (hst.trans (hz.mono hst.size));exact ⟨f0,f1,f2,f3,f4,f5,f6,f7,f8,f9,f10⟩
 clear HK0;clear ho hx hb hst hbX26 b4X26;clear HSp4 sq
 go_upto_region 21 with fail
 clear hP26 hZ26 hX26 Z260 Z261 Z262 Z263 Z26f;obtain ⟨_,_,_,_,_,_,_,_,_,_,sv⟩:=HK1.out X26 (Below.refl _ _);have Sv:Hid (RoD X26 P18 va vc vn vts vep vnw vjr):=sv;clear sv;have v0:=Sv.out.b4.c0;have v1:=Sv.out.b4.c1;have v2:=Sv.out.b4.c2;have v3:=Sv.out.b4.c3
 go_cut [176] from 31 (fun v wx=>v=.bool false∧Hid (Below X26.heap.size X26 wx))
 case first =>
  have u0:=HU.out.b4.c0;have u1:=HU.out.b4.c1;have u2:=HU.out.b4.c2;have u3:=HU.out.b4.c3;have HLk:Hid (_):=zcM va ua vn vc uc vts vep vnw vjr X26 Sv.out.ok.in HU.out.ok.in (by have:=HSv.out.2.1;omega) HSv.out.1;go_wp2_with fail
  refine Calls.mono HLk.out ?_;rintro e W28 ⟨rfl,hb⟩;rcases vk with _ | _
  ·
   go_wp2_with fail
   go_meet
   case rel=>exact ⟨rfl,hb⟩
  ·
   have g1:=HQ4.out.yes rfl;simp only at g1;have sv:=Sv.out.below hb;clear v0 v1 v2 v3 u0 u1 u2 u3;have v0:=sv.b4.c0;have v1:=sv.b4.c1;have v2:=sv.b4.c2;have v3:=sv.b4.c3;have HDk:Hid (_):=zbw va vn vc vts vep vnw vjr W28 sv.ok.in sv.cap HSv.out.1 (by have:=HSv.out.2.1;omega);rw [g1] at HDk;clear sv;go_wp2_with fail
   refine Calls.mono HDk.out ?_;rintro e W29 ⟨rfl,hb2⟩;clear v0 v1 v2 v3 HDk;go_wp2_with fail
   go_meet
   case rel=>exact ⟨rfl,hb.trans (hb2.mono hb.size)⟩
 case rest =>
  clear Sv v0 v1 v2 v3;clear HU;obtain ⟨rfl,HB⟩:=hcut;obtain ⟨W30,hW⟩:∃ W,wc=W:=⟨_,rfl⟩
  rw [hW] at HB ⊢;clear hW;have hb:=HB.out;clear HB
  have HK2:Hid (∀ Z,Below W30.heap.size W30 Z→Below w.heap.size w Z∧Err8 Z er∧zb0 Z∧RoD Z P3 da dc dn dts dep dnw djr∧RoD Z P5 xa xc xn xts xep xnw xjr∧RoD Z P7 aa ac an ats aep anw ajr∧RoD Z P11 ya yc yn yts yep ynw yjr∧RoD Z P13 ta tc tn tts tep tnw tjr∧RoD Z P15 za zc zn zts zep znw zjr∧zab Z la ln lc ps∧RoD Z P18 va vc vn vts vep vnw vjr):=fun Z hz=>by
   obtain ⟨f0,f1,f2,f3,f4,f5,f6,f7,f8,f9,f10⟩:=HK1.out Z (hb.trans (hz.mono hb.size));exact ⟨f0,f1,f2,f3,f4,f5,f6,f7,f8,f9,f10⟩
  clear HK1;clear hb
  go_upto_if 176 with (fail)
  go_cut [] from 31 (fun wx=>Hid (Below W30.heap.size W30 wx))
  case first =>
   go_wp2_with fail
   go_meet;exact Below.refl _ _
  case rest =>
   have HB:=hcut;obtain ⟨W30b,hW⟩:∃ W,wc=W:=⟨_,rfl⟩
   rw [hW] at HB ⊢;clear hW hcut;have hb:=HB.out;clear HB
   have HK3:Hid (∀ Z,Below W30b.heap.size W30b Z→Below w.heap.size w Z∧Err8 Z er∧zb0 Z∧RoD Z P3 da dc dn dts dep dnw djr∧RoD Z P5 xa xc xn xts xep xnw xjr∧RoD Z P7 aa ac an ats aep anw ajr∧RoD Z P11 ya yc yn yts yep ynw yjr∧RoD Z P13 ta tc tn tts tep tnw tjr∧RoD Z P15 za zc zn zts zep znw zjr∧zab Z la ln lc ps∧RoD Z P18 va vc vn vts vep vnw vjr):=fun Z hz=>by
    obtain ⟨f0,f1,f2,f3,f4,f5,f6,f7,f8,f9,f10⟩:=HK2.out Z (hb.trans (hz.mono hb.size));exact ⟨f0,f1,f2,f3,f4,f5,f6,f7,f8,f9,f10⟩
   clear HK2;clear hb;refine (‹∀ (a:Act) (w:World),Code.wp Tryz.prog _ _ a w→_›) _ _ ?_;exact deskE1 HSd HSa HSx HSy HKb HQ1 HQ2 HK3
theorem deskB1 {w V:World} {a la da xa aa ya ta za va:Option Addr} {len cap ln lc dc dn xc xn ac an yc yn tc tn zc zn vc vn P3 P5 P7 P11 P13 P15 P18:Nat} {er:Nat→Addr} {kk xk tk te tk2 yk tq dep dnw xep xnw aep anw yep ynw tep tnw zep znw vep vnw:Int} {zk vk:Bool} {ps:List Pk} {dts xts ats yts tts zts vts:List Ta} {djr xjr ajr yjr tjr zjr vjr:List UInt8} {u1 u2 u20 u21 u22 u23 u24 u25 u26 u27 u28 u29 u30 u31 u32 u33 u34 u35 u36 u37 u38 u39 u40 u41 u42 u43 u44 u45 u46 u47 u48 u49 u50 u51 u52 u53 u54 u55 u56 u57 u58 u59 u60 u61 u62 u63 u64 u65 u66 u67 u68 u69 u70 u71 u72 u73 u74 u75 u76 u77 u78 u79 u80 u81 u82 u83 u84 u85 u86 u87 u88 u89 u90 u91 u92 u93 u94 u95 u96 u97 u98 u99 u100 u101 u102 u103 u104 u105 u106 u107 u108 u109 u110 u111 u112 u113 u114 u115 u116 u117 u118 u119 u120 u121 u122 u123 u124 u125 u126 u127 u128 u129 u130 u131 u132 u133 u134 u135 u136 u137 u138 u139 u140 u141 u142 u143 u144 u145 u146 u147 u148 u149 u150 u151 u152 u153 u154 u155 u156 u157 u158 u159 u160 u161 u162 u163 u164 u165 u166 u167 u168 u169 u170 u171 u172 u173 u174 u175 u176 u177 u178 u179 u180 u181 u182 u183 u184 u185 u186 u187 u188 u189 u190 u191 u192 u193 u194 u195 u196 u197 u198 u199 u200 u201 u202 u203 u204 u205 u206 u207 u208 u209 u210 u211 u212 u213 u214 u215 u216 u217 u218 u219 u220 u221 u222 u223 u224 u225 u226 u227 u228 u229 u230 u231 u232 u233 u234 u235 u236 u237 u238 u239 u240 u241 u242 u243 u244 u245 u246 u247 u248 u249 u250 u251 u252 u253 u254 u255 u256 u257 u258 u259 u260 u261 u262 u263 u264 u265 u266 u267 u268 u269 u270 u271 u272 u273 u274 u275 u276 u277 u278 u279 u280 u281 u282 u283 u284 u285 u286 u287 u288 u289:Value} (HSd:Hid (za1 dts∧dn≤9∧djr.length≤1508∧dts.length=dn)) (HSa:Hid (za1 ats∧an≤9∧ajr.length≤1508∧ats.length=an)) (HSt:Hid (za1 tts∧tn≤9∧tjr.length≤1508∧tts.length=tn)) (HSx:Hid (za1 xts∧xn≤9∧xjr.length≤60000∧xts.length=xn)) (HSy:Hid (za1 yts∧yn≤9∧yjr.length≤60000∧yts.length=yn)) (HSz:Hid (za1 zts∧zn≤9∧True∧zts.length=zn)) (HSv:Hid (za1 vts∧vn≤9∧True∧vts.length=vn)) (HKb:Hid ((-9223372036854775808≤tk∧tk≤9223372036854775807)∧(-9223372036854775808≤tk2∧tk2≤9223372036854775807))) (HTb:Hid (-9223372036854775808≤tq∧tq≤9223372036854775807)) (HL4:Hid (ln≤4)) (HQ1:Hid (zpq (dts,dep,dnw,djr) kk ((xts,xep,xnw,xjr),xk))) (HQ2:Hid (RetQ (ats,aep,anw,ajr) tk te tk2 ((yts,yep,ynw,yjr),yk))) (HQ3:Hid (TickQ (tts,tep,tnw,tjr) tq ((zts,zep,znw,zjr),zk))) (HQ4:Hid (NewQ ((vts,vep,vnw,vjr),vk))) (HR2:Hid (zag (ats,aep,anw,ajr) tk te tk2=((yts,yep,ynw,yjr),yk))) (HR3:Hid (zaO (tts,tep,tnw,tjr) tq=((zts,zep,znw,zjr),zk))) (HR4:Hid (newV ps=((vts,vep,vnw,vjr),vk))) (HK0:Hid (∀ Z,Below V.heap.size V Z→Below w.heap.size w Z∧Err8 Z er∧zb0 Z∧RoD Z P3 da dc dn dts dep dnw djr∧RoD Z P5 xa xc xn xts xep xnw xjr∧RoD Z P7 aa ac an ats aep anw ajr∧RoD Z P11 ya yc yn yts yep ynw yjr∧RoD Z P13 ta tc tn tts tep tnw tjr∧RoD Z P15 za zc zn zts zep znw zjr∧zab Z la ln lc ps∧RoD Z P18 va vc vn vts vep vnw vjr)) :
 Code.wp Tryz.prog (zgg 11) (bodyPost Tryz.prog Tryz.f3 fun e w'=>e=.returned (.bool true)∧Below w.heap.size w w') ⟨#[.slice a len cap,u1,u2,.pointer (some ⟨P3,0,none⟩),.int .i64 kk,.pointer (some ⟨P5,0,none⟩),.int .i64 xk,.pointer (some ⟨P7,0,none⟩),.int .i64 tk,.int .i64 te,.int .i64 tk2,.pointer (some ⟨P11,0,none⟩),.int .i64 yk,.pointer (some ⟨P13,0,none⟩),.int .i64 tq,.pointer (some ⟨P15,0,none⟩),.bool zk,.slice la ln lc,.pointer (some ⟨P18,0,none⟩),.bool vk,u20,u21,u22,u23,u24,u25,u26,u27,u28,u29,u30,u31,u32,u33,u34,u35,u36,u37,u38,u39,u40,u41,u42,u43,u44,u45,u46,u47,u48,u49,u50,u51,u52,u53,u54,u55,u56,u57,u58,u59,u60,u61,u62,u63,u64,u65,u66,u67,u68,u69,u70,u71,u72,u73,u74,u75,u76,u77,u78,u79,u80,u81,u82,u83,u84,u85,u86,u87,u88,u89,u90,u91,u92,u93,u94,u95,u96,u97,u98,u99,u100,u101,u102,u103,u104,u105,u106,u107,u108,u109,u110,u111,u112,u113,u114,u115,u116,u117,u118,u119,u120,u121,u122,u123,u124,u125,u126,u127,u128,u129,u130,u131,u132,u133,u134,u135,u136,u137,u138,u139,u140,u141,u142,u143,u144,u145,u146,u147,u148,u149,u150,u151,u152,u153,u154,u155,u156,u157,u158,u159,u160,u161,u162,u163,u164,u165,u166,u167,u168,u169,u170,u171,u172,u173,u174,u175,u176,u177,u178,u179,u180,u181,u182,u183,u184,u185,u186,u187,u188,u189,u190,u191,u192,u193,u194,u195,u196,u197,u198,u199,u200,u201,u202,u203,u204,u205,u206,u207,u208,u209,u210,u211,u212,u213,u214,u215,u216,u217,u218,u219,u220,u221,u222,u223,u224,u225,u226,u227,u228,u229,u230,u231,u232,u233,u234,u235,u236,u237,u238,u239,u240,u241,u242,u243,u244,u245,u246,u247,u248,u249,u250,u251,u252,u253,u254,u255,u256,u257,u258,u259,u260,u261,u262,u263,u264,u265,u266,u267,u268,u269,u270,u271,u272,u273,u274,u275,u276,u277,u278,u279,u280,u281,u282,u283,u284,u285,u286,u287,u288,u289],[]⟩ V:=by
 conv=>arg 2;whnf
 have hbb:∀ b:Bool,(b !=b)=false:=by simp
 have hii:∀ n:Int,(n !=n)=false:=by simp
 have HSp2:Hid (_):=fun (Z:World) (hz:RoD Z P7 aa ac an ats aep anw ajr)=>zj5 aa an ac ats aep anw ajr tk te tk2 Z hz.ok HSa.out.1 (by have:=HSa.out.2.1;omega) HKb.out.1.1 HKb.out.1.2 HKb.out.2.1 HKb.out.2.2
 rw [HR2.out] at HSp2;unfold zbQ at HSp2;simp only [HSy.out.2.2.2] at HSp2;have HSp3:Hid (_):=fun (Z:World) (hz:RoD Z P13 ta tc tn tts tep tnw tjr)=>zmB ta tn tc tts tep tnw tjr tq Z hz.ok HSt.out.1 (by have:=HSt.out.2.1;omega) HTb.out.1 HTb.out.2
 rw [HR3.out] at HSp3;unfold zbQ at HSp3;simp only [HSz.out.2.2.2] at HSp3;obtain ⟨_,_,_,_,_,sa,_,_,_,_,_⟩:=HK0.out V (Below.refl _ _);have Sa:Hid (RoD V P7 aa ac an ats aep anw ajr):=sa;clear sa;have a0:=Sa.out.b4.c0;have a1:=Sa.out.b4.c1;have a2:=Sa.out.b4.c2;have a3:=Sa.out.b4.c3;go_wp2_with fail
 refine Calls.mono (HSp2.out _ Sa.out) ?_;rintro e W22 ⟨_,rfl,ua,uc,uxs,rfl,hx,ho,_,hb⟩;obtain ⟨P22,Z22,X22,hP22,hZ22,Z220,Z221,Z222,Z223,Z22f,hX22,b4X22,hbX22⟩:=boxD W22 (.slice ua yn uc) (.int .i64 yep) (.int .i64 ynw) (.string ⟨yjr.toArray⟩);have hst:Below V.heap.size V X22:=hb.trans (hbX22.mono hb.size);have HU:Hid (RoD X22 P22 ua uc yn yts yep ynw yjr):=RoD.new ho hx HSy.out.2.2.2 hbX22 b4X22
 have HK1:Hid (∀ Z,Below X22.heap.size X22 Z→Below w.heap.size w Z∧Err8 Z er∧zb0 Z∧RoD Z P3 da dc dn dts dep dnw djr∧RoD Z P5 xa xc xn xts xep xnw xjr∧RoD Z P7 aa ac an ats aep anw ajr∧RoD Z P11 ya yc yn yts yep ynw yjr∧RoD Z P13 ta tc tn tts tep tnw tjr∧RoD Z P15 za zc zn zts zep znw zjr∧zab Z la ln lc ps∧RoD Z P18 va vc vn vts vep vnw vjr):=fun Z hz=>by
  obtain ⟨f0,f1,f2,f3,f4,f5,f6,f7,f8,f9,f10⟩:=HK0.out Z (hst.trans (hz.mono hst.size));exact ⟨f0,f1,f2,f3,f4,f5,f6,f7,f8,f9,f10⟩
 clear HK0;clear ho hx hb hst hbX22 b4X22;clear Sa a0 a1 a2 a3;clear HSp2;obtain ⟨_,_,_,_,_,_,sy,_,_,_,_⟩:=HK1.out X22 (Below.refl _ _);have Sy:Hid (RoD X22 P11 ya yc yn yts yep ynw yjr):=sy;clear sy;have y0:=Sy.out.b4.c0;have y1:=Sy.out.b4.c1;have y2:=Sy.out.b4.c2;have y3:=Sy.out.b4.c3;have u0:=HU.out.b4.c0;have u1:=HU.out.b4.c1;have u2:=HU.out.b4.c2;have u3:=HU.out.b4.c3;have HLk:Hid (_):=zcM ya ua yn yc uc yts yep ynw yjr X22 Sy.out.ok.in HU.out.ok.in (by have:=HSy.out.2.1;omega) HSy.out.1;go_wp2_with fail
 refine Calls.mono HLk.out ?_;rintro e W23 ⟨rfl,hb⟩;clear hP22 hZ22 hX22 Z220 Z221 Z222 Z223 Z22f
 have HK2:Hid (∀ Z,Below W23.heap.size W23 Z→Below w.heap.size w Z∧Err8 Z er∧zb0 Z∧RoD Z P3 da dc dn dts dep dnw djr∧RoD Z P5 xa xc xn xts xep xnw xjr∧RoD Z P7 aa ac an ats aep anw ajr∧RoD Z P11 ya yc yn yts yep ynw yjr∧RoD Z P13 ta tc tn tts tep tnw tjr∧RoD Z P15 za zc zn zts zep znw zjr∧zab Z la ln lc ps∧RoD Z P18 va vc vn vts vep vnw vjr):=fun Z hz=>by
  obtain ⟨f0,f1,f2,f3,f4,f5,f6,f7,f8,f9,f10⟩:=HK1.out Z (hb.trans (hz.mono hb.size));exact ⟨f0,f1,f2,f3,f4,f5,f6,f7,f8,f9,f10⟩
 clear HK1;clear hb;clear Sy y0 y1 y2 y3;clear HU HLk u0 u1 u2 u3;obtain ⟨_,_,_,_,_,_,_,st,_,_,_⟩:=HK2.out W23 (Below.refl _ _);have St:Hid (RoD W23 P13 ta tc tn tts tep tnw tjr):=st;clear st;have t0:=St.out.b4.c0;have t1:=St.out.b4.c1;have t2:=St.out.b4.c2;have t3:=St.out.b4.c3;go_wp2_with fail
 refine Calls.mono (HSp3.out _ St.out) ?_;rintro e W24 ⟨_,rfl,ua,uc,uxs,rfl,hx,ho,_,hb⟩;obtain ⟨P24,Z24,X24,hP24,hZ24,Z240,Z241,Z242,Z243,Z24f,hX24,b4X24,hbX24⟩:=boxD W24 (.slice ua zn uc) (.int .i64 zep) (.int .i64 znw) (.string ⟨zjr.toArray⟩);have hst:Below W23.heap.size W23 X24:=hb.trans (hbX24.mono hb.size);have HU:Hid (RoD X24 P24 ua uc zn zts zep znw zjr):=RoD.new ho hx HSz.out.2.2.2 hbX24 b4X24
 have HK3:Hid (∀ Z,Below X24.heap.size X24 Z→Below w.heap.size w Z∧Err8 Z er∧zb0 Z∧RoD Z P3 da dc dn dts dep dnw djr∧RoD Z P5 xa xc xn xts xep xnw xjr∧RoD Z P7 aa ac an ats aep anw ajr∧RoD Z P11 ya yc yn yts yep ynw yjr∧RoD Z P13 ta tc tn tts tep tnw tjr∧RoD Z P15 za zc zn zts zep znw zjr∧zab Z la ln lc ps∧RoD Z P18 va vc vn vts vep vnw vjr):=fun Z hz=>by
  obtain ⟨f0,f1,f2,f3,f4,f5,f6,f7,f8,f9,f10⟩:=HK2.out Z (hst.trans (hz.mono hst.size));exact ⟨f0,f1,f2,f3,f4,f5,f6,f7,f8,f9,f10⟩
 clear HK2;clear ho hx hb hst hbX24 b4X24;clear St t0 t1 t2 t3;clear HSp3
 go_upto_region 18 with fail
 clear hP24 hZ24 hX24 Z240 Z241 Z242 Z243 Z24f;obtain ⟨_,_,_,_,_,_,_,_,sz,_,_⟩:=HK3.out X24 (Below.refl _ _);have Sz:Hid (RoD X24 P15 za zc zn zts zep znw zjr):=sz;clear sz;have z0:=Sz.out.b4.c0;have z1:=Sz.out.b4.c1;have z2:=Sz.out.b4.c2;have z3:=Sz.out.b4.c3;obtain ⟨_,_,_,_,_,_,_,st,_,_,_⟩:=HK3.out X24 (Below.refl _ _);have St:Hid (RoD X24 P13 ta tc tn tts tep tnw tjr):=st;clear st;have t0:=St.out.b4.c0;have t1:=St.out.b4.c1;have t2:=St.out.b4.c2;have t3:=St.out.b4.c3
 go_cut [154] from 31 (fun v wx=>v=.bool false∧Hid (Below X24.heap.size X24 wx))
 case first =>
  have u0:=HU.out.b4.c0;have u1:=HU.out.b4.c1;have u2:=HU.out.b4.c2;have u3:=HU.out.b4.c3;have HLk:Hid (_):=zcM za ua zn zc uc zts zep znw zjr X24 Sz.out.ok.in HU.out.ok.in (by have:=HSz.out.2.1;omega) HSz.out.1;go_wp2_with fail
  refine Calls.mono HLk.out ?_;rintro e W25 ⟨rfl,hb⟩;rcases zk with _ | _
  ·
   go_wp2_with fail
   go_meet
   case rel=>exact ⟨rfl,hb⟩
  ·
   obtain ⟨g1,g2,g3,g4,g5⟩:=HQ3.out.yes rfl;simp only at g2 g3;have HG2:Hid (znw=tnw+tq):=g2;clear g2;have sz:=Sz.out.below hb;have st:=St.out.below hb;clear z0 z1 z2 z3 t0 t1 t2 t3 u0 u1 u2 u3;have z0:=sz.b4.c0;have z1:=sz.b4.c1;have z2:=sz.b4.c2;have z3:=sz.b4.c3;have HDk:Hid (_):=zbw za zn zc zts zep znw zjr W25 sz.ok.in sz.cap HSz.out.1 (by have:=HSz.out.2.1;omega);rw [g1] at HDk;have hwr:IntKind.i64.wrap (tnw+tq)=tnw+tq:=by rw [IntKind.wrap_i64];omega
   have Szw:Hid (RoD W25 P15 za zc zn zts zep znw zjr):=sz;have Stw:Hid (RoD W25 P13 ta tc tn tts tep tnw tjr):=st;clear sz st;go_wp2_with fail
   refine Calls.mono HDk.out ?_;rintro e W26 ⟨rfl,hb2⟩;have z2n:=(Szw.out.below hb2).b4.c2;have t2n:=(Stw.out.below hb2).b4.c2;clear z0 z1 z2 z3 HDk;rw [HG2.out] at z2n;clear Szw Stw;go_wp2_with fail
   go_meet
   case rel=>exact ⟨rfl,hb.trans (hb2.mono hb.size)⟩
 case rest =>
  clear Sz z0 z1 z2 z3;clear St t0 t1 t2 t3;clear HU;obtain ⟨rfl,HB⟩:=hcut;obtain ⟨W27,hW⟩:∃ W,wc=W:=⟨_,rfl⟩
  rw [hW] at HB ⊢;clear hW;have hb:=HB.out;clear HB
  have HK4:Hid (∀ Z,Below W27.heap.size W27 Z→Below w.heap.size w Z∧Err8 Z er∧zb0 Z∧RoD Z P3 da dc dn dts dep dnw djr∧RoD Z P5 xa xc xn xts xep xnw xjr∧RoD Z P7 aa ac an ats aep anw ajr∧RoD Z P11 ya yc yn yts yep ynw yjr∧RoD Z P13 ta tc tn tts tep tnw tjr∧RoD Z P15 za zc zn zts zep znw zjr∧zab Z la ln lc ps∧RoD Z P18 va vc vn vts vep vnw vjr):=fun Z hz=>by
   obtain ⟨f0,f1,f2,f3,f4,f5,f6,f7,f8,f9,f10⟩:=HK3.out Z (hb.trans (hz.mono hb.size));exact ⟨f0,f1,f2,f3,f4,f5,f6,f7,f8,f9,f10⟩
  clear HK3;clear hb
  go_upto_if 154 with (fail)
  go_cut [] from 31 (fun wx=>Hid (Below W27.heap.size W27 wx))
  case first =>
   go_wp2_with fail
   go_meet;exact Below.refl _ _
  case rest =>
   have HB:=hcut;obtain ⟨W27b,hW⟩:∃ W,wc=W:=⟨_,rfl⟩
   rw [hW] at HB ⊢;clear hW hcut;have hb:=HB.out;clear HB
   have HK5:Hid (∀ Z,Below W27b.heap.size W27b Z→Below w.heap.size w Z∧Err8 Z er∧zb0 Z∧RoD Z P3 da dc dn dts dep dnw djr∧RoD Z P5 xa xc xn xts xep xnw xjr∧RoD Z P7 aa ac an ats aep anw ajr∧RoD Z P11 ya yc yn yts yep ynw yjr∧RoD Z P13 ta tc tn tts tep tnw tjr∧RoD Z P15 za zc zn zts zep znw zjr∧zab Z la ln lc ps∧RoD Z P18 va vc vn vts vep vnw vjr):=fun Z hz=>by
    obtain ⟨f0,f1,f2,f3,f4,f5,f6,f7,f8,f9,f10⟩:=HK4.out Z (hb.trans (hz.mono hb.size));exact ⟨f0,f1,f2,f3,f4,f5,f6,f7,f8,f9,f10⟩
   clear HK4;clear hb;refine (‹∀ (a:Act) (w:World),Code.wp Tryz.prog _ _ a w→_›) _ _ ?_;exact deskC1 HSd HSa HSx HSy HSv HKb HL4 HQ1 HQ2 HQ4 HR4 HK5
theorem lawDesk (w:World) (a:Option Addr) (len cap:Nat) (hcode:Code w w.heap.size a len) (er:Nat→Addr) (hE:Err8 w er) (hT:zb0 w) :
 Calls Tryz.prog 3 #[.slice a len cap] w fun e w'=>e=.returned (.bool true)∧Below w.heap.size w w':=by
 by_cases hbig:4096<(len:Int)
 ·
  have hd:decide (4096<(len:Int))=true:=decide_eq_true hbig
  go_enter Tryz.func3,Tryz.ntmps3
  go_wp2_with (go_at_call 4;refine (bigB _ _ _ _).mono ?_;rintro e w' ⟨rfl,rfl⟩)
  go_ret;exact ⟨rfl,Below.refl _ _⟩
 have hd:decide (4096<(len:Int))=false:=decide_eq_false hbig;have hl:len≤4096:=by omega
 have HCd:Hid (Code w w.heap.size a len):=hcode;have HK0:Hid (∀ Z,Below w.heap.size w Z→Below w.heap.size w Z∧Err8 Z er∧zb0 Z):=fun Z hz=>⟨hz,hE.below hz,hT.below hz⟩
 clear hE hT hcode
 go_enter Tryz.func3,Tryz.ntmps3
 go_wp2_with fail
 refine (bigB _ _ _ _).mono ?_;rintro e w1 ⟨rfl,hw1⟩;obtain rfl:=hw1.symm;clear hw1 hd hbig;obtain ⟨fb,_,_⟩:=HK0.out w (Below.refl _ _);have hcd:=Code.later HCd.out fb;clear fb;go_wp2_with fail
 refine (drawLent _ a len cap hl hcd).mono ?_;rintro e W3 ⟨da,dc,dxs,dts,dep,dnw,djr,kk,rfl,ho,hx,h9,hsh,hj,hb⟩;clear hcd;obtain ⟨dn,hn⟩:∃ n,dts.length=n:=⟨_,rfl⟩
 rw [hn] at ho h9 ⊢;obtain ⟨P3,Z3,X3,hP3,hZ3,Z30,Z31,Z32,Z33,Z3f,hX3,b4X3,hbX3⟩:=boxD W3 (.slice da dn dc) (.int .i64 dep) (.int .i64 dnw) (.string ⟨djr.toArray⟩);have HSd:Hid (za1 dts∧dn≤9∧djr.length≤1508∧dts.length=dn):=⟨hsh,h9,hj,hn⟩;have hst:Below w.heap.size w X3:=hb.trans (hbX3.mono hb.size);have hro:RoD X3 P3 da dc dn dts dep dnw djr:=RoD.new ho hx hn hbX3 b4X3
 have HK1:Hid (∀ Z,Below X3.heap.size X3 Z→Below w.heap.size w Z∧Err8 Z er∧zb0 Z∧RoD Z P3 da dc dn dts dep dnw djr):=fun Z hz=>by
  obtain ⟨f0,f1,f2⟩:=HK0.out Z (hst.trans (hz.mono hst.size));exact ⟨f0,f1,f2,(hro).below hz⟩
 clear HK0;clear ho hx hn h9 hsh hj hb hst hro hbX3 b4X3;obtain ⟨_,_,_,sd⟩:=HK1.out X3 (Below.refl _ _);have Sd:Hid (RoD X3 P3 da dc dn dts dep dnw djr):=sd;clear sd;have d0:=Sd.out.b4.c0;have d1:=Sd.out.b4.c1;have d2:=Sd.out.b4.c2;have d3:=Sd.out.b4.c3;have HIm:Hid (_):=implLent da dn dc dts dep dnw djr kk X3 Sd.out.ok HSd.out.1 (by have:=HSd.out.2.1;omega) (by have:=HSd.out.2.2.1;omega) Sd.out.cap;have HSp1:Hid (∀ Z,RoD Z P3 da dc dn dts dep dnw djr→_):=fun Z hz=>specLent da dn dc dts dep dnw djr kk Z hz.ok HSd.out.1 (by have:=HSd.out.2.1;omega)
 have HQ1:Hid (_):=lent_q (d:=(dts,dep,dnw,djr)) (worker:=kk) HSd.out.1 (by have h1:=HSd.out.2.1;have h2:=HSd.out.2.2.2;show dts.length≤9;omega);have HJ1:Hid ((zbd (dts,dep,dnw,djr) kk).1.2.2.2.length≤60000):=lentV_j (by have:=HSd.out.2.2.1;show djr.length≤60000;omega);obtain ⟨R,hR⟩:∃ R,zbd (dts,dep,dnw,djr) kk=R:=⟨_,rfl⟩
 rw [hR] at HIm HSp1 HQ1 HJ1;have HR1:Hid (zbd (dts,dep,dnw,djr) kk=R):=hR;clear hR;obtain ⟨⟨xts,xep,xnw,xjr⟩,xk⟩:=R;obtain ⟨xn,hn⟩:∃ n,xts.length=n:=⟨_,rfl⟩
 have HSx:Hid (za1 xts∧xn≤9∧xjr.length≤60000∧xts.length=xn):=⟨HQ1.out.sh.1,by have:=HQ1.out.sh.2;simp only at this;omega,HJ1.out,hn⟩;unfold zbQ at HIm HSp1;simp only [hn] at HIm HSp1;clear hn HJ1;go_wp2_with fail
 refine Calls.mono HIm.out ?_;rintro e W5 ⟨_,rfl,xa,xc,xxs,rfl,hx,ho,_,hb⟩;clear hP3 hZ3 hX3 Z30 Z31 Z32 Z33 Z3f;obtain ⟨P5,Z5,X5,hP5,hZ5,Z50,Z51,Z52,Z53,Z5f,hX5,b4X5,hbX5⟩:=boxD W5 (.slice xa xn xc) (.int .i64 xep) (.int .i64 xnw) (.string ⟨xjr.toArray⟩);have hst:Below X3.heap.size X3 X5:=hb.trans (hbX5.mono hb.size);have hro:RoD X5 P5 xa xc xn xts xep xnw xjr:=RoD.new ho hx HSx.out.2.2.2 hbX5 b4X5
 have HK2:Hid (∀ Z,Below X5.heap.size X5 Z→Below w.heap.size w Z∧Err8 Z er∧zb0 Z∧RoD Z P3 da dc dn dts dep dnw djr∧RoD Z P5 xa xc xn xts xep xnw xjr):=fun Z hz=>by
  obtain ⟨f0,f1,f2,f3⟩:=HK1.out Z (hst.trans (hz.mono hst.size));exact ⟨f0,f1,f2,f3,(hro).below hz⟩
 clear HK1;clear ho hx hb hst hro hbX5 b4X5;clear HIm;clear Sd d0 d1 d2 d3;obtain ⟨fb,_,_,_,_⟩:=HK2.out X5 (Below.refl _ _);have hcd:=Code.later HCd.out fb;clear fb;go_wp2_with fail
 refine (zjZ _ a len cap hl hcd).mono ?_;rintro e W7 ⟨aa,ac,axs,ats,aep,anw,ajr,tk,te,tk2,rfl,ho,hx,h9,hsh,hj,hb,hk0,hk1,hk2⟩;clear hcd;clear hP5 hZ5 hX5 Z50 Z51 Z52 Z53 Z5f;obtain ⟨an,hn⟩:∃ n,ats.length=n:=⟨_,rfl⟩
 rw [hn] at ho h9 ⊢;obtain ⟨P7,Z7,X7,hP7,hZ7,Z70,Z71,Z72,Z73,Z7f,hX7,b4X7,hbX7⟩:=boxD W7 (.slice aa an ac) (.int .i64 aep) (.int .i64 anw) (.string ⟨ajr.toArray⟩);have HSa:Hid (za1 ats∧an≤9∧ajr.length≤1508∧ats.length=an):=⟨hsh,h9,hj,hn⟩;have hst:Below X5.heap.size X5 X7:=hb.trans (hbX7.mono hb.size);have hro:RoD X7 P7 aa ac an ats aep anw ajr:=RoD.new ho hx hn hbX7 b4X7
 have HK3:Hid (∀ Z,Below X7.heap.size X7 Z→Below w.heap.size w Z∧Err8 Z er∧zb0 Z∧RoD Z P3 da dc dn dts dep dnw djr∧RoD Z P5 xa xc xn xts xep xnw xjr∧RoD Z P7 aa ac an ats aep anw ajr):=fun Z hz=>by
  obtain ⟨f0,f1,f2,f3,f4⟩:=HK2.out Z (hst.trans (hz.mono hst.size));exact ⟨f0,f1,f2,f3,f4,(hro).below hz⟩
 clear HK2;clear ho hx hn h9 hsh hj hb hst hro hbX7 b4X7;obtain ⟨_,_,_,_,_,sa⟩:=HK3.out X7 (Below.refl _ _);have Sa:Hid (RoD X7 P7 aa ac an ats aep anw ajr):=sa;clear sa;have a0:=Sa.out.b4.c0;have a1:=Sa.out.b4.c1;have a2:=Sa.out.b4.c2;have a3:=Sa.out.b4.c3;obtain ⟨_,_,sp,_,_,_⟩:=HK3.out X7 (Below.refl _ _);have HKb:Hid ((-9223372036854775808≤tk∧tk≤9223372036854775807)∧(-9223372036854775808≤tk2∧tk2≤9223372036854775807)):=⟨⟨by omega,by omega⟩,hk2⟩;clear hk0 hk1 hk2;have HIm:Hid (_):=zfP aa an ac ats aep anw ajr tk te tk2 X7 Sa.out.ok HSa.out.1 (by have:=HSa.out.2.1;omega) (by have:=HSa.out.2.2.1;omega) Sa.out.cap sp HKb.out.1.1 HKb.out.1.2 HKb.out.2.1 HKb.out.2.2;clear sp;have HQ2:Hid (_):=ret_q (d:=(ats,aep,anw,ajr)) (k:=tk) (e:=te) (key:=tk2) HSa.out.1 (by have h1:=HSa.out.2.1;have h2:=HSa.out.2.2.2;show ats.length≤9;omega) (by have:=HSa.out.2.2.1;show ajr.length≤50000;omega) HKb.out.1.1 HKb.out.1.2 HKb.out.2.1 HKb.out.2.2;obtain ⟨R,hR⟩:∃ R,zag (ats,aep,anw,ajr) tk te tk2=R:=⟨_,rfl⟩
 rw [hR] at HIm HQ2;have HR2:Hid (zag (ats,aep,anw,ajr) tk te tk2=R):=hR;clear hR;obtain ⟨⟨yts,yep,ynw,yjr⟩,yk⟩:=R;obtain ⟨yn,hn⟩:∃ n,yts.length=n:=⟨_,rfl⟩
 have HSy:Hid (za1 yts∧yn≤9∧yjr.length≤60000∧yts.length=yn):=⟨HQ2.out.sh.1,by have:=HQ2.out.sh.2;simp only at this;omega,by have h1:=HQ2.out.j;have h2:=HSa.out.2.2.1;simp only at h1;omega,hn⟩;unfold zbQ at HIm;simp only [hn] at HIm;clear hn;go_wp2_with fail
 refine Calls.mono HIm.out ?_;rintro e W11 ⟨_,rfl,ya,yc,yxs,rfl,hx,ho,_,hb⟩;clear hP7 hZ7 hX7 Z70 Z71 Z72 Z73 Z7f;obtain ⟨P11,Z11,X11,hP11,hZ11,Z110,Z111,Z112,Z113,Z11f,hX11,b4X11,hbX11⟩:=boxD W11 (.slice ya yn yc) (.int .i64 yep) (.int .i64 ynw) (.string ⟨yjr.toArray⟩);have hst:Below X7.heap.size X7 X11:=hb.trans (hbX11.mono hb.size);have hro:RoD X11 P11 ya yc yn yts yep ynw yjr:=RoD.new ho hx HSy.out.2.2.2 hbX11 b4X11
 have HK4:Hid (∀ Z,Below X11.heap.size X11 Z→Below w.heap.size w Z∧Err8 Z er∧zb0 Z∧RoD Z P3 da dc dn dts dep dnw djr∧RoD Z P5 xa xc xn xts xep xnw xjr∧RoD Z P7 aa ac an ats aep anw ajr∧RoD Z P11 ya yc yn yts yep ynw yjr):=fun Z hz=>by
  obtain ⟨f0,f1,f2,f3,f4,f5⟩:=HK3.out Z (hst.trans (hz.mono hst.size));exact ⟨f0,f1,f2,f3,f4,f5,(hro).below hz⟩
 clear HK3;clear ho hx hb hst hro hbX11 b4X11;clear HIm;clear Sa a0 a1 a2 a3;obtain ⟨fb,_,_,_,_,_,_⟩:=HK4.out X11 (Below.refl _ _);have hcd:=Code.later HCd.out fb;clear fb;go_wp2_with fail
 refine (znk _ a len cap hl hcd).mono ?_;rintro e W13 ⟨ta,tc,txs,tts,tep,tnw,tjr,tq,rfl,ho,hx,h9,hsh,hj,hb,hq⟩;clear hcd;clear hP11 hZ11 hX11 Z110 Z111 Z112 Z113 Z11f;obtain ⟨tn,hn⟩:∃ n,tts.length=n:=⟨_,rfl⟩
 rw [hn] at ho h9 ⊢;obtain ⟨P13,Z13,X13,hP13,hZ13,Z130,Z131,Z132,Z133,Z13f,hX13,b4X13,hbX13⟩:=boxD W13 (.slice ta tn tc) (.int .i64 tep) (.int .i64 tnw) (.string ⟨tjr.toArray⟩);have HSt:Hid (za1 tts∧tn≤9∧tjr.length≤1508∧tts.length=tn):=⟨hsh,h9,hj,hn⟩;have hst:Below X11.heap.size X11 X13:=hb.trans (hbX13.mono hb.size);have hro:RoD X13 P13 ta tc tn tts tep tnw tjr:=RoD.new ho hx hn hbX13 b4X13
 have HK5:Hid (∀ Z,Below X13.heap.size X13 Z→Below w.heap.size w Z∧Err8 Z er∧zb0 Z∧RoD Z P3 da dc dn dts dep dnw djr∧RoD Z P5 xa xc xn xts xep xnw xjr∧RoD Z P7 aa ac an ats aep anw ajr∧RoD Z P11 ya yc yn yts yep ynw yjr∧RoD Z P13 ta tc tn tts tep tnw tjr):=fun Z hz=>by
  obtain ⟨f0,f1,f2,f3,f4,f5,f6⟩:=HK4.out Z (hst.trans (hz.mono hst.size));exact ⟨f0,f1,f2,f3,f4,f5,f6,(hro).below hz⟩
 clear HK4;clear ho hx hn h9 hsh hj hb hst hro hbX13 b4X13;obtain ⟨_,_,_,_,_,_,_,st⟩:=HK5.out X13 (Below.refl _ _);have St:Hid (RoD X13 P13 ta tc tn tts tep tnw tjr):=st;clear st;have t0:=St.out.b4.c0;have t1:=St.out.b4.c1;have t2:=St.out.b4.c2;have t3:=St.out.b4.c3;have HTb:Hid (-9223372036854775808≤tq∧tq≤9223372036854775807):=hq;clear hq;have HIm:Hid (_):=zn4 ta tn tc tts tep tnw tjr tq X13 St.out.ok HSt.out.1 (by have:=HSt.out.2.1;omega) (by have:=HSt.out.2.2.1;omega) St.out.cap HTb.out.1 HTb.out.2;have HQ3:Hid (_):=tick_q (d:=(tts,tep,tnw,tjr)) (n:=tq) HSt.out.1 (by have h1:=HSt.out.2.1;have h2:=HSt.out.2.2.2;show tts.length≤9;omega);obtain ⟨R,hR⟩:∃ R,zaO (tts,tep,tnw,tjr) tq=R:=⟨_,rfl⟩
 rw [hR] at HIm HQ3;have HR3:Hid (zaO (tts,tep,tnw,tjr) tq=R):=hR;clear hR;obtain ⟨⟨zts,zep,znw,zjr⟩,zk⟩:=R;obtain ⟨zn,hn⟩:∃ n,zts.length=n:=⟨_,rfl⟩
 have HSz:Hid (za1 zts∧zn≤9∧True∧zts.length=zn):=⟨HQ3.out.sh.1,by have:=HQ3.out.sh.2;simp only at this;omega,trivial,hn⟩;unfold zbQ at HIm;simp only [hn] at HIm;clear hn;go_wp2_with fail
 refine Calls.mono HIm.out ?_;rintro e W15 ⟨_,rfl,za,zc,zxs,rfl,hx,ho,_,hb⟩;clear hP13 hZ13 hX13 Z130 Z131 Z132 Z133 Z13f;obtain ⟨P15,Z15,X15,hP15,hZ15,Z150,Z151,Z152,Z153,Z15f,hX15,b4X15,hbX15⟩:=boxD W15 (.slice za zn zc) (.int .i64 zep) (.int .i64 znw) (.string ⟨zjr.toArray⟩);have hst:Below X13.heap.size X13 X15:=hb.trans (hbX15.mono hb.size);have hro:RoD X15 P15 za zc zn zts zep znw zjr:=RoD.new ho hx HSz.out.2.2.2 hbX15 b4X15
 have HK6:Hid (∀ Z,Below X15.heap.size X15 Z→Below w.heap.size w Z∧Err8 Z er∧zb0 Z∧RoD Z P3 da dc dn dts dep dnw djr∧RoD Z P5 xa xc xn xts xep xnw xjr∧RoD Z P7 aa ac an ats aep anw ajr∧RoD Z P11 ya yc yn yts yep ynw yjr∧RoD Z P13 ta tc tn tts tep tnw tjr∧RoD Z P15 za zc zn zts zep znw zjr):=fun Z hz=>by
  obtain ⟨f0,f1,f2,f3,f4,f5,f6,f7⟩:=HK5.out Z (hst.trans (hz.mono hst.size));exact ⟨f0,f1,f2,f3,f4,f5,f6,f7,(hro).below hz⟩
 clear HK5;clear ho hx hb hst hro hbX15 b4X15;clear HIm;clear St t0 t1 t2 t3;obtain ⟨fb,_,_,_,_,_,_,_,_⟩:=HK6.out X15 (Below.refl _ _);have hcd:=Code.later HCd.out fb;clear fb;go_wp2_with fail
 refine (ziI _ a len cap hl hcd).mono ?_;rintro e W17 ⟨_,rfl,la,ln,lc,ps,rfl,hn4,hok,hb⟩;clear hcd;clear hP15 hZ15 hX15 Z150 Z151 Z152 Z153 Z15f
 have HK7:Hid (∀ Z,Below W17.heap.size W17 Z→Below w.heap.size w Z∧Err8 Z er∧zb0 Z∧RoD Z P3 da dc dn dts dep dnw djr∧RoD Z P5 xa xc xn xts xep xnw xjr∧RoD Z P7 aa ac an ats aep anw ajr∧RoD Z P11 ya yc yn yts yep ynw yjr∧RoD Z P13 ta tc tn tts tep tnw tjr∧RoD Z P15 za zc zn zts zep znw zjr∧zab Z la ln lc ps):=fun Z hz=>by
  obtain ⟨f0,f1,f2,f3,f4,f5,f6,f7,f8⟩:=HK6.out Z (hb.trans (hz.mono hb.size));exact ⟨f0,f1,f2,f3,f4,f5,f6,f7,f8,(hok).below hz⟩
 clear HK6;obtain ⟨_,se,sp,_,_,_,_,_,_,sq⟩:=HK7.out W17 (Below.refl _ _);have HIm:Hid (_):=zkZ la ln lc ps er W17 se sp sq;have HQ4:Hid (_):=new_q ps;obtain ⟨R,hR⟩:∃ R,newV ps=R:=⟨_,rfl⟩
 rw [hR] at HIm HQ4;have HR4:Hid (newV ps=R):=hR;have HL4:Hid (ln≤4):=hn4;clear hR;clear sq se sp hok hb hn4;obtain ⟨⟨vts,vep,vnw,vjr⟩,vk⟩:=R;obtain ⟨vn,hn⟩:∃ n,vts.length=n:=⟨_,rfl⟩
 have HSv:Hid (za1 vts∧vn≤9∧True∧vts.length=vn):=⟨HQ4.out.sh.1,by have:=HQ4.out.sh.2;simp only at this;omega,trivial,hn⟩;unfold zbQ at HIm;simp only [hn] at HIm;clear hn;go_wp2_with fail
 refine Calls.mono HIm.out ?_;rintro e W18 ⟨_,rfl,va,vc,vxs,rfl,hx,ho,_,hb⟩;obtain ⟨P18,Z18,X18,hP18,hZ18,Z180,Z181,Z182,Z183,Z18f,hX18,b4X18,hbX18⟩:=boxD W18 (.slice va vn vc) (.int .i64 vep) (.int .i64 vnw) (.string ⟨vjr.toArray⟩);have hst:Below W17.heap.size W17 X18:=hb.trans (hbX18.mono hb.size);have hro:RoD X18 P18 va vc vn vts vep vnw vjr:=RoD.new ho hx HSv.out.2.2.2 hbX18 b4X18
 have HK8:Hid (∀ Z,Below X18.heap.size X18 Z→Below w.heap.size w Z∧Err8 Z er∧zb0 Z∧RoD Z P3 da dc dn dts dep dnw djr∧RoD Z P5 xa xc xn xts xep xnw xjr∧RoD Z P7 aa ac an ats aep anw ajr∧RoD Z P11 ya yc yn yts yep ynw yjr∧RoD Z P13 ta tc tn tts tep tnw tjr∧RoD Z P15 za zc zn zts zep znw zjr∧zab Z la ln lc ps∧RoD Z P18 va vc vn vts vep vnw vjr):=fun Z hz=>by
  obtain ⟨f0,f1,f2,f3,f4,f5,f6,f7,f8,f9⟩:=HK7.out Z (hst.trans (hz.mono hst.size));exact ⟨f0,f1,f2,f3,f4,f5,f6,f7,f8,f9,(hro).below hz⟩
 clear HK7;clear ho hx hb hst hro hbX18 b4X18;clear HIm;have hbb:∀ b:Bool,(b !=b)=false:=by simp
 have hii:∀ n:Int,(n !=n)=false:=by simp
 obtain ⟨_,_,_,sd,_,_,_,_,_,_,_⟩:=HK8.out X18 (Below.refl _ _);have Sd:Hid (RoD X18 P3 da dc dn dts dep dnw djr):=sd;clear sd;have d0:=Sd.out.b4.c0;have d1:=Sd.out.b4.c1;have d2:=Sd.out.b4.c2;have d3:=Sd.out.b4.c3;go_wp2_with fail
 refine Calls.mono (HSp1.out _ Sd.out) ?_;rintro e W20 ⟨_,rfl,ua,uc,uxs,rfl,hx,ho,_,hb⟩;clear hP18 hZ18 hX18 Z180 Z181 Z182 Z183 Z18f;obtain ⟨P20,Z20,X20,hP20,hZ20,Z200,Z201,Z202,Z203,Z20f,hX20,b4X20,hbX20⟩:=boxD W20 (.slice ua xn uc) (.int .i64 xep) (.int .i64 xnw) (.string ⟨xjr.toArray⟩);have hst:Below X18.heap.size X18 X20:=hb.trans (hbX20.mono hb.size);have HU:Hid (RoD X20 P20 ua uc xn xts xep xnw xjr):=RoD.new ho hx HSx.out.2.2.2 hbX20 b4X20
 have HK9:Hid (∀ Z,Below X20.heap.size X20 Z→Below w.heap.size w Z∧Err8 Z er∧zb0 Z∧RoD Z P3 da dc dn dts dep dnw djr∧RoD Z P5 xa xc xn xts xep xnw xjr∧RoD Z P7 aa ac an ats aep anw ajr∧RoD Z P11 ya yc yn yts yep ynw yjr∧RoD Z P13 ta tc tn tts tep tnw tjr∧RoD Z P15 za zc zn zts zep znw zjr∧zab Z la ln lc ps∧RoD Z P18 va vc vn vts vep vnw vjr):=fun Z hz=>by
  obtain ⟨f0,f1,f2,f3,f4,f5,f6,f7,f8,f9,f10⟩:=HK8.out Z (hst.trans (hz.mono hst.size));exact ⟨f0,f1,f2,f3,f4,f5,f6,f7,f8,f9,f10⟩
 clear HK8;clear ho hx hb hst hbX20 b4X20;clear Sd d0 d1 d2 d3;clear HSp1;obtain ⟨db,hdb⟩:∃ b,zac (dts,dep,dnw,djr)=b:=⟨_,rfl⟩
 have HDB:Hid (zac (dts,dep,dnw,djr)=db):=hdb;obtain ⟨dd,hdd⟩:∃ b,zdC (dts,dep,dnw,djr)=b:=⟨_,rfl⟩
 have HDD:Hid (zdC (dts,dep,dnw,djr)=dd):=hdd;clear hdb hdd
 go_upto_region 12 with fail
 clear hP20 hZ20 hX20 Z200 Z201 Z202 Z203 Z20f;obtain ⟨_,_,_,sd,sx,_,_,_,_,_,_⟩:=HK9.out X20 (Below.refl _ _);have su:=HU.out
 go_cut [105] from 31 (fun v wx=>v=.bool false∧Hid (Below X20.heap.size X20 wx))
 case first =>
  have hdr:Below X20.heap.size X20 X20.drew:=⟨rfl,rfl,rfl,Nat.le_refl _,fun _ _=>rfl⟩;replace sd:=sd.below hdr;replace sx:=sx.below hdr;replace su:=su.below hdr;have hB:Below X20.heap.size X20 X20.drew:=hdr;clear hdr;have d0:=sd.b4.c0;have d1:=sd.b4.c1;have d2:=sd.b4.c2;have d3:=sd.b4.c3;have x0:=sx.b4.c0;have x1:=sx.b4.c1;have x2:=sx.b4.c2;have x3:=sx.b4.c3;have u0:=su.b4.c0;have u1:=su.b4.c1;have u2:=su.b4.c2;have u3:=su.b4.c3
  go_region_held3 (fun w'=>w'.cell? ⟨P3,0,none⟩=some (.slice da dn dc)∧w'.cell? ⟨P3,1,none⟩=some (.int .i64 dep)∧w'.cell? ⟨P3,2,none⟩=some (.int .i64 dnw)∧w'.cell? ⟨P3,3,none⟩=some (.string ⟨djr.toArray⟩)∧w'.cell? ⟨P5,0,none⟩=some (.slice xa xn xc)∧w'.cell? ⟨P5,1,none⟩=some (.int .i64 xep)∧w'.cell? ⟨P5,2,none⟩=some (.int .i64 xnw)∧w'.cell? ⟨P5,3,none⟩=some (.string ⟨xjr.toArray⟩)∧w'.cell? ⟨P20,0,none⟩=some (.slice ua xn uc)∧w'.cell? ⟨P20,1,none⟩=some (.int .i64 xep)∧w'.cell? ⟨P20,2,none⟩=some (.int .i64 xnw)∧w'.cell? ⟨P20,3,none⟩=some (.string ⟨xjr.toArray⟩)) (exact ⟨d0,d1,d2,d3,x0,x1,x2,x3,u0,u1,u2,u3⟩) (first
   | (go_at_call 14;refine Calls.mono (zcM xa ua xn xc uc xts xep xnw xjr _ sx.ok.in su.ok.in (by have:=HSx.out.2.1;omega) HSx.out.1) ?_;rintro e wn ⟨rfl,hbn⟩;replace sd:=sd.below hbn;replace sx:=sx.below hbn;replace su:=su.below hbn;replace hB:=hB.trans (hbn.mono hB.size);clear hbn;replace d0:=sd.b4.c0;replace d1:=sd.b4.c1;replace d2:=sd.b4.c2;replace d3:=sd.b4.c3;replace x0:=sx.b4.c0;replace x1:=sx.b4.c1;replace x2:=sx.b4.c2;replace x3:=sx.b4.c3;replace u0:=su.b4.c0;replace u1:=su.b4.c1;replace u2:=su.b4.c2;replace u3:=su.b4.c3)
   | (go_at_call 15;refine Calls.mono (zbw da dn dc dts dep dnw djr _ sd.ok.in sd.cap HSd.out.1 (by have:=HSd.out.2.1;omega)) ?_;rintro e wn ⟨rfl,hbn⟩;rw [HDB.out];replace sd:=sd.below hbn;replace sx:=sx.below hbn;replace su:=su.below hbn;replace hB:=hB.trans (hbn.mono hB.size);clear hbn;replace d0:=sd.b4.c0;replace d1:=sd.b4.c1;replace d2:=sd.b4.c2;replace d3:=sd.b4.c3;replace x0:=sx.b4.c0;replace x1:=sx.b4.c1;replace x2:=sx.b4.c2;replace x3:=sx.b4.c3;replace u0:=su.b4.c0;replace u1:=su.b4.c1;replace u2:=su.b4.c2;replace u3:=su.b4.c3)
   | (go_at_call 16;refine Calls.mono (zbW da dn dc dts dep dnw djr _ sd.ok.in HSd.out.1 (by have:=HSd.out.2.1;omega)) ?_;rintro e wn ⟨rfl,hbn⟩;rw [HDB.out];replace sd:=sd.below hbn;replace sx:=sx.below hbn;replace su:=su.below hbn;replace hB:=hB.trans (hbn.mono hB.size);clear hbn;replace d0:=sd.b4.c0;replace d1:=sd.b4.c1;replace d2:=sd.b4.c2;replace d3:=sd.b4.c3;replace x0:=sx.b4.c0;replace x1:=sx.b4.c1;replace x2:=sx.b4.c2;replace x3:=sx.b4.c3;replace u0:=su.b4.c0;replace u1:=su.b4.c1;replace u2:=su.b4.c2;replace u3:=su.b4.c3)
   | (go_at_call 17;refine Calls.mono (zlc da dn dc dts dep dnw djr _ sd.ok.in sd.cap HSd.out.1 (by have:=HSd.out.2.1;omega)) ?_;rintro e wn ⟨rfl,hbn⟩;rw [HDD.out];replace sd:=sd.below hbn;replace sx:=sx.below hbn;replace su:=su.below hbn;replace hB:=hB.trans (hbn.mono hB.size);clear hbn;replace d0:=sd.b4.c0;replace d1:=sd.b4.c1;replace d2:=sd.b4.c2;replace d3:=sd.b4.c3;replace x0:=sx.b4.c0;replace x1:=sx.b4.c1;replace x2:=sx.b4.c2;replace x3:=sx.b4.c3;replace u0:=su.b4.c0;replace u1:=su.b4.c1;replace u2:=su.b4.c2;replace u3:=su.b4.c3)
   | (go_at_call 18;refine Calls.mono (zku da dn dc dts dep dnw djr _ sd.ok.in HSd.out.1 (by have:=HSd.out.2.1;omega)) ?_;rintro e wn ⟨rfl,hbn⟩;rw [HDD.out];replace sd:=sd.below hbn;replace sx:=sx.below hbn;replace su:=su.below hbn;replace hB:=hB.trans (hbn.mono hB.size);clear hbn;replace d0:=sd.b4.c0;replace d1:=sd.b4.c1;replace d2:=sd.b4.c2;replace d3:=sd.b4.c3;replace x0:=sx.b4.c0;replace x1:=sx.b4.c1;replace x2:=sx.b4.c2;replace x3:=sx.b4.c3;replace u0:=su.b4.c0;replace u1:=su.b4.c1;replace u2:=su.b4.c2;replace u3:=su.b4.c3))
  all_goals (try go_wp2_with fail)
  all_goals go_meet
  all_goals exact ⟨rfl,hB⟩
 case rest =>
  clear sd sx su HU;obtain ⟨rfl,HB⟩:=hcut;obtain ⟨W21,hW⟩:∃ W,wc=W:=⟨_,rfl⟩
  rw [hW] at HB ⊢;clear hW;have hb:=HB.out;clear HB
  have HK10:Hid (∀ Z,Below W21.heap.size W21 Z→Below w.heap.size w Z∧Err8 Z er∧zb0 Z∧RoD Z P3 da dc dn dts dep dnw djr∧RoD Z P5 xa xc xn xts xep xnw xjr∧RoD Z P7 aa ac an ats aep anw ajr∧RoD Z P11 ya yc yn yts yep ynw yjr∧RoD Z P13 ta tc tn tts tep tnw tjr∧RoD Z P15 za zc zn zts zep znw zjr∧zab Z la ln lc ps∧RoD Z P18 va vc vn vts vep vnw vjr):=fun Z hz=>by
   obtain ⟨f0,f1,f2,f3,f4,f5,f6,f7,f8,f9,f10⟩:=HK9.out Z (hb.trans (hz.mono hb.size));exact ⟨f0,f1,f2,f3,f4,f5,f6,f7,f8,f9,f10⟩
  clear HK9;clear hb
  go_upto_if 105 with (fail)
  go_cut [] from 31 (fun wx=>Hid (Below W21.heap.size W21 wx))
  case first =>
   go_wp2_with fail
   go_meet;exact Below.refl _ _
  case rest =>
   have HB:=hcut;obtain ⟨W21b,hW⟩:∃ W,wc=W:=⟨_,rfl⟩
   rw [hW] at HB ⊢;clear hW hcut;have hb:=HB.out;clear HB
   have HK11:Hid (∀ Z,Below W21b.heap.size W21b Z→Below w.heap.size w Z∧Err8 Z er∧zb0 Z∧RoD Z P3 da dc dn dts dep dnw djr∧RoD Z P5 xa xc xn xts xep xnw xjr∧RoD Z P7 aa ac an ats aep anw ajr∧RoD Z P11 ya yc yn yts yep ynw yjr∧RoD Z P13 ta tc tn tts tep tnw tjr∧RoD Z P15 za zc zn zts zep znw zjr∧zab Z la ln lc ps∧RoD Z P18 va vc vn vts vep vnw vjr):=fun Z hz=>by
    obtain ⟨f0,f1,f2,f3,f4,f5,f6,f7,f8,f9,f10⟩:=HK10.out Z (hb.trans (hz.mono hb.size));exact ⟨f0,f1,f2,f3,f4,f5,f6,f7,f8,f9,f10⟩
   clear HK10;clear hb;refine (‹∀ (a:Act) (w:World),Code.wp Tryz.prog _ _ a w→_›) _ _ ?_;exact deskB1 HSd HSa HSt HSx HSy HSz HSv HKb HTb HL4 HQ1 HQ2 HQ3 HQ4 HR2 HR3 HR4 HK11
end Go.Proofs.YtponeoijfaepnaaGreatDoor
