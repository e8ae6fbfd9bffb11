/-
 What the program's logged answers: one page more, or the pages as they are; and the library's slices.Equal and slices.Clone over lists of numbers.
-/
import Derived.Test.YtbkeldfbllhlbaaGreatqzg31
import Derived.Test.YtbkeldfbllhlbaaGreatqzg24
import Derived.Stop.Asserts
set_option linter.unusedVariables false
set_option maxRecDepth 100000
set_option maxHeartbeats 12800000
namespace Go.Proofs.YtbkeldfbllhlbaaGreat
open Go.RowKit
section
namespace Lg
open Kn (K okK)
open Lc (at' RdK WordsOk laceB OwnK)
open Sg (closedB NumsPost)
open Tl (outL outI beginsB)
open Rm (Fr DrawsRoom DrawsRoomC LiesC)
def ImplLogged:Prop:=∀(g cap:Nat) (L:List K) (ao:Option Addr) (cc:Nat) (C:List Int) (so:Option Addr) (sc:Nat) (S:List Int) (qo:Option Addr) (tc:Nat) (T:List (List Int)) (f:At) (s:Int) (w:World),LiesC w g L ao C→LLies w so sc S qo tc T f→-9223372036854775808≤s→s≤9223372036854775807→L.length≤cap →
  Calls Tryz.prog 20 #[.slice (some ⟨g,0,none⟩) L.length cap,.slice ao C.length cc,.agg #[.slice so S.length sc,.slice qo T.length tc],.int .i64 s] w (LoggedPost L C S T s w)
def ImplLogOk:Prop:=∀(g cap:Nat) (L:List K) (ao:Option Addr) (cc:Nat) (C:List Int) (so:Option Addr) (sc:Nat) (S:List Int) (qo:Option Addr) (tc:Nat) (T:List (List Int)) (f:At) (w:World),LiesC w g L ao C→LLies w so sc S qo tc T f→L.length≤cap →
  Calls Tryz.prog 25 #[.slice (some ⟨g,0,none⟩) L.length cap,.slice ao C.length cc,.agg #[.slice so S.length sc,.slice qo T.length tc]] w fun e w'=>e=.returned (.bool (logB L C S T))∧Below w.heap.size w w'
def ImplLastTold:Prop:=∀(so:Option Addr) (sc:Nat) (S:List Int) (qo:Option Addr) (tc:Nat) (T:List (List Int)) (f:At) (w:World),LLies w so sc S qo tc T f →
  Calls Tryz.prog 27 #[.agg #[.slice so S.length sc,.slice qo T.length tc]] w (NumsPost (lastB T) w)
structure LBox(W:World)(b:Nat)(so:Option Addr)(sc:Nat)(S:List Int)(qo:Option Addr)(tc:Nat)(T:List (List Int))(f:At):Prop where
 lg:LLies W so sc S qo tc T f
 lt:b<W.heap.size
 c0:W.cell? ⟨b,0,none⟩=some (.slice so S.length sc)
 c1:W.cell? ⟨b,1,none⟩=some (.slice qo T.length tc)
theorem LBox.below{W W':World}{b:Nat}{so:Option Addr}{sc:Nat}{S:List Int}{qo:Option Addr}{tc:Nat}{T:List (List Int)}{f:At}(h:LBox W b so sc S qo tc T f)(hb:Below W.heap.size W W'):LBox W' b so sc S qo tc T f:=⟨h.lg.below hb,Nat.lt_of_lt_of_le h.lt hb.size,(hb.cell (p:=⟨b,0,none⟩) h.lt).trans h.c0,(hb.cell (p:=⟨b,1,none⟩) h.lt).trans h.c1⟩
theorem lbox_new{W:World}{so:Option Addr}{sc:Nat}{S:List Int}{qo:Option Addr}{tc:Nat}{T:List (List Int)}{f:At}(h:LLies W so sc S qo tc T f)(t:TypeId):LBox (W.alloc (.cells #[.slice so S.length sc,.slice qo T.length tc] t)) W.heap.size so sc S qo tc T f:=⟨h.below ((Below.refl _ _).alloc (Nat.le_refl _) _),by simp,by simp,by simp⟩
theorem logged_lies{B:Nat}{W:World}{L:List K}{C S:List Int}{T:List (List Int)}{s:Int}{so:Option Addr}{sc:Nat}{vo:Option Addr}{vc:Nat}{f:At}(h1:Memb.Own B W so sc (seenL L C S T s))(h2:OwnLL B W (.slice vo (toldL L C S T s).length vc) (toldL L C S T s) f)(hS:S.length≤41)(hT:T.length≤41)(hr:∀i,i<T.length→(T.getD i []).length≤3661)(hsb:BdS S):LLies W so sc (seenL L C S T s) vo vc (toldL L C S T s) f:=by
 obtain⟨k1,k2,k3⟩:=own_log h1 h2;refine⟨k1,k2,k3,?_,?_,?_,own_cap h1,seen_bd hsb⟩
 all_goals
   unfold seenL toldL at *;by_cases a:logB L C S T=true
   · try rw [if_pos a]
     by_cases b:goesB L C S T s=true
     · try rw [if_pos b]
       have b':=b;unfold goesB at b';rw [Bool.and_eq_true,Bool.and_eq_true] at b';obtain⟨q1,q2,q3,q4,_⟩:=log_parts b'.2.2
       first
       | omega
       | (intro i hi
          by_cases e:i<T.length
          · rw [getD_snoc T _ i e];exact hr i e
          · have e':i=T.length:=by simp at hi;omega
            rw [e',getD_last];have:=out_len b'.2.1 q4;omega)
     · try rw [if_neg b]
       first | exact hS | exact hT | exact hr
   · try rw [if_neg a]
     first | simp | (intro i hi;simp at hi)
theorem rd_prefix{w:World}{a:Option Addr}{S:List Int}{x:Int}(h:Lst.Rd w a (S++[x])):Lst.Rd w a S:=by
 rcases h with e | ⟨b,e,k⟩
 ·simp at e
 ·refine .inr ⟨b,e,fun j hj=>?_⟩;have:=k j (by simp;omega);rw [this];simp [List.getD,List.getElem?_append_left hj,hj]
theorem rd_last{w:World}{a:Option Addr}{S:List Int}{x:Int}(h:Lst.Rd w a (S++[x])):∃b,a=some ⟨b,0,none⟩∧w.cell? ⟨b,S.length,none⟩=some (.int .i64 x):=by
 rcases h with e | ⟨b,e,k⟩
 ·simp at e
 ·refine⟨b,e,?_⟩;have:=k S.length (by simp);rw [this];simp [List.getD]
theorem last_snoc(T:List (List Int))(l:List Int):lastB (T++[l])=l:=by
 unfold lastB;simp [List.getD]
theorem last_len{T:List (List Int)}{m:Nat}(h:∀i,i<T.length→(T.getD i []).length≤m):(lastB T).length≤m:=by
 unfold lastB;by_cases e:T.length=0
 ·rw [List.length_eq_zero_iff.1 e];simp
 ·exact h _ (by omega)
theorem goes_begins{L:List K}{C S:List Int}{T:List (List Int)}{s:Int}(h:goesB L C S T s=true):seenL L C S T s=S++[s]∧toldL L C S T s=T++[outL L C s]∧logB L C (S++[s]) (T++[outL L C s])=true∧outI L C s=outL L C s∧beginsB (outL L C s) (lastB T)=true∧S.length≤39:=by
 have h':=h;unfold goesB at h';rw [Bool.and_eq_true,Bool.and_eq_true] at h';obtain⟨a1,a2,a3,a4,a5⟩:=log_parts h'.1;obtain⟨q1,q2,q3,q4,q5⟩:=log_parts h'.2.2;refine⟨by unfold seenL;rw [if_pos h'.1,if_pos h],by unfold toldL;rw [if_pos h'.1,if_pos h],h'.2.2,?_,?_,by simp at q1;omega⟩
 ·unfold outI Fm.rightB;rw [h'.2.1,q4];rfl
 ·by_cases e:T.length=0
  ·rw [List.length_eq_zero_iff.1 e];rfl
  ·have st:=q5 S.length (by simp);unfold stepB at st;rw [Bool.and_eq_true,Bool.and_eq_true,Bool.or_eq_true] at st;rcases st.1.2 with z | z
   ·have:=of_decide_eq_true z;omega
   ·rw [Bool.and_eq_true] at z;have z2:=z.2;rw [← a2,getD_last,getD_snoc _ _ _ (by omega)] at z2;exact z2
structure Al(w W:World)(g:Nat)(L:List K)(ao:Option Addr)(C:List Int)(b5:Nat)(so:Option Addr)(sc:Nat)(S:List Int)(qo:Option Addr)(tc:Nat)(T:List (List Int))(f:At)(b7:Nat)(xo:Option Addr)(xc:Nat)(S':List Int)(yo:Option Addr)(yc:Nat)(T':List (List Int))(f':At):Prop where
 bel:Below w.heap.size w W
 l:LiesC W g L ao C
 b5:LBox W b5 so sc S qo tc T f
 b7:LBox W b7 xo xc S' yo yc T' f'
theorem Al.below{w W W':World}{g:Nat}{L:List K}{ao:Option Addr}{C:List Int}{b5:Nat}{so:Option Addr}{sc:Nat}{S:List Int}{qo:Option Addr}{tc:Nat}{T:List (List Int)}{f:At}{b7:Nat}{xo:Option Addr}{xc:Nat}{S':List Int}{yo:Option Addr}{yc:Nat}{T':List (List Int)}{f':At}(h:Al w W g L ao C b5 so sc S qo tc T f b7 xo xc S' yo yc T' f')(hb:Below W.heap.size W W'):Al w W' g L ao C b5 so sc S qo tc T f b7 xo xc S' yo yc T' f':=⟨h.bel.trans (hb.mono h.bel.size),h.l.below hb,h.b5.below hb,h.b7.below hb⟩
theorem logsWalk(HI1:ImplLogged)(HI2:ImplLogOk)(HI3:ImplLastTold)(HD:DrawsRoom)(HDC:DrawsRoomC)(a0:Option Addr)(len0 cap0:Nat)(w:World)(hcode:Cur.Code w a0 len0) :
   Calls Tryz.prog 4 #[.slice a0 len0 cap0] w fun e w'=>e=.returned (.bool true)∧Below w.heap.size w w':=by
 by_cases hbig:4096<len0
 · have hb':(4096:Int)<(len0:Int):=by omega
   go_enter Tryz.func4,Tryz.ntmps4
   go_wp2;go_ret;exact⟨rfl,Below.refl _ _⟩
 · have hb':¬ (4096:Int)<(len0:Int):=by omega
   have hle0:len0≤4096:=by omega
   have HDD:Hid DrawsRoom:=HD;have HDX:Hid DrawsRoomC:=HDC;have H1:Hid ImplLogged:=HI1;have H2:Hid ImplLogOk:=HI2;have H3:Hid ImplLastTold:=HI3;have HCode:Hid (Cur.Code w a0 len0):=hcode;clear hbig HD HDC hcode HI1 HI2 HI3;go_enter Tryz.func4,Tryz.ntmps4
   go_wp2_with (first | (go_at_call 5;go_in) | fail)
   refine(drawLogged HDD.out HDX.out a0 len0 cap0 _ hle0 HCode.out).mono ?_;rintro e w1 ⟨v,L,ao,cc,C,so,sc,S,qo,tc,T,f,s,rfl,hD1,hs⟩;obtain⟨g,cp,rfl,hcp,hL1⟩:=Rm.drawn_liesC hD1.dc;have hb:Below w1.heap.size w1 (w1.alloc (.cells #[.slice so S.length sc,.slice qo T.length tc] 43)):=(Below.refl _ _).alloc (Nat.le_refl _) _;have HB1:Hid (Below w.heap.size w (w1.alloc (.cells #[.slice so S.length sc,.slice qo T.length tc] 43))∧LiesC (w1.alloc (.cells #[.slice so S.length sc,.slice qo T.length tc] 43)) g L ao C∧LBox (w1.alloc (.cells #[.slice so S.length sc,.slice qo T.length tc] 43)) w1.heap.size so sc S qo tc T f):=⟨hD1.dc.dr.bel.trans (hb.mono hD1.dc.dr.bel.size),hL1.below hb,lbox_new hD1.lg _⟩
   clear hD1 hL1 hb;go_upto_region 4 with fail
   generalize w1.alloc (.cells #[.slice so S.length sc,.slice qo T.length tc] 43)=W1 at HB1 ⊢;generalize w1.heap.size=b5 at HB1 ⊢;have c0:=HB1.out.2.2.c0;have c1:=HB1.out.2.2.c1;go_wp2_with fail
   refine(H1.out g cp L ao cc C so sc S qo tc T f s W1 HB1.out.2.1 HB1.out.2.2.lg hs.1 hs.2 hcp).mono ?_;rintro e w2 ⟨xo,xc,yo,yc,f',rfl,hO,hLL,hap,hb2⟩;have hlx:=logged_lies hO hLL HB1.out.2.2.lg.s41 HB1.out.2.2.lg.t41 HB1.out.2.2.lg.row HB1.out.2.2.lg.sb;have HG:Hid (goesB L C S T s=true→_):=fun h=>goes_begins h
   have HGN:Hid (goesB L C S T s=false→(logB L C S T=true→seenL L C S T s=S∧toldL L C S T s=T)∧(logB L C S T=false→seenL L C S T s=[]∧toldL L C S T s=[])):=fun h=>⟨fun a=>by unfold seenL toldL;rw [a,h];exact⟨rfl,rfl⟩,fun a=>by unfold seenL toldL;rw [a];exact⟨rfl,rfl⟩⟩
   have HGL:Hid (goesB L C S T s=true→logB L C S T=true):=fun h=>by unfold goesB at h;rw [Bool.and_eq_true] at h;exact h.1
   have HSPL:Hid (∀X:World,LiesC X g L ao C→LLies X so sc S qo tc T f→Calls Tryz.prog 23 #[.slice (some ⟨g,0,none⟩) L.length cp,.slice ao C.length cc,.agg #[.slice so S.length sc,.slice qo T.length tc],.int .i64 s] X (LoggedPost L C S T s X)):=fun X h1 h2=>specLogged g 0 cp L ao cc C so qo sc tc S T f s X hcp h1.l.words h1.lt h1.l.rd (by have:=h1.c.len;omega) h1.c.rd h1.c.at' h2.rd h2.sn h2.tn (by have:=h2.s41;omega) (by have:=h2.t41;omega) (fun i hi=>by have:=h2.row i hi;omega)
   have HSPLX:Hid (∀X:World,LiesC X g L ao C→LLies X so sc S qo tc T f→Calls Tryz.prog 23 #[.slice (some ⟨g,0,none⟩) L.length cp,.slice ao C.length cc,.agg #[.slice so S.length sc,.slice qo T.length tc],.int .i64 s] X fun e w'=>∃vo vc uo uc fu,e=.returned (.tuple #[.agg #[.slice vo (seenL L C S T s).length vc,.slice uo (toldL L C S T s).length uc],.bool (goesB L C S T s)])∧LLies w' vo vc (seenL L C S T s) uo uc (toldL L C S T s) fu∧Below X.heap.size X w'):=fun X h1 h2=>(HSPL.out X h1 h2).mono fun e w' q=>by
     obtain⟨vo,vc,uo,uc,fu,e1,o1,o2,_,hb⟩:=q;exact⟨vo,vc,uo,uc,fu,e1,logged_lies o1 o2 h2.s41 h2.t41 h2.row h2.sb,hb⟩
   have HB2:Hid (_):=hb2;have HLX:Hid (_):=hlx;clear hO hLL hap hb2 hlx c0 c1 HSPL;generalize hbx:goesB L C S T s=bx at HG HGN HGL HSPLX ⊢;clear hbx;have HA:Hid (Al w (w2.alloc (.cells #[.slice xo (seenL L C S T s).length xc,.slice yo (toldL L C S T s).length yc] 43)) g L ao C b5 so sc S qo tc T f w2.heap.size xo xc (seenL L C S T s) yo yc (toldL L C S T s) f'):=by
     have hb:Below w2.heap.size w2 (w2.alloc (.cells #[.slice xo (seenL L C S T s).length xc,.slice yo (toldL L C S T s).length yc] 43)):=(Below.refl _ _).alloc (Nat.le_refl _) _;exact⟨(HB1.out.1.trans (HB2.out.mono HB1.out.1.size)).trans (hb.mono (Nat.le_trans HB1.out.1.size HB2.out.size)),(HB1.out.2.1.below HB2.out).below hb,(HB1.out.2.2.below HB2.out).below hb,lbox_new HLX.out _⟩
   clear HB1 HB2 HLX;obtain⟨S',hS'⟩:∃S',S'=seenL L C S T s:=⟨_,rfl⟩
   obtain⟨T',hT'⟩:∃T',T'=toldL L C S T s:=⟨_,rfl⟩
   rw [← hS',← hT'] at HA ⊢;rw [← hS',← hT'] at HGN;have HG':Hid (bx=true→S'=S++[s]∧T'=T++[outL L C s]∧logB L C (S++[s]) (T++[outL L C s])=true∧outI L C s=outL L C s∧beginsB (outL L C s) (lastB T)=true∧S.length≤39):=fun h=>by rw [hS',hT'];exact HG.out h
   have HSP:Hid (∀X:World,LiesC X g L ao C→LLies X so sc S qo tc T f→Calls Tryz.prog 23 #[.slice (some ⟨g,0,none⟩) L.length cp,.slice ao C.length cc,.agg #[.slice so S.length sc,.slice qo T.length tc],.int .i64 s] X fun e w'=>∃vo vc uo uc fu,e=.returned (.tuple #[.agg #[.slice vo S'.length vc,.slice uo T'.length uc],.bool bx])∧LLies w' vo vc S' uo uc T' fu∧Below X.heap.size X w'):=fun X h1 h2=>by rw [hS',hT'];exact HSPLX.out X h1 h2
   clear HG HSPLX hS' hT';go_upto_region 5 with fail
   generalize w2.alloc (.cells #[.slice xo S'.length xc,.slice yo T'.length yc] 43)=W2 at HA ⊢;generalize w2.heap.size=b7 at HA ⊢;go_wp2_with fail
   refine(drawLogOk HDD.out HDX.out a0 len0 cap0 _ hle0 (Rm.code_below2 HCode.out HA.out.bel)).mono ?_;rintro e w3 ⟨v2,L2,ao2,cc2,C2,so2,sc2,S2,qo2,tc2,T2,f2,rfl,hD3⟩;obtain⟨g2,cp2,rfl,hcp2,hL3⟩:=Rm.drawn_liesC hD3.dc;have hb3:Below w3.heap.size w3 (w3.alloc (.cells #[.slice so2 S2.length sc2,.slice qo2 T2.length tc2] 43)):=(Below.refl _ _).alloc (Nat.le_refl _) _;have HA3:Hid (_):=(HA.out.below hD3.dc.dr.bel).below hb3;have HQ3:Hid (LiesC _ g2 L2 ao2 C2∧LBox _ w3.heap.size so2 sc2 S2 qo2 tc2 T2 f2):=⟨hL3.below hb3,lbox_new hD3.lg 43⟩
   clear hD3 hL3 hb3 HA;go_upto_region 6 with fail
   generalize w3.alloc (.cells #[.slice so2 S2.length sc2,.slice qo2 T2.length tc2] 43)=W3 at HA3 HQ3 ⊢;generalize w3.heap.size=b11 at HQ3 ⊢;go_wp2_with fail
   refine(drawLastTold HDD.out HDX.out a0 len0 cap0 _ hle0 (Rm.code_below2 HCode.out HA3.out.bel)).mono ?_;rintro e w4 ⟨v3,L3,ao3,cc3,C3,so3,sc3,S3,qo3,tc3,T3,f3,rfl,hD4⟩;have hb4:Below w4.heap.size w4 (w4.alloc (.cells #[.slice so3 S3.length sc3,.slice qo3 T3.length tc3] 43)):=(Below.refl _ _).alloc (Nat.le_refl _) _;have HA4:Hid (_):=(HA3.out.below hD4.dc.dr.bel).below hb4;have HQ4:Hid (LiesC _ g2 L2 ao2 C2∧LBox _ b11 so2 sc2 S2 qo2 tc2 T2 f2):=⟨(HQ3.out.1.below hD4.dc.dr.bel).below hb4,(HQ3.out.2.below hD4.dc.dr.bel).below hb4⟩
   have HT4:Hid (LBox _ w4.heap.size so3 sc3 S3 qo3 tc3 T3 f3):=lbox_new hD4.lg 43;clear hD4 hb4 HA3 HQ3 HCode HDD HDX;go_upto_region 7 with fail
   generalize w4.alloc (.cells #[.slice so3 S3.length sc3,.slice qo3 T3.length tc3] 43)=W4 at HA4 HQ4 HT4 ⊢;generalize w4.heap.size=b12 at HT4 ⊢;have c0:=HA4.out.b5.c0;have c1:=HA4.out.b5.c1;go_wp2_with fail
   refine(HSP.out _ HA4.out.l HA4.out.b5.lg).mono ?_;rintro e w5 ⟨vo,vc,uo,uc,fu,rfl,hl5,hb5⟩;have hb6:Below w5.heap.size w5 (w5.alloc (.cells #[.slice vo S'.length vc,.slice uo T'.length uc] 43)):=(Below.refl _ _).alloc (Nat.le_refl _) _;have HA5:Hid (_):=(HA4.out.below hb5).below hb6;have HQ5:Hid (LiesC _ g2 L2 ao2 C2∧LBox _ b11 so2 sc2 S2 qo2 tc2 T2 f2):=⟨(HQ4.out.1.below hb5).below hb6,(HQ4.out.2.below hb5).below hb6⟩
   have HT5:Hid (LBox _ b12 so3 sc3 S3 qo3 tc3 T3 f3):=(HT4.out.below hb5).below hb6;have HV5:Hid (LBox _ w5.heap.size vo vc S' uo uc T' fu):=lbox_new hl5 43;clear hl5 hb5 hb6 HA4 HQ4 HT4 c0 c1 HSP;go_upto_region 8 with fail
   generalize w5.alloc (.cells #[.slice vo S'.length vc,.slice uo T'.length uc] 43)=W5 at HA5 HQ5 HT5 HV5 ⊢;generalize w5.heap.size=b13 at HV5 ⊢;have HSB:Hid (∀V:World,Below W5.heap.size W5 V→V.cell? ⟨b7,0,none⟩=some (.slice xo S'.length xc)∧V.cell? ⟨b7,1,none⟩=some (.slice yo T'.length yc)∧V.cell? ⟨b13,0,none⟩=some (.slice vo S'.length vc)∧V.cell? ⟨b13,1,none⟩=some (.slice uo T'.length uc)∧V.cell? ⟨b11,0,none⟩=some (.slice so2 S2.length sc2)∧V.cell? ⟨b11,1,none⟩=some (.slice qo2 T2.length tc2)∧V.cell? ⟨b12,0,none⟩=some (.slice so3 S3.length sc3)∧V.cell? ⟨b12,1,none⟩=some (.slice qo3 T3.length tc3)):=fun V hV=>⟨(HA5.out.b7.below hV).c0,(HA5.out.b7.below hV).c1,(HV5.out.below hV).c0,(HV5.out.below hV).c1,(HQ5.out.2.below hV).c0,(HQ5.out.2.below hV).c1,(HT5.out.below hV).c0,(HT5.out.below hV).c1⟩
   have hSl:=HA5.out.b7.lg.s41;have hTl:=HA5.out.b7.lg.t41;have HTr:Hid (∀i,i<T'.length→(T'.getD i []).length≤1048576):=fun i hi=>by have:=HA5.out.b7.lg.row i hi;omega
   have HLL:Hid (∀X:World,Below W5.heap.size W5 X→Calls Tryz.prog 24 #[.agg #[.slice xo S'.length xc,.slice yo T'.length yc],.agg #[.slice vo S'.length vc,.slice uo T'.length uc]] X fun e w'=>e=.returned (.bool true)∧Below W5.heap.size W5 w'):=fun X hX=>(likeLog S' T' xo vo yo uo xc vc yc uc f' fu X (by omega) (by omega) HTr.out (HA5.out.b7.below hX).lg.rd (HV5.out.below hX).lg.rd).mono fun e w' q=>⟨q.1,hX.trans (q.2.mono hX.size)⟩
   have HO1:Hid (∀X:World,Below W5.heap.size W5 X→Calls Tryz.prog 25 #[.slice (some ⟨g2,0,none⟩) L2.length cp2,.slice ao2 C2.length cc2,.agg #[.slice so2 S2.length sc2,.slice qo2 T2.length tc2]] X fun e w'=>e=.returned (.bool (logB L2 C2 S2 T2))∧Below W5.heap.size W5 w'):=fun X hX=>(H2.out g2 cp2 L2 ao2 cc2 C2 so2 sc2 S2 qo2 tc2 T2 f2 X (HQ5.out.1.below hX) (HQ5.out.2.below hX).lg hcp2).mono fun e w' q=>⟨q.1,hX.trans (q.2.mono hX.size)⟩
   have HO2:Hid (∀X:World,Below W5.heap.size W5 X→Calls Tryz.prog 26 #[.slice (some ⟨g2,0,none⟩) L2.length cp2,.slice ao2 C2.length cc2,.agg #[.slice so2 S2.length sc2,.slice qo2 T2.length tc2]] X fun e w'=>e=.returned (.bool (logB L2 C2 S2 T2))∧Below W5.heap.size W5 w'):=fun X hX=>by
     have hl:=HQ5.out.1.below hX;have hg:=(HQ5.out.2.below hX).lg;exact(specLogOk g2 0 cp2 L2 ao2 cc2 C2 so2 qo2 sc2 tc2 S2 T2 f2 X hcp2 hl.l.words hl.lt hl.l.rd (by have:=hl.c.len;omega) hl.c.rd hl.c.at' hg.rd (by have:=hg.s41;omega) (by have:=hg.t41;omega) (fun i hi=>by have:=hg.row i hi;omega)).mono fun e w' q=>⟨q.1,hX.trans (q.2.mono hX.size)⟩
   have HT1:Hid (∀X:World,Below W5.heap.size W5 X→Calls Tryz.prog 27 #[.agg #[.slice so3 S3.length sc3,.slice qo3 T3.length tc3]] X fun e w'=>∃ro rc,e=.returned (.slice ro (lastB T3).length rc)∧Memb.Own X.heap.size w' ro rc (lastB T3)∧Below W5.heap.size W5 w'∧Below X.heap.size X w'):=fun X hX=>(H3.out so3 sc3 S3 qo3 tc3 T3 f3 X (HT5.out.below hX).lg).mono fun e w' q=>by
     obtain⟨ro,rc,e1,e2,e3⟩:=q;exact⟨ro,rc,e1,e2,hX.trans (e3.mono hX.size),e3⟩
   have HT2:Hid (∀X:World,Below W5.heap.size W5 X→Calls Tryz.prog 28 #[.agg #[.slice so3 S3.length sc3,.slice qo3 T3.length tc3]] X fun e w'=>∃ro rc,e=.returned (.slice ro (lastB T3).length rc)∧Memb.Own X.heap.size w' ro rc (lastB T3)∧Below W5.heap.size W5 w'∧Below X.heap.size X w'):=fun X hX=>by
     have hg:=(HT5.out.below hX).lg;refine(specLastTold so3 qo3 sc3 tc3 S3 T3 f3 X hg.rd hg.tn (by have:=hg.t41;omega) (fun i hi=>by have:=hg.row i hi;omega)).mono fun e w' q=>?_
     obtain⟨ro,rc,e1,e2,e3⟩:=q;exact⟨ro,rc,e1,e2,hX.trans (e3.mono hX.size),e3⟩
   have hm3:=last_len HT5.out.lg.row;have HLI:Hid (∀(X:World) (l:List Int) (p q:Option Addr) (pc qc:Nat),l.length≤1048576→Below W5.heap.size W5 X→Lst.Rd X p l→Lst.Rd X q l→Calls Tryz.prog 10 #[.slice p l.length pc,.slice q l.length qc] X fun e w'=>e=.returned (.bool true)∧Below W5.heap.size W5 w'):=fun X l p q pc qc hl hX h1 h2=>(likeB l p q pc qc X hl h1 h2).mono fun e w' z=>⟨z.1,hX.trans (z.2.mono hX.size)⟩
   have HAB:Hid (∀V:World,Below W5.heap.size W5 V→Al w V g L ao C b5 so sc S qo tc T f b7 xo xc S' yo yc T' f'):=fun V hV=>HA5.out.below hV
   clear HA5 HQ5 HT5 HV5 HTr;generalize logB L2 C2 S2 T2=bo at HO1 HO2;generalize lastB T3=m3 at HT1 HT2 hm3;go_cut [76] from 49 to 75 (fun bv wx=>bv=.bool false∧Hid (Al w wx g L ao C b5 so sc S qo tc T f b7 xo xc S' yo yc T' f'))
   case first=>
     as_aux_lemma=>
       go_region_held3 (fun V => V.cell? ⟨b7, 0, none⟩ = some (.slice xo S'.length xc) ∧ V.cell? ⟨b7, 1, none⟩ = some (.slice yo T'.length yc) ∧ V.cell? ⟨b13, 0, none⟩ = some (.slice vo S'.length vc) ∧ V.cell? ⟨b13, 1, none⟩ = some (.slice uo T'.length uc) ∧ V.cell? ⟨b11, 0, none⟩ = some (.slice so2 S2.length sc2) ∧ V.cell? ⟨b11, 1, none⟩ = some (.slice qo2 T2.length tc2) ∧ V.cell? ⟨b12, 0, none⟩ = some (.slice so3 S3.length sc3) ∧ V.cell? ⟨b12, 1, none⟩ = some (.slice qo3 T3.length tc3)) (first
         | exact HSB.out _ BV | exact HSB.out _ BV.drew | exact HSB.out _ (Below.refl _ _) | exact HSB.out _ (Below.refl _ _).drew | go_keep) (first
         | (go_at_call 24
            refine(HLL.out _ (by first | exact BV | exact BV.drew | exact(Below.refl _ _).drew | exact Below.refl _ _)).mono ?_;rintro e V ⟨rfl,BV⟩)
         | (go_at_call 25
            refine(HO1.out _ (by first | exact BV | exact BV.drew | exact(Below.refl _ _).drew | exact Below.refl _ _)).mono ?_;rintro e V ⟨rfl,BV⟩)
         | (go_at_call 26
            refine(HO2.out _ (by first | exact BV | exact BV.drew | exact(Below.refl _ _).drew | exact Below.refl _ _)).mono ?_;rintro e V ⟨rfl,BV⟩)
         | (go_at_call 27
            refine(HT1.out _ (by first | exact BV | exact BV.drew | exact(Below.refl _ _).drew | exact Below.refl _ _)).mono ?_;rintro e V ⟨pi,ci,rfl,Oi,BV,bi⟩)
         | (go_at_call 28
            refine(HT2.out _ (by first | exact BV | exact BV.drew | exact(Below.refl _ _).drew | exact Below.refl _ _)).mono ?_;rintro e V ⟨ps,cs,rfl,Os,BV,bs⟩)
         | (go_at_call 10
            refine(HLI.out _ m3 _ _ _ _ (by omega) (by first | exact BV | exact BV.drew) (by first | exact Lst.own_rd (Lst.own_below Oi bs) | exact Lst.own_rd Oi) (by first | exact Lst.own_rd (Lst.own_below Os bi) | exact Lst.own_rd Os)).mono ?_;rintro e V ⟨rfl,BV⟩))
       all_goals go_wp2_with fail
       all_goals go_meet
       all_goals exact⟨rfl,by first | exact HAB.out _ BV | exact HAB.out _ BV.drew⟩
   case rest=>
     obtain⟨rfl,HA6⟩:=hcut;clear HSB HLL HO1 HO2 HT1 HT2 HAB HLI hm3;have c0:=HA6.out.b5.c0;have c1:=HA6.out.b5.c1;have hl6:=HA6.out.l;have hg6:=HA6.out.b5.lg;have hlk:=specLogOk g 0 cp L ao cc C so qo sc tc S T f _ hcp hl6.l.words hl6.lt hl6.l.rd (by have:=hl6.c.len;omega) hl6.c.rd hl6.c.at' hg6.rd (by have:=hg6.s41;omega) (by have:=hg6.t41;omega) (fun i hi=>by have:=hg6.row i hi;omega);clear hl6 hg6;go_wp2_with fail
     refine hlk.mono ?_;rintro e w7 ⟨rfl,hb7⟩;have HA7:Hid (_):=HA6.out.below hb7;clear hb7 HA6 hlk c0 c1
     cases hlo:logB L C S T
     · have hbx:bx=false:=by
         cases bx
         · rfl
         · have:=HGL.out rfl;rw [hlo] at this;cases this
       subst hbx;obtain⟨e1,e2⟩:=(HGN.out rfl).2 hlo;subst e1 e2;have d0:w7.cell? ⟨b7,0,none⟩=some (.slice xo 0 xc):=HA7.out.b7.c0;have d1:w7.cell? ⟨b7,1,none⟩=some (.slice yo 0 yc):=HA7.out.b7.c1;have hlk:Calls Tryz.prog 24 #[.agg #[.slice xo 0 xc,.slice yo 0 yc],.agg #[.slice none 0 0,.slice none 0 0]] w7 fun e w'=>e=.returned (.bool true)∧Below w7.heap.size w7 w':=likeLog [] [] xo none yo none xc 0 yc 0 f' (fun _=>(none,0)) w7 (by simp) (by simp) (fun i hi=>by simp at hi) HA7.out.b7.lg.rd ⟨.inl rfl,fun c e=>(by cases e),.inl rfl,fun i hi=>absurd hi (by simp),fun i hi=>absurd hi (by simp)⟩
       have HE:Hid (Below w.heap.size w w7):=HA7.out.bel;clear HA7 hlo HG' HGN HGL;go_wp2_with fail
       refine hlk.mono ?_;rintro e w8 ⟨rfl,hb8⟩;have HE8:Hid (Below w.heap.size w w8):=HE.out.trans (hb8.mono HE.out.size);clear hb8 hlk;go_wp2;go_ret;exact⟨rfl,HE8.out⟩
     · cases bx
       · obtain⟨e1,e2⟩:=(HGN.out rfl).1 hlo;have hlk:Calls Tryz.prog 24 #[.agg #[.slice xo S'.length xc,.slice yo T'.length yc],.agg #[.slice so S.length sc,.slice qo T.length tc]] w7 fun e w'=>e=.returned (.bool true)∧Below w7.heap.size w7 w':=by
           subst e1 e2;exact likeLog _ _ xo so yo qo xc sc yc tc f' f w7 (by have:=HA7.out.b5.lg.s41;omega) (by have:=HA7.out.b5.lg.t41;omega) (fun i hi=>by have:=HA7.out.b5.lg.row i hi;omega) HA7.out.b7.lg.rd HA7.out.b5.lg.rd
         have HE:Hid (Below w.heap.size w w7):=HA7.out.bel;have d0:=HA7.out.b7.c0;have d1:=HA7.out.b7.c1;have d2:=HA7.out.b5.c0;have d3:=HA7.out.b5.c1;clear HA7 hlo HG' HGN HGL e1 e2;go_wp2_with fail
         refine hlk.mono ?_;rintro e w8 ⟨rfl,hb8⟩;have HE8:Hid (Below w.heap.size w w8):=HE.out.trans (hb8.mono HE.out.size);clear hb8 hlk;go_wp2;go_ret;exact⟨rfl,HE8.out⟩
       · obtain⟨e1,e2,g3,g4,g5,g6⟩:=HG'.out rfl;subst e1;have HT':Hid (T'=T++[outL L C s]):=e2;obtain⟨sb,hxo,hsc⟩:=rd_last HA7.out.b7.lg.rd.seen;subst hxo;have hn1:(S++[s]).length=S.length+1:=by simp
         have hsl:=HA7.out.b7.lg.rd.seenB sb rfl;have HAB:Hid (∀V:World,Below w7.heap.size w7 V→Al w V g L ao C b5 so sc S qo tc T f b7 (some ⟨sb,0,none⟩) xc (S++[s]) yo yc T' f'):=fun V hV=>HA7.out.below hV
         have HSB:Hid (∀V:World,Below w7.heap.size w7 V→V.cell? ⟨b7,0,none⟩=some (.slice (some ⟨sb,0,none⟩) (S.length+1) xc)∧V.cell? ⟨b7,1,none⟩=some (.slice yo T'.length yc)∧V.cell? ⟨b5,0,none⟩=some (.slice so S.length sc)∧V.cell? ⟨b5,1,none⟩=some (.slice qo T.length tc)∧V.cell? ⟨sb,S.length,none⟩=some (.int .i64 s)):=fun V hV=>by
           have h:=HAB.out V hV;have h0:=h.b7.c0;rw [hn1] at h0;exact⟨h0,h.b7.c1,h.b5.c0,h.b5.c1,(hV.cell (p:=⟨sb,S.length,none⟩) hsl).trans hsc⟩
         have HO1:Hid (∀X:World,Below w7.heap.size w7 X→Calls Tryz.prog 25 #[.slice (some ⟨g,0,none⟩) L.length cp,.slice ao C.length cc,.agg #[.slice (some ⟨sb,0,none⟩) (S.length+1) xc,.slice yo T'.length yc]] X fun e w'=>e=.returned (.bool true)∧Below w7.heap.size w7 w'):=fun X hX=>by
           have h:=HAB.out X hX;have q:=H2.out g cp L ao cc C (some ⟨sb,0,none⟩) xc (S++[s]) yo yc T' f' X h.l h.b7.lg hcp;rw [hn1] at q;refine q.mono fun e w' z=>⟨?_,hX.trans (z.2.mono hX.size)⟩
           rw [z.1,HT'.out,g3]
         have HT1:Hid (∀X:World,Below w7.heap.size w7 X→Calls Tryz.prog 27 #[.agg #[.slice (some ⟨sb,0,none⟩) (S.length+1) xc,.slice yo T'.length yc]] X fun e w'=>∃ro rc,e=.returned (.slice ro (outL L C s).length rc)∧Memb.Own X.heap.size w' ro rc (outL L C s)∧Below w7.heap.size w7 w'∧Below X.heap.size X w'):=fun X hX=>by
           have h:=HAB.out X hX;have q:=H3.out (some ⟨sb,0,none⟩) xc (S++[s]) yo yc T' f' X h.b7.lg;rw [hn1] at q;refine q.mono fun e w' z=>?_
           obtain⟨ro,rc,z1,z2,z3⟩:=z;have hl:lastB T'=outL L C s:=by rw [HT'.out,last_snoc]
           rw [hl] at z1 z2;exact⟨ro,rc,z1,z2,hX.trans (z3.mono hX.size),z3⟩
         have HT2:Hid (∀X:World,Below w7.heap.size w7 X→Calls Tryz.prog 28 #[.agg #[.slice so S.length sc,.slice qo T.length tc]] X fun e w'=>∃ro rc,e=.returned (.slice ro (lastB T).length rc)∧Memb.Own X.heap.size w' ro rc (lastB T)∧Below w7.heap.size w7 w'∧Below X.heap.size X w'):=fun X hX=>by
           have hg:=(HAB.out X hX).b5.lg;refine(specLastTold so qo sc tc S T f X hg.rd hg.tn (by have:=hg.t41;omega) (fun i hi=>by have:=hg.row i hi;omega)).mono fun e w' z=>?_
           obtain⟨ro,rc,z1,z2,z3⟩:=z;exact⟨ro,rc,z1,z2,hX.trans (z3.mono hX.size),z3⟩
         have HOU:Hid (∀X:World,Below w7.heap.size w7 X→Calls Tryz.prog 11 #[.slice (some ⟨g,0,none⟩) L.length cp,.slice ao C.length cc,.int .i64 s] X fun e w'=>∃ro rc,e=.returned (.slice ro (outL L C s).length rc)∧Memb.Own X.heap.size w' ro rc (outL L C s)∧Below w7.heap.size w7 w'∧Below X.heap.size X w'):=fun X hX=>by
           have hl:=(HAB.out X hX).l;have q:=Tl.specOutOf g 0 cp L ao cc C s X hcp hl.l.words hl.lt hl.l.rd (by have:=hl.c.len;omega) hl.c.rd hl.c.at';rw [g4] at q;refine q.mono fun e w' z=>?_
           obtain⟨ro,rc,z1,z2,z3⟩:=z;exact⟨ro,rc,z1,z2,hX.trans (z3.mono hX.size),z3⟩
         have hol:(outL L C s).length≤3660:=by rw [← g4];exact Tl.outI_len L C s
         have hpl:=last_len HA7.out.b5.lg.row;have HBG:Hid (∀(X:World) (p q:Option Addr) (pc qc:Nat),Below w7.heap.size w7 X→Lst.Rd X p (outL L C s)→Lst.Rd X q (lastB T)→Calls Tryz.prog 29 #[.slice p (outL L C s).length pc,.slice q (lastB T).length qc] X fun e w'=>e=.returned (.bool true)∧Below w7.heap.size w7 w'):=fun X p q pc qc hX h1 h2=>by
           have z:=Tl.specBegins p pc (outL L C s) q qc (lastB T) X (by omega) (by omega) h1 h2;rw [g5] at z;exact z.mono fun e w' y=>⟨y.1,hX.trans (y.2.mono hX.size)⟩
         have HLI:Hid (∀(X:World) (n:Nat) (p q:Option Addr) (pc qc:Nat),Below w7.heap.size w7 X→((n=S.length∧Lst.Rd X p S∧Lst.Rd X q S)∨(n=(outL L C s).length∧Lst.Rd X p (outL L C s)∧Lst.Rd X q (outL L C s)))→Calls Tryz.prog 10 #[.slice p n pc,.slice q n qc] X fun e w'=>e=.returned (.bool true)∧Below w7.heap.size w7 w'):=fun X n p q pc qc hX h=>by
           rcases h with⟨rfl,h1,h2⟩ | ⟨rfl,h1,h2⟩
           · exact(likeB S p q pc qc X (by omega) h1 h2).mono fun e w' z=>⟨z.1,hX.trans (z.2.mono hX.size)⟩
           · exact(likeB (outL L C s) p q pc qc X (by omega) h1 h2).mono fun e w' z=>⟨z.1,hX.trans (z.2.mono hX.size)⟩
         have HRS:Hid (∀X:World,Below w7.heap.size w7 X→Lst.Rd X (some ⟨sb,0,none⟩) S∧Lst.Rd X so S):=fun X hX=>⟨rd_prefix (HAB.out X hX).b7.lg.rd.seen,(HAB.out X hX).b5.lg.rd.seen⟩
         have HBE:Hid (∀X:World,Below w7.heap.size w7 X→Below w.heap.size w X):=fun X hX=>(HAB.out X hX).bel
         have hxc:S.length≤xc:=by have:=HA7.out.b7.lg.fit;rw [hn1] at this;omega
         have k0:=(HSB.out w7 (Below.refl _ _)).2.2.1;clear HA7 HAB hlo HG' HGN HGL HT' e2 g3 g4 g5 hsc hsl hn1;generalize outL L C s=ol at HT1 HOU HBG HLI hol;generalize lastB T=pl at HT2 HBG hpl;generalize T'.length=t1 at HSB HO1 HT1;go_upto_region 15 with fail
         have hw1:IntKind.i64.wrap ((S.length:Int)+1)=(S.length:Int)+1:=by rw [IntKind.wrap_i64];omega
         have hi1:(0:Int)≤(S.length:Int):=by omega
         have hi2:(S.length:Int)<(S.length:Int)+1:=by omega
         have hi3:(S.length:Int)≤(xc:Int):=by omega
         go_region_held3 (fun V => V.cell? ⟨b7, 0, none⟩ = some (.slice (some ⟨sb, 0, none⟩) (S.length + 1) xc) ∧ V.cell? ⟨b7, 1, none⟩ = some (.slice yo t1 yc) ∧ V.cell? ⟨b5, 0, none⟩ = some (.slice so S.length sc) ∧ V.cell? ⟨b5, 1, none⟩ = some (.slice qo T.length tc) ∧ V.cell? ⟨sb, S.length, none⟩ = some (.int .i64 s)) (first
           | exact HSB.out _ BV | exact HSB.out _ BV.drew | exact HSB.out _ (Below.refl _ _) | exact HSB.out _ (Below.refl _ _).drew | go_keep) (first
           | (go_at_call 25
              refine(HO1.out _ (by first | exact BV | exact BV.drew | exact(Below.refl _ _).drew | exact Below.refl _ _)).mono ?_;rintro e V ⟨rfl,BV⟩)
           | (go_at_call 27
              refine(HT1.out _ (by first | exact BV | exact BV.drew | exact(Below.refl _ _).drew | exact Below.refl _ _)).mono ?_;rintro e V ⟨pi,ci,rfl,Oi,BV,bi⟩)
           | (go_at_call 28
              refine(HT2.out _ (by first | exact BV | exact BV.drew | exact(Below.refl _ _).drew | exact Below.refl _ _)).mono ?_;rintro e V ⟨ps,cs,rfl,Os,BV,bs⟩)
           | (go_at_call 11
              refine(HOU.out _ (by first | exact BV | exact BV.drew | exact(Below.refl _ _).drew | exact Below.refl _ _)).mono ?_;rintro e V ⟨po,co,rfl,Oo,BV,bo2⟩)
           | (go_at_call 29
              refine(HBG.out _ _ _ _ _ (by first | exact BV | exact BV.drew | exact(Below.refl _ _).drew | exact Below.refl _ _) (by first | exact Lst.own_rd (Lst.own_below Oi bs) | exact Lst.own_rd Oi) (by first | exact Lst.own_rd (Lst.own_below Os bi) | exact Lst.own_rd Os)).mono ?_;rintro e V ⟨rfl,BV⟩)
           | (go_at_call 10
              refine(HLI.out _ _ _ _ _ _ (by first | exact BV | exact BV.drew | exact(Below.refl _ _).drew | exact Below.refl _ _) (by first | exact .inr ⟨rfl,by first | exact Lst.own_rd (Lst.own_below Oi bo2) | exact Lst.own_rd Oi,by first | exact Lst.own_rd (Lst.own_below Oo bi) | exact Lst.own_rd Oo⟩ | exact .inl ⟨rfl,(HRS.out _ (by first | exact BV | exact BV.drew | exact(Below.refl _ _).drew | exact Below.refl _ _)).1,(HRS.out _ (by first | exact BV | exact BV.drew | exact(Below.refl _ _).drew | exact Below.refl _ _)).2⟩)).mono ?_;rintro e V ⟨rfl,BV⟩))
         all_goals go_wp2_with fail
         all_goals go_ret
         all_goals exact⟨rfl,by first | exact HBE.out _ BV | exact HBE.out _ BV.drew⟩
end Lg
namespace Tp
open Tl (beginsB)
theorem equal(ao:Option Addr)(ca:Nat)(A:List Int)(bo:Option Addr)(cb:Nat)(D:List Int)(w:World)(hA:A.length≤1048576)(hle:D.length≤A.length)(ha:Lst.Rd w ao A)(hb:Lst.Rd w bo D) :
  Calls Tryz.prog 87 #[.slice ao D.length ca,.slice bo D.length cb] w fun e w'=>e=.returned (.bool (beginsB A D))∧Below w.heap.size w w':=by
 go_enter Tryz.func87,Tryz.ntmps87
 go_wp2;go_loopw [13] (fun i wr=>∃j n:Nat,j≤D.length∧i=.int .i64 j∧wr=w.drewN n∧Hid (∀q,q<j→(A.getD q 0 == D.getD q 0)=true)) (fun i _=>D.length-(intOf i).toNat)
 case atStart=>exact⟨0,0,by omega,rfl,rfl,fun q hq=>absurd hq (by omega)⟩
 case round=>
  obtain⟨j,n,hj,rfl,rfl,HE⟩:=hrel;by_cases hlt:j<D.length
  ·rcases ha with h | ⟨g,rfl,hc⟩
   ·exfalso;rw [h] at hle;simp at hle;rw [hle] at hlt;simp at hlt
   rcases hb with h | ⟨g',rfl,hc'⟩
   ·exfalso;rw [h] at hlt;simp at hlt
   have h1:=hc j (by omega);have h2:=hc' j hlt;have HNO:Hid ((A.getD j 0 == D.getD j 0)=false→beginsB A D=false):=Tl.begins_no j hlt;have HST:Hid ((A.getD j 0 == D.getD j 0)=true→∀q,q<j+1→(A.getD q 0 == D.getD q 0)=true):=fun h q hq=>by
    by_cases e:q=j
    ·subst e;exact h
    ·exact HE.out q (by omega)
   have hjD:(j:Int)<(D.length:Int):=by omega
   clear hc hc' HE;generalize A.getD j 0=x at h1 HNO HST;generalize D.getD j 0=y at h2 HNO HST
   cases hxy:(x == y)
   ·have HT:Hid (beginsB A D=false):=HNO.out hxy;clear HNO HST;go_wp2_with fail
    go_quiet (fail)
    go_wp2;go_ret;exact⟨by rw [HT.out];rfl,by first | exact Nu.below_drewN (Below.refl _ _) _ | exact Nu.below_drewN (Nu.below_drewN (Below.refl _ _) _) _⟩
   ·have HS2:Hid (_):=HST.out hxy;clear HNO HST;go_wp2_with fail
    go_quiet (fail)
    go_wp2;go_roundw
    case rel=>exact⟨j+1,_,by omega,by go_num,rfl,HS2⟩
    case measure=>simp [intOf];omega
  ·obtain rfl:j=D.length:=by omega
   have HT:Hid (beginsB A D=true):=Tl.begins_yes hle HE.out;clear HE;go_wp2;go_ret;exact⟨by rw [HT.out];rfl,by first | exact Nu.below_drewN (Below.refl _ _) _ | exact Nu.below_drewN (Nu.below_drewN (Below.refl _ _) _) _⟩
theorem implBegins(ao:Option Addr)(ca:Nat)(A:List Int)(bo:Option Addr)(cb:Nat)(D:List Int)(w:World)(hcap:A.length≤ca)(hA:A.length≤1048576)(hD:D.length≤1048576)(ha:Lst.Rd w ao A)(hb:Lst.Rd w bo D) :
  Calls Tryz.prog 89 #[.slice ao A.length ca,.slice bo D.length cb] w fun e w'=>e=.returned (.bool (beginsB A D))∧Below w.heap.size w w':=by
 by_cases hlong:A.length<D.length
 ·have HT:Hid (beginsB A D=false):=Tl.begins_long hlong;have hl':¬ (D.length:Int)≤(A.length:Int):=by omega
  go_enter Tryz.func89,Tryz.ntmps89
  go_wp2;go_ret;exact⟨by rw [HT.out];rfl,Below.refl _ _⟩
 ·have hl':(D.length:Int)≤(A.length:Int):=by omega
  have hle:D.length≤A.length:=by omega
  have hc1:(D.length:Int)≤(ca:Int):=by omega
  have HEQ:Hid (∀(po:Option Addr) (pc:Nat),Lst.Rd w po A→Calls Tryz.prog 87 #[.slice po D.length pc,.slice bo D.length cb] w fun e w'=>e=.returned (.bool (beginsB A D))∧Below w.heap.size w w'):=fun po pc h=>equal po pc A bo cb D w hA hle h hb
  have HRA:Hid (Lst.Rd w ao A):=ha;clear hlong ha hb;go_enter Tryz.func89,Tryz.ntmps89
  generalize beginsB A D=ans at HEQ ⊢
  cases ao with
  | none=>
   go_wp2_with fail
   refine(HEQ.out _ _ HRA.out).mono ?_;rintro e w1 ⟨rfl,hb1⟩;clear HEQ;go_wp2;go_ret;exact⟨rfl,hb1⟩
  | some a=>
   go_wp2_with fail
   refine(HEQ.out _ _ HRA.out).mono ?_;rintro e w1 ⟨rfl,hb1⟩;clear HEQ;go_wp2;go_ret;exact⟨rfl,hb1⟩
end Tp
end
section
open Go.RowKit Go.Shelf Go.Extern.Stop Go.Stop
namespace Lo
open Lg (At)
def recV(h:At)(S:List Int)(T:List (List Int)):Nat→Value
 | 0=>.iface 117 (.agg #[])
 | n+1=>.iface 121 (.agg #[recV h S T n,.int .i64 (S.getD n 0),.slice (h n).1 (T.getD n []).length (h n).2])
theorem recV_zero(h:At)(S:List Int)(T:List (List Int)):recV h S T 0=.iface 117 (.agg #[]):=rfl
theorem recV_succ(h:At)(S:List Int)(T:List (List Int))(n:Nat):recV h S T (n+1)=.iface 121 (.agg #[recV h S T n,.int .i64 (S.getD n 0),.slice (h n).1 (T.getD n []).length (h n).2]):=rfl
theorem recV_congr{h h':At}{S S':List Int}{T T':List (List Int)}:∀n,(∀i,i<n→h i=h' i∧S.getD i 0=S'.getD i 0∧T.getD i []=T'.getD i [])→recV h S T n=recV h' S' T' n:=by
 intro n;induction n with
 | zero=>intro _;rfl
 | succ n ih=>
  intro H;obtain⟨e1,e2,e3⟩:=H n (by omega);rw [recV_succ,recV_succ,ih (fun i hi=>H i (by omega)),e1,e2,e3]
theorem recV_if(h:At)(S:List Int)(T:List (List Int))(n:Nat):∃t x,recV h S T n=.iface t x:=by
 cases n with
 | zero=>exact⟨_,_,rfl⟩
 | succ n=>exact⟨_,_,rfl⟩
theorem pages0(W:World):Calls Tryz.prog 227 #[.agg #[]] W fun e w'=>e=.returned (.int .i64 0)∧Below W.heap.size W w':=by
 have HB:Hid (Below W.heap.size W (W.alloc (.cells #[] 117))):=(Below.refl _ _).alloc (Nat.le_refl _) _;go_enter Tryz.func227,Tryz.ntmps227
 go_wp2;go_ret;exact⟨rfl,HB.out⟩
theorem seen0(W:World):Calls Tryz.prog 228 #[.agg #[]] W fun e w'=>e=.returned (.int .i64 0)∧Below W.heap.size W w':=by
 have HB:Hid (Below W.heap.size W (W.alloc (.cells #[] 117))):=(Below.refl _ _).alloc (Nat.le_refl _) _;go_enter Tryz.func228,Tryz.ntmps228
 go_wp2;go_ret;exact⟨rfl,HB.out⟩
theorem seen1(t:TypeId)(x:Value)(s:Int)(ao:Option Addr)(n c:Nat)(W:World):Calls Tryz.prog 231 #[.agg #[.iface t x,.int .i64 s,.slice ao n c]] W fun e w'=>e=.returned (.int .i64 s)∧Below W.heap.size W w':=by
 have HB:Hid (Below W.heap.size W (W.alloc (.cells #[.iface t x,.int .i64 s,.slice ao n c] 121))):=(Below.refl _ _).alloc (Nat.le_refl _) _;go_enter Tryz.func231,Tryz.ntmps231
 go_wp2;go_ret;exact⟨rfl,HB.out⟩
theorem told1(t:TypeId)(x:Value)(s:Int)(ao:Option Addr)(n c:Nat)(W:World):Calls Tryz.prog 232 #[.agg #[.iface t x,.int .i64 s,.slice ao n c]] W fun e w'=>e=.returned (.slice ao n c)∧Below W.heap.size W w':=by
 have HB:Hid (Below W.heap.size W (W.alloc (.cells #[.iface t x,.int .i64 s,.slice ao n c] 121))):=(Below.refl _ _).alloc (Nat.le_refl _) _;go_enter Tryz.func232,Tryz.ntmps232
 go_wp2;go_ret;exact⟨rfl,HB.out⟩
theorem pages1(h:At)(S:List Int)(T:List (List Int))(n:Nat)(hn:n≤1048576):∀(s:Int) (ao:Option Addr) (m c:Nat) (W:World),Calls Tryz.prog 230 #[.agg #[recV h S T n,.int .i64 s,.slice ao m c]] W fun e w'=>e=.returned (.int .i64 ((n:Int)+1))∧Below W.heap.size W w':=by
 induction n with
 | zero=>
  intro s ao m c W;rw [recV_zero];have HB:Hid (Below W.heap.size W (W.alloc (.cells #[.iface 117 (.agg #[]),.int .i64 s,.slice ao m c] 121))):=(Below.refl _ _).alloc (Nat.le_refl _) _;go_enter Tryz.func230,Tryz.ntmps230
  go_wp2_with fail
  refine(pages0 _).mono ?_;rintro e w1 ⟨rfl,hb1⟩;have HE:Hid (Below W.heap.size W w1):=HB.out.trans (hb1.mono HB.out.size);clear hb1;go_wp2;go_ret;exact⟨rfl,HE.out⟩
 | succ n ih=>
  intro s ao m c W;rw [recV_succ];have hcall:=ih (by omega) (S.getD n 0) (h n).1 (T.getD n []).length (h n).2;have HB:Hid (Below W.heap.size W (W.alloc (.cells #[.iface 121 (.agg #[recV h S T n,.int .i64 (S.getD n 0),.slice (h n).1 (T.getD n []).length (h n).2]),.int .i64 s,.slice ao m c] 121))):=(Below.refl _ _).alloc (Nat.le_refl _) _;clear ih;generalize recV h S T n=rv at hcall HB ⊢;generalize S.getD n 0=sn at hcall HB ⊢;generalize (T.getD n []).length=tn at hcall HB ⊢;generalize (h n).1=h1 at hcall HB ⊢;generalize (h n).2=h2 at hcall HB ⊢;go_enter Tryz.func230,Tryz.ntmps230
  go_wp2_with fail
  refine(hcall _).mono ?_;rintro e w1 ⟨rfl,hb1⟩;have HE:Hid (Below W.heap.size W w1):=HB.out.trans (hb1.mono HB.out.size);clear hb1 hcall;go_wp2;go_ret;exact⟨by simp,HE.out⟩
theorem lacksT(v:Value)(xT:TypeId)(w:World):(Instr.typeAssert (.iface 117 v) xT 142 true).run Tryz.prog w=.ok (.tuple #[.nilIface,.bool false]) w:=run_typeAssert_lacksB Tryz.underlying142 (by kernel_rfl) (by kernel_rfl) v xT w
theorem hasT(v:Value)(xT:TypeId)(w:World):(Instr.typeAssert (.iface 121 v) xT 142 true).run Tryz.prog w=.ok (.tuple #[.iface 121 v,.bool true]) w:=run_typeAssert_hasB Tryz.underlying142 (by kernel_rfl) v xT w
def LastPost(l:List Int)(w:World)(e:Ending)(w':World):Prop:=∃ao ca,e=.returned (.slice ao l.length ca)∧Lst.Rd w' ao l∧Below w.heap.size w w'
theorem last0(W:World):Calls Tryz.prog 88 #[.iface 117 (.agg #[])] W (LastPost [] W):=by
 have hl:=lacksT;have HB:Hid (Below W.heap.size W (W.alloc (.cells #[] 2))):=(Below.refl _ _).alloc (Nat.le_refl _) _;go_enter Tryz.func88,Tryz.ntmps88
 go_wp2;go_ret;exact⟨_,0,rfl,.inl rfl,HB.out⟩
theorem last1(t:TypeId)(x:Value)(s:Int)(ao:Option Addr)(l:List Int)(c:Nat)(W:World)(hr:Lst.Rd W ao l)(hao:∀g,ao=some ⟨g,0,none⟩→g<W.heap.size):Calls Tryz.prog 88 #[.iface 121 (.agg #[.iface t x,.int .i64 s,.slice ao l.length c])] W (LastPost l W):=by
 have hl:=hasT;have HR:Hid (∀w1,Below W.heap.size W w1→Lst.Rd w1 ao l):=fun w1 hb=>Ch.rd_below hr hao hb
 clear hr hao;go_enter Tryz.func88,Tryz.ntmps88
 go_wp2_with fail
 refine(told1 t x s ao l.length c _).mono ?_;rintro e w1 ⟨rfl,hb1⟩;have HB:Hid _:=hb1;clear hb1;go_wp2;go_ret;exact⟨ao,c,rfl,HR.out _ HB.out,HB.out⟩
end Lo
end
section
open Go.RowKit Go.Shelf
namespace Lo
open Kn (K okK)
open Lc (at' RdK WordsOk laceB)
open Lg (At sameB)
open Sg (closedB NumsPost)
open Tl (outL beginsB)
theorem equalN(ao:Option Addr)(ca:Nat)(A:List Int)(bo:Option Addr)(cb:Nat)(D:List Int)(w:World)(hA:A.length≤1048576)(ha:Lst.Rd w ao A)(hb:Lst.Rd w bo D) :
  Calls Tryz.prog 87 #[.slice ao A.length ca,.slice bo D.length cb] w fun e w'=>e=.returned (.bool (sameB A D))∧Below w.heap.size w w':=by
 by_cases he:A.length=D.length
 ·have HT:sameB A D=beginsB A D:=by unfold sameB;rw [decide_eq_true he];rfl
  rw [HT,he];exact Tp.equal ao ca A bo cb D w hA (by omega) ha hb
 ·have HT:Hid (sameB A D=false):=by show _=_;unfold sameB;rw [decide_eq_false he];rfl
  have he':((A.length:Int) != (D.length:Int))=true:=by simpa using (by omega:¬ (A.length:Int)=(D.length:Int))
  clear ha hb;go_enter Tryz.func87,Tryz.ntmps87
  go_wp2;go_ret;exact⟨by rw [HT.out];rfl,Below.refl _ _⟩
theorem eqlNil(a:Addr)(n c:Nat)(w:World):(binOp .eql 25 (.slice (some a) n c) (.slice none 0 0)).run Tryz.prog w=.ok (.bool false) w:=by kernel_rfl
theorem eqlNone(w:World):(binOp .eql 25 (.slice none 0 0) (.slice none 0 0)).run Tryz.prog w=.ok (.bool true) w:=by kernel_rfl
theorem cloneS(g cap:Nat)(l:List Int)(w:World)(hl:l.length≤1048576)(hlt:g<w.heap.size)(hrd:Lst.Rd w (some ⟨g,0,none⟩) l):Calls Tryz.prog 233 #[.slice (some ⟨g,0,none⟩) l.length cap] w (NumsPost l w):=by
 obtain⟨i0,hi,hz0,hz1,hz2⟩:=info_parts Memb.info2;have hrd0:Lst.Rd (w.alloc (.cells #[] 2)) (some ⟨g,0,none⟩) l:=by
  rcases hrd with h | ⟨b,hb,hc⟩
  ·exact .inl h
  ·injection hb with hb;injection hb with hb;subst hb;exact .inr ⟨g,rfl,fun j hj=>(World.cell?_alloc_lt w _ ⟨g,j,none⟩ hlt).trans (hc j hj)⟩
 have heq:=eqlNil ⟨g,0,none⟩ l.length cap;go_enter Tryz.func233,Tryz.ntmps233
 go_wp2_with (at_builtin;refine wpList_append_own _ rfl _ _ 25 rfl w.heap.size 2 i0 (.int .i64 0) 1 8 Tryz.underlying25 hi hz0 hz1 hz2 rfl (by decide) _ 0 [] rfl (Memb.own_empty w) ⟨g,0,none⟩ l.length cap (l.map (Value.int .i64)) rfl (by simp) (Rm.rd_nums hrd0 rfl) (Rm.nums_one l) ?c3 ?c4 ?c5 ?_)
 case c3=>unfold maxLen;omega
 case c4=>omega
 case c5=>simp
 intro v' w5 hown' hgrow hnil;have HR:Hid (w5.ownsRow w.heap.size 2 1 v' l.length (l.map (Value.int .i64))∧Below w.heap.size w w5):=
  ⟨by simpa using hown',((Below.refl w.heap.size w).alloc (Nat.le_refl _) _).grown hgrow (by simp) (fun i hi=>by simp [Value.ownBlock] at hi;omega)⟩
 clear hown' hgrow hi hz0 hz1 hz2 hnil;obtain⟨ao,ca,hv,ho⟩:=Memb.own_shape HR.out.1;subst hv;go_wp2;go_ret;exact⟨ao,ca,rfl,ho,HR.out.2⟩
theorem cloneNil(w:World):Calls Tryz.prog 233 #[.slice none 0 0] w (NumsPost [] w):=by
 have heq:=eqlNone;go_enter Tryz.func233,Tryz.ntmps233
 go_wp2;go_ret;exact⟨none,0,rfl,⟨rfl,.inl ⟨rfl,rfl⟩⟩,Below.refl _ _⟩
theorem clone{B:Nat}(ao:Option Addr)(ca:Nat)(l:List Int)(w:World)(hl:l.length≤1048576)(ho:Memb.Own B w ao ca l):Calls Tryz.prog 233 #[.slice ao l.length ca] w (NumsPost l w):=by
 have hrd:=Lst.own_rd ho;rcases ho.2 with⟨e,e'⟩ | ⟨g,cap,cur,e,_⟩
 ·injection e with e1 e2 e3;subst e1 e3;obtain rfl:l=[]:=List.length_eq_zero_iff.1 e';exact cloneNil w
 ·injection e with e1 e2 e3;subst e1;exact cloneS g ca l w hl (World.ownsRow.lt ho g rfl).2 hrd
theorem own_cap{B:Nat}{w:World}{a:Option Addr}{cap:Nat}{l:List Int}(h:Memb.Own B w a cap l):l.length≤cap:=by
 rcases h.2 with⟨_,e⟩ | ⟨g,c,cur,e,_,_,hc,_⟩
 ·omega
 ·injection e with _ _ e;rw [e];exact hc
def Rec(w:World)(rv:Value)(n:Nat)(u:Int)(l:List Int):Prop:=
 (rv=.iface 117 (.agg #[])∧n=0∧u=0∧l=[]) ∨
 (∃(t:TypeId) (x:Value) (ao:Option Addr) (c:Nat),rv=.iface 121 (.agg #[.iface t x,.int .i64 u,.slice ao l.length c]) ∧
   (∀W:World,Calls Tryz.prog 230 #[.agg #[.iface t x,.int .i64 u,.slice ao l.length c]] W fun e w'=>e=.returned (.int .i64 (n:Int))∧Below W.heap.size W w') ∧
   Lst.Rd w ao l∧(∀g,ao=some ⟨g,0,none⟩→g<w.heap.size))
theorem Rec.below{w w':World}{rv:Value}{n:Nat}{u:Int}{l:List Int}(h:Rec w rv n u l)(hb:Below w.heap.size w w'):Rec w' rv n u l:=by
 rcases h with h | ⟨t,x,ao,c,h1,h2,h3,h4⟩
 ·exact .inl h
 ·exact .inr ⟨t,x,ao,c,h1,h2,Ch.rd_below h3 h4 hb,fun g e=>Nat.lt_of_lt_of_le (h4 g e) hb.size⟩
def goB(L:List K)(C:List Int)(n:Nat)(u:Int)(l:List Int)(s:Int):Bool:=decide (n<40)&&(closedB L s&&(decide (bits .andNot .i64 u s=0)&&beginsB (outL L C s) l))
def LoggedP(L:List K)(C:List Int)(rv:Value)(n:Nat)(u:Int)(l:List Int)(s:Int)(w:World)(e:Ending)(w':World):Prop:=
 ((goB L C n u l s=true∧∃ro rc,e=.returned (.tuple #[.iface 121 (.agg #[rv,.int .i64 s,.slice ro (outL L C s).length rc]),.bool true])∧Memb.Own w.heap.size w' ro rc (outL L C s)) ∨
  (goB L C n u l s=false∧e=.returned (.tuple #[rv,.bool false])))∧Below w.heap.size w w'
theorem go_no40{L:List K}{C:List Int}{n:Nat}{u:Int}{l:List Int}{s:Int}(h:¬ n<40):goB L C n u l s=false:=by unfold goB;rw [decide_eq_false h];rfl
theorem go_noC{L:List K}{C:List Int}{n:Nat}{u:Int}{l:List Int}{s:Int}(h:closedB L s=false):goB L C n u l s=false:=by unfold goB;rw [h];simp
theorem go_noA{L:List K}{C:List Int}{n:Nat}{u:Int}{l:List Int}{s:Int}(h:(bits .andNot .i64 u s != 0)=true):goB L C n u l s=false:=by
 have:¬ bits .andNot .i64 u s=0:=by simpa using h
 unfold goB;rw [decide_eq_false this];simp
theorem go_yes{L:List K}{C:List Int}{n:Nat}{u:Int}{l:List Int}{s:Int}(h:n<40)(hc:closedB L s=true)(ha:(bits .andNot .i64 u s != 0)=false):goB L C n u l s=beginsB (outL L C s) l:=by
 have:bits .andNot .i64 u s=0:=by simpa using ha
 unfold goB;rw [decide_eq_true h,hc,decide_eq_true this];rfl
end Lo
end
end Go.Proofs.YtbkeldfbllhlbaaGreat
